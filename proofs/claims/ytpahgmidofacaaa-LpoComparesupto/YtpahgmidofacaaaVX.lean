/-
  one, where the first part is a function.
-/
import Derived.Test.YtpahgmidofacaaaVW
namespace Go.Proofs.Ytpahgmidofacaaa
open Go.RowKit Go.Maps


/-- The places of a part's arguments. -/
theorem Vw.argat {w0 W : World} {pb : Nat} {X : List T} {O : List (List Nat)} {bl cl bo co : Nat} {sa so : Nat → Value} (h : Vw w0 W pb X O bl cl bo co sa so) {i : Nat} (hi : i < X.length) :
    ∃ a c, so i = .slice a X[i].args.length c ∧ W.cell? ⟨bo, i, none⟩ = some (.slice a X[i].args.length c) ∧ ∀ j (hj : j < X[i].args.length), ∃ (b p : Nat), a = some ⟨b, 0, none⟩ ∧ b < W.heap.size ∧ W.cell? ⟨b, j, none⟩ = some (.int .i64 (p : Int)) ∧ p < i ∧ ∃ hp : p < X.length, X[p] = X[i].args[j] := by
  have hi' : i < O.length := by rw [h.n]; exact hi
  obtain ⟨a, c, e, q⟩ := h.r i hi'
  obtain ⟨hx, hl⟩ := h.ix i hi hi'
  have hn := hx.len
  rw [hn] at e
  refine ⟨a, c, e, by rw [← e]; exact h.o i hi, fun j hj => ?_⟩
  have hj' : j < O[i].length := by omega
  obtain ⟨b, e1, l1, c1⟩ := q j hj'
  obtain ⟨hp, e2⟩ := hx.get hj' hj
  exact ⟨b, O[i][j], e1, l1, c1, hl _ (List.getElem_mem hj'), hp, e2⟩

section
variable {w0 w : World} {g : Sg} {vn vw : Value} {px bx cx ox kx py by_ cy oy ky bt ct i k : Nat} {X Y : List T} {Ox Oy : List (List Nat)} {sax sox say soy : Nat → Value}

set_option maxRecDepth 100000 in
set_option maxHeartbeats 8000000 in
theorem one_fn (hX : Vw w0 w px X Ox bx cx ox kx sax sox) (hY : Vw w0 w py Y Oy by_ cy oy ky say soy) (hT : Tab g X Y i k bt w) (hi : i < X.length) (hk : k < Y.length) (h0 : X[i].fn.size ≠ 0) (hg : SgAt w0 g vn vw) (hw : Below w0.heap.size w0 w) :
    Calls Try.prog 52 #[gval vn vw, .pointer (some ⟨px, 0, none⟩), .pointer (some ⟨py, 0, none⟩), .slice (some ⟨bt, 0, none⟩) X.length ct, .int .i64 (i : Int), .int .i64 (k : Int)] w fun e w' => e = .returned (.bool (lgB g X[i] Y[k])) ∧ Below w.heap.size w w' := by
  obtain ⟨an, cn, rfl, _, _⟩ := hg.ns.slice
  obtain ⟨aw, cw, rfl, _, _⟩ := hg.ws.slice
  obtain ⟨nn, hnn⟩ : ∃ n, g.ns.length = n := ⟨_, rfl⟩
  obtain ⟨nw, hnw⟩ : ∃ n, g.ws.length = n := ⟨_, rfl⟩
  rw [hnn, hnw] at hg ⊢
  clear hnn hnw
  obtain ⟨s, hs⟩ : ∃ s, X[i] = s := ⟨_, rfl⟩
  obtain ⟨t, ht⟩ : ∃ t, Y[k] = t := ⟨_, rfl⟩
  obtain ⟨x0, x1, x2, xa⟩ := hX.t i hi
  obtain ⟨y0, y1, y2, ya⟩ := hY.t k hk
  obtain ⟨sa1, sc1, es1, hz1, hz1'⟩ := xa.slice
  obtain ⟨sa2, sc2, es2, hz2, hz2'⟩ := ya.slice
  obtain ⟨ss, hss⟩ : ∃ v, sax i = v := ⟨_, rfl⟩
  obtain ⟨st, hst⟩ : ∃ v, say k = v := ⟨_, rfl⟩
  rw [hs] at x0 x1 es1 xa hz1
  rw [ht] at y0 y1 es2 ya hz2
  rw [hss] at x2 es1 xa
  rw [hst] at y2 es2 ya
  obtain ⟨W1, hW1⟩ : ∃ W1, w.alloc (.cells #[.slice an nn cn, .slice aw nw cw] 25) = W1 := ⟨_, rfl⟩
  have hb1 : Below w.heap.size w W1 := by rw [← hW1]; exact below_box w _
  obtain ⟨Wd, hWd⟩ : ∃ X, W1.drew = X := ⟨_, rfl⟩
  have hbd : Below w.heap.size w Wd := by rw [← hWd]; exact hb1.drew
  obtain ⟨n0, hn0⟩ : ∃ n, Wd.heap.size = n := ⟨_, rfl⟩
  have hB0 : Below n0 W1.drew W1.drew := Below.refl _ _
  have HW : Hid (Below w.heap.size w Wd ∧ w.heap.size ≤ Wd.heap.size) := ⟨hbd, hbd.size⟩
  have qx0 : ∀ Z, Below n0 Wd Z → Z.cell? ⟨px, 0, none⟩ = some (.slice (some ⟨bx, 0, none⟩) X.length cx) := fun Z hZ => kc (hbd.trans (hZ.mono (by have := hbd.size; omega))) hX.ltp hX.c0
  have qy0 : ∀ Z, Below n0 Wd Z → Z.cell? ⟨py, 0, none⟩ = some (.slice (some ⟨by_, 0, none⟩) Y.length cy) := fun Z hZ => kc (hbd.trans (hZ.mono (by have := hbd.size; omega))) hY.ltp hY.c0
  have qx1 : ∀ Z, Below n0 Wd Z → Z.cell? ⟨bx, i * 3, none⟩ = some (.int .i64 s.v) ∧ Z.cell? ⟨bx, i * 3 + 1, none⟩ = some (.string s.fn) ∧ Z.cell? ⟨bx, i * 3 + 2, none⟩ = some ss := fun Z hZ => ⟨kc (hbd.trans (hZ.mono (by have := hbd.size; omega))) hX.ltl x0, kc (hbd.trans (hZ.mono (by have := hbd.size; omega))) hX.ltl x1, kc (hbd.trans (hZ.mono (by have := hbd.size; omega))) hX.ltl x2⟩
  have qy1 : ∀ Z, Below n0 Wd Z → Z.cell? ⟨by_, k * 3, none⟩ = some (.int .i64 t.v) ∧ Z.cell? ⟨by_, k * 3 + 1, none⟩ = some (.string t.fn) ∧ Z.cell? ⟨by_, k * 3 + 2, none⟩ = some st := fun Z hZ => ⟨kc (hbd.trans (hZ.mono (by have := hbd.size; omega))) hY.ltl y0, kc (hbd.trans (hZ.mono (by have := hbd.size; omega))) hY.ltl y1, kc (hbd.trans (hZ.mono (by have := hbd.size; omega))) hY.ltl y2⟩
  have HN : Hid (Wd.heap.size = n0) := hn0
  clear x0 x1 x2 y0 y1 y2 hb1 hbd hss hst hn0
  subst es1 es2
  have hdd : s.fn.toList.isEmpty = false := by rw [ba_isEmpty, ← hs]; exact decide_eq_false h0
  have hiI : (i : Int) < (X.length : Int) := by omega
  have hkI : (k : Int) < (Y.length : Int) := by omega
  have h0s : s.fn.size ≠ 0 := by rw [← hs]; exact h0
  rw [hs, ht]
  have HH : Hid (Vw w0 w px X Ox bx cx ox kx sax sox ∧ Vw w0 w py Y Oy by_ cy oy ky say soy ∧ Tab g X Y i k bt w ∧ SgAt w0 g (.slice an nn cn) (.slice aw nw cw) ∧ Below w0.heap.size w0 w) := ⟨hX, hY, hT, hg, hw⟩
  have HE : Hid (i < X.length ∧ k < Y.length ∧ s.fn.size ≠ 0 ∧ (∃ h : i < X.length, X[i] = s) ∧ (∃ h : k < Y.length, Y[k] = t)) := ⟨hi, hk, h0s, ⟨hi, hs⟩, ⟨hk, ht⟩⟩
  have HA1 : Hid (ArgsAt w0 (.slice sa1 s.args.length sc1) s.args) := xa
  have HA2 : Hid (ArgsAt w0 (.slice sa2 t.args.length sc2) t.args) := ya
  obtain ⟨g0, g1⟩ := box2_cells w (.slice an nn cn) (.slice aw nw cw) 25
  rw [hW1] at g0 g1
  have HG : Hid (∀ Z, Below Wd.heap.size Wd Z → Z.cell? ⟨w.heap.size, 0, none⟩ = some (.slice an nn cn) ∧ Z.cell? ⟨w.heap.size, 1, none⟩ = some (.slice aw nw cw)) := fun Z hZ => by
    have e1 : Below W1.heap.size W1 Wd := by rw [← hWd]; exact (Below.refl _ W1).drew
    have e2 : w.heap.size < W1.heap.size := by rw [← hW1]; simp
    have e3 : Below W1.heap.size W1 Z := e1.trans (hZ.mono e1.size)
    exact ⟨kc e3 e2 g0, kc e3 e2 g1⟩
  clear h0 hX hY hT hg hw hs ht h0s xa ya g0 g1
  go_enter Try.func52, Try.ntmps52
  try rw [hW1]
  go_wp2
  try rw [hW1]
  refine wp_region_held_drew (S := fun X => Below n0 W1.drew X) (by kernel_rfl) hB0 (fun hHeld => ?_)
  rw [hWd] at hHeld hB0 ⊢
  refine take_mk 0 (.pointer (some ⟨px, 0, none⟩)) rfl (by kernel_rfl) (by kernel_rfl) (by kernel_rfl) (fun _ _ _ h => h) (Or.inl ⟨by rfl, fun X hX => by go_simp⟩) (by assumption) ?_
  try simp only [Act.put, List.setIfInBounds_toArray, List.set_cons_zero, List.set_cons_succ]
  refine take_mk 1 (.pointer (some ⟨px, 0, none⟩)) rfl (by kernel_rfl) (by kernel_rfl) (by kernel_rfl) (fun _ _ _ h => h) (Or.inl ⟨by rfl, fun X hX => by go_simp⟩) (by assumption) ?_
  try simp only [Act.put, List.setIfInBounds_toArray, List.set_cons_zero, List.set_cons_succ]
  refine take_mk 2 (.pointer (some ⟨px, 0, none⟩)) rfl (by kernel_rfl) (by kernel_rfl) (by kernel_rfl) (fun _ _ _ h => h) (Or.inl ⟨by rfl, fun X hX => by go_simp⟩) (by assumption) ?_
  try simp only [Act.put, List.setIfInBounds_toArray, List.set_cons_zero, List.set_cons_succ]
  refine take_mk 3 (.slice (some ⟨bx, 0, none⟩) X.length cx) rfl (by kernel_rfl) (by kernel_rfl) (by kernel_rfl) (fun _ _ _ h => h) (Or.inl ⟨by rfl, fun X hX => by have := qx0 X hX; go_simp⟩) (by assumption) ?_
  try simp only [Act.put, List.setIfInBounds_toArray, List.set_cons_zero, List.set_cons_succ]
  refine take_mk 4 (.int .i64 (i : Int)) rfl (by kernel_rfl) (by kernel_rfl) (by kernel_rfl) (fun _ _ _ h => h) (Or.inl ⟨by rfl, fun X hX => by go_simp⟩) (by assumption) ?_
  try simp only [Act.put, List.setIfInBounds_toArray, List.set_cons_zero, List.set_cons_succ]
  refine take_mk 5 (.pointer (some ⟨bx, i * 3, none⟩)) rfl (by kernel_rfl) (by kernel_rfl) (by kernel_rfl) (fun _ _ _ h => h) (Or.inl ⟨by rfl, fun X hX => by go_simp; try (intro hh; exact absurd hh (by omega))⟩) (by assumption) ?_
  try simp only [Act.put, List.setIfInBounds_toArray, List.set_cons_zero, List.set_cons_succ]
  refine take_mk 6 (tval s (.slice sa1 s.args.length sc1)) rfl (by kernel_rfl) (by kernel_rfl) (by kernel_rfl) (fun _ _ _ h => h) (Or.inl ⟨by rfl, fun X hX => by obtain ⟨y0, y1, y2⟩ := qx1 X hX; go_simp⟩) (by assumption) ?_
  try simp only [Act.put, List.setIfInBounds_toArray, List.set_cons_zero, List.set_cons_succ]
  refine take_mk 7 (.pointer (some ⟨py, 0, none⟩)) rfl (by kernel_rfl) (by kernel_rfl) (by kernel_rfl) (fun _ _ _ h => h) (Or.inl ⟨by rfl, fun X hX => by go_simp⟩) (by assumption) ?_
  try simp only [Act.put, List.setIfInBounds_toArray, List.set_cons_zero, List.set_cons_succ]
  refine take_mk 8 (.pointer (some ⟨py, 0, none⟩)) rfl (by kernel_rfl) (by kernel_rfl) (by kernel_rfl) (fun _ _ _ h => h) (Or.inl ⟨by rfl, fun X hX => by go_simp⟩) (by assumption) ?_
  try simp only [Act.put, List.setIfInBounds_toArray, List.set_cons_zero, List.set_cons_succ]
  refine take_mk 9 (.pointer (some ⟨py, 0, none⟩)) rfl (by kernel_rfl) (by kernel_rfl) (by kernel_rfl) (fun _ _ _ h => h) (Or.inl ⟨by rfl, fun X hX => by go_simp⟩) (by assumption) ?_
  try simp only [Act.put, List.setIfInBounds_toArray, List.set_cons_zero, List.set_cons_succ]
  refine take_mk 10 (.slice (some ⟨by_, 0, none⟩) Y.length cy) rfl (by kernel_rfl) (by kernel_rfl) (by kernel_rfl) (fun _ _ _ h => h) (Or.inl ⟨by rfl, fun X hX => by have := qy0 X hX; go_simp⟩) (by assumption) ?_
  try simp only [Act.put, List.setIfInBounds_toArray, List.set_cons_zero, List.set_cons_succ]
  refine take_mk 11 (.int .i64 (k : Int)) rfl (by kernel_rfl) (by kernel_rfl) (by kernel_rfl) (fun _ _ _ h => h) (Or.inl ⟨by rfl, fun X hX => by go_simp⟩) (by assumption) ?_
  try simp only [Act.put, List.setIfInBounds_toArray, List.set_cons_zero, List.set_cons_succ]
  refine take_mk 12 (.pointer (some ⟨by_, k * 3, none⟩)) rfl (by kernel_rfl) (by kernel_rfl) (by kernel_rfl) (fun _ _ _ h => h) (Or.inl ⟨by rfl, fun X hX => by go_simp; try (intro hh; exact absurd hh (by omega))⟩) (by assumption) ?_
  try simp only [Act.put, List.setIfInBounds_toArray, List.set_cons_zero, List.set_cons_succ]
  refine take_mk 13 (tval t (.slice sa2 t.args.length sc2)) rfl (by kernel_rfl) (by kernel_rfl) (by kernel_rfl) (fun _ _ _ h => h) (Or.inl ⟨by rfl, fun X hX => by obtain ⟨y0, y1, y2⟩ := qy1 X hX; go_simp⟩) (by assumption) ?_
  try simp only [Act.put, List.setIfInBounds_toArray, List.set_cons_zero, List.set_cons_succ]
  refine wpAnyH_ready (rs := [14, 15]) (by kernel_rfl) (by simp) (AllReadyH.cons (o := ⟨_, _, _, _, _, _⟩) rfl (fun K hK => ?aa) (AllReadyH.cons (o := ⟨_, _, _, _, _, _⟩) rfl (fun K hK => ?bb) AllReadyH.nil))
  case' aa =>
    rw [if_pos (by rfl)]
    go_simp
    obtain ⟨XA, eA⟩ : ∃ X, Wd.alloc (.cells #[.int .i64 0, .string ⟨#[]⟩, .slice none 0 0] 28) = X := ⟨_, rfl⟩
    have hbA : Below n0 Wd XA := by rw [← eA, ← HN.out]; exact below_box _ _
    have hxA : XA.heap[Wd.heap.size]? = some (.cells #[.int .i64 0, .string ⟨#[]⟩, .slice none 0 0] 28 (0, 0)) := by rw [← eA]; exact (MapKept.heap_alloc _ _).1
    obtain ⟨b1, hba⟩ : ∃ bx, Wd.heap.size = bx := ⟨_, rfl⟩
    refine hK.out _ _ (by rw [← HN.out]; exact below_box _ _) (fun hHeldA => ?_)
    rw [eA] at hHeldA ⊢
    rw [hba] at hxA ⊢
    clear hK K
    try simp only [Act.put, List.setIfInBounds_toArray, List.set_cons_zero, List.set_cons_succ]
    refine wpAnyH_ready (rs := [15]) (by kernel_rfl) (by simp) (AllReadyH.cons (o := ⟨_, _, _, _, _, _⟩) rfl (fun K hK => ?_) AllReadyH.nil)
    rw [if_pos (by rfl)]
    go_simp
    obtain ⟨XB, eB⟩ : ∃ X, XA.alloc (.cells #[.int .i64 0, .string ⟨#[]⟩, .slice none 0 0] 28) = X := ⟨_, rfl⟩
    have hbB : Below XA.heap.size XA XB := by rw [← eB]; exact below_box _ _
    have hxB : XB.heap[XA.heap.size]? = some (.cells #[.int .i64 0, .string ⟨#[]⟩, .slice none 0 0] 28 (0, 0)) := by rw [← eB]; exact (MapKept.heap_alloc _ _).1
    have hsA : XA.heap.size = Wd.heap.size + 1 := by rw [← eA]; simp
    obtain ⟨b2, hbb⟩ : ∃ bx, XA.heap.size = bx := ⟨_, rfl⟩
    refine hK.out _ _ (hHeldA.trans ((below_box _ _).mono (by have := hHeldA.size; have := HN.out; omega))) (fun hHeldB => ?_)
    rw [eB] at hHeldB ⊢
    rw [hbb] at hxB ⊢
    clear hK K
    try simp only [Act.put, List.setIfInBounds_toArray, List.set_cons_zero, List.set_cons_succ]
    have hxA' := (hbB.block b1 (by omega)).trans hxA
    obtain ⟨Y1, hr1, hy1, ho1⟩ := store_term XB b1 _ _ _ (.int .i64 s.v) (.string s.fn) (.slice sa1 s.args.length sc1) hxA' (by intro u hu; simp only [List.mem_cons, List.not_mem_nil, or_false] at hu; rcases hu with rfl | rfl | rfl <;> rfl)
    have hne : b1 ≠ b2 := by omega
    have hx2' := (ho1.block b2 (Array.getElem?_eq_some_iff.1 hxB).1 (by simpa using hne.symm)).trans hxB
    obtain ⟨Y2, hr2, hy2, ho2⟩ := store_term Y1 b2 _ _ _ (.int .i64 t.v) (.string t.fn) (.slice sa2 t.args.length sc2) hx2' (by intro u hu; simp only [List.mem_cons, List.not_mem_nil, or_false] at hu; rcases hu with rfl | rfl | rfl <;> rfl)
    have hN := HN.out
    have hS1 : Below n0 Wd Y1 := hHeldB.trans (ho1.below (by have := hHeldB.size; omega) (by simp; omega))
    have hS2 : Below n0 Wd Y2 := hS1.trans (ho2.below (by have := hS1.size; omega) (by simp; omega))
    refine wpAnyH_ready (rs := [16]) (by kernel_rfl) (by simp) (AllReadyH.cons (o := ⟨_, _, _, _, _, _⟩) rfl (fun K hK => ?_) AllReadyH.nil)
    rw [if_pos (by rfl)]
    refine wp_store_run 28 _ _ rfl (.pointer (some ⟨b1, 0, none⟩)) (tval s (.slice sa1 s.args.length sc1)) rfl rfl hr1 ?_
    refine hK.out _ _ hS1 (fun _ => ?_)
    clear hK K
    try simp only [Act.put]
    refine wpAnyH_ready (rs := [17]) (by kernel_rfl) (by simp) (AllReadyH.cons (o := ⟨_, _, _, _, _, _⟩) rfl (fun K hK => ?_) AllReadyH.nil)
    rw [if_pos (by rfl)]
    refine wp_store_run 28 _ _ rfl (.pointer (some ⟨b2, 0, none⟩)) (tval t (.slice sa2 t.args.length sc2)) rfl rfl hr2 ?_
    refine hK.out _ _ hS2 (fun _ => ?_)
    clear hK K
    refine wpAnyH_done (by kernel_rfl) ?_ _
    try simp only [Act.put]
    have HB : Hid (Bo Wd s t (.slice sa1 s.args.length sc1) (.slice sa2 t.args.length sc2) b1 b2 Y2) := ⟨by rw [hN]; exact hS2, (ho2.block b1 (Array.getElem?_eq_some_iff.1 hy1).1 (by simpa using hne)).trans hy1, hy2⟩
    clear hN hS1 hS2 hr1 hr2 hy1 hy2 ho1 ho2 hx2' hxA' hxA hxB hbA hbB eA eB hHeldA hHeldB hba hbb hsA hne
  case' bb =>
    rw [if_pos (by rfl)]
    go_simp
    obtain ⟨XA, eA⟩ : ∃ X, Wd.alloc (.cells #[.int .i64 0, .string ⟨#[]⟩, .slice none 0 0] 28) = X := ⟨_, rfl⟩
    have hbA : Below n0 Wd XA := by rw [← eA, ← HN.out]; exact below_box _ _
    have hxA : XA.heap[Wd.heap.size]? = some (.cells #[.int .i64 0, .string ⟨#[]⟩, .slice none 0 0] 28 (0, 0)) := by rw [← eA]; exact (MapKept.heap_alloc _ _).1
    obtain ⟨b2, hba⟩ : ∃ bx, Wd.heap.size = bx := ⟨_, rfl⟩
    refine hK.out _ _ (by rw [← HN.out]; exact below_box _ _) (fun hHeldA => ?_)
    rw [eA] at hHeldA ⊢
    rw [hba] at hxA ⊢
    clear hK K
    try simp only [Act.put, List.setIfInBounds_toArray, List.set_cons_zero, List.set_cons_succ]
    refine wpAnyH_ready (rs := [14]) (by kernel_rfl) (by simp) (AllReadyH.cons (o := ⟨_, _, _, _, _, _⟩) rfl (fun K hK => ?_) AllReadyH.nil)
    rw [if_pos (by rfl)]
    go_simp
    obtain ⟨XB, eB⟩ : ∃ X, XA.alloc (.cells #[.int .i64 0, .string ⟨#[]⟩, .slice none 0 0] 28) = X := ⟨_, rfl⟩
    have hbB : Below XA.heap.size XA XB := by rw [← eB]; exact below_box _ _
    have hxB : XB.heap[XA.heap.size]? = some (.cells #[.int .i64 0, .string ⟨#[]⟩, .slice none 0 0] 28 (0, 0)) := by rw [← eB]; exact (MapKept.heap_alloc _ _).1
    have hsA : XA.heap.size = Wd.heap.size + 1 := by rw [← eA]; simp
    obtain ⟨b1, hbb⟩ : ∃ bx, XA.heap.size = bx := ⟨_, rfl⟩
    refine hK.out _ _ (hHeldA.trans ((below_box _ _).mono (by have := hHeldA.size; have := HN.out; omega))) (fun hHeldB => ?_)
    rw [eB] at hHeldB ⊢
    rw [hbb] at hxB ⊢
    clear hK K
    try simp only [Act.put, List.setIfInBounds_toArray, List.set_cons_zero, List.set_cons_succ]
    have hxA' := (hbB.block b2 (by omega)).trans hxA
    obtain ⟨Y1, hr1, hy1, ho1⟩ := store_term XB b1 _ _ _ (.int .i64 s.v) (.string s.fn) (.slice sa1 s.args.length sc1) hxB (by intro u hu; simp only [List.mem_cons, List.not_mem_nil, or_false] at hu; rcases hu with rfl | rfl | rfl <;> rfl)
    have hne : b1 ≠ b2 := by omega
    have hx2' := (ho1.block b2 (Array.getElem?_eq_some_iff.1 hxA').1 (by simpa using hne.symm)).trans hxA'
    obtain ⟨Y2, hr2, hy2, ho2⟩ := store_term Y1 b2 _ _ _ (.int .i64 t.v) (.string t.fn) (.slice sa2 t.args.length sc2) hx2' (by intro u hu; simp only [List.mem_cons, List.not_mem_nil, or_false] at hu; rcases hu with rfl | rfl | rfl <;> rfl)
    have hN := HN.out
    have hS1 : Below n0 Wd Y1 := hHeldB.trans (ho1.below (by have := hHeldB.size; omega) (by simp; omega))
    have hS2 : Below n0 Wd Y2 := hS1.trans (ho2.below (by have := hS1.size; omega) (by simp; omega))
    refine wpAnyH_ready (rs := [16]) (by kernel_rfl) (by simp) (AllReadyH.cons (o := ⟨_, _, _, _, _, _⟩) rfl (fun K hK => ?_) AllReadyH.nil)
    rw [if_pos (by rfl)]
    refine wp_store_run 28 _ _ rfl (.pointer (some ⟨b1, 0, none⟩)) (tval s (.slice sa1 s.args.length sc1)) rfl rfl hr1 ?_
    refine hK.out _ _ hS1 (fun _ => ?_)
    clear hK K
    try simp only [Act.put]
    refine wpAnyH_ready (rs := [17]) (by kernel_rfl) (by simp) (AllReadyH.cons (o := ⟨_, _, _, _, _, _⟩) rfl (fun K hK => ?_) AllReadyH.nil)
    rw [if_pos (by rfl)]
    refine wp_store_run 28 _ _ rfl (.pointer (some ⟨b2, 0, none⟩)) (tval t (.slice sa2 t.args.length sc2)) rfl rfl hr2 ?_
    refine hK.out _ _ hS2 (fun _ => ?_)
    clear hK K
    refine wpAnyH_done (by kernel_rfl) ?_ _
    try simp only [Act.put]
    have HB : Hid (Bo Wd s t (.slice sa1 s.args.length sc1) (.slice sa2 t.args.length sc2) b1 b2 Y2) := ⟨by rw [hN]; exact hS2, (ho2.block b1 (Array.getElem?_eq_some_iff.1 hy1).1 (by simpa using hne)).trans hy1, hy2⟩
    clear hN hS1 hS2 hr1 hr2 hy1 hy2 ho1 ho2 hx2' hxA' hxA hxB hbA hbB eA eB hHeldA hHeldB hba hbb hsA hne
  all_goals (
    clear qx0 qy0 qx1 qy1 hB0 hHeld
    obtain ⟨⟨l1, r0, r1, r2⟩, l2, u0, u1, u2⟩ := HB.out.cells
    go_wp2
    clear r0 r1 r2 u0 u1 u2 l1 l2
    obtain ⟨oa, oc, eso, _, _⟩ := HH.out.1.argat HE.out.1
    obtain ⟨pa, pc, esp, _, _⟩ := HH.out.2.1.argat HE.out.2.1
    have hes : X[i]'(HE.out.1) = s := by obtain ⟨h, e⟩ := HE.out.2.2.2.1; exact e
    have het : Y[k]'(HE.out.2.1) = t := by obtain ⟨h, e⟩ := HE.out.2.2.2.2; exact e
    have HP : Hid (∀ W, Below w.heap.size w W → W.cell? ⟨px, 1, none⟩ = some (.slice (some ⟨ox, 0, none⟩) X.length kx) ∧ W.cell? ⟨ox, i, none⟩ = some (.slice oa s.args.length oc) ∧ W.cell? ⟨py, 1, none⟩ = some (.slice (some ⟨oy, 0, none⟩) Y.length ky) ∧ W.cell? ⟨oy, k, none⟩ = some (.slice pa t.args.length pc) ∧ W.cell? ⟨px, 0, none⟩ = some (.slice (some ⟨bx, 0, none⟩) X.length cx)) := fun W hW => by
      have q1 := HH.out.1.below hW
      have q2 := HH.out.2.1.below hW
      refine ⟨q1.c1, ?_, q2.c1, ?_, q1.c0⟩
      · rw [q1.o i HE.out.1, eso, hes]
      · rw [q2.o k HE.out.2.1, esp, het]
    have HOX : Hid (∀ W, Below w.heap.size w W → ∀ j (hj : j < s.args.length), ∃ (b p : Nat), oa = some ⟨b, 0, none⟩ ∧ b < W.heap.size ∧ W.cell? ⟨b, j, none⟩ = some (.int .i64 (p : Int)) ∧ p < i ∧ ∃ hp : p < X.length, X[p] = s.args[j]) := fun W hW j hj => by
      obtain ⟨a', c', e', _, q⟩ := (HH.out.1.below hW).argat HE.out.1
      obtain ⟨rfl, _⟩ : a' = oa ∧ c' = oc := by rw [eso] at e'; injection e' with e1 e2 e3; exact ⟨e1.symm, e3.symm⟩
      obtain ⟨b, p, h1, h2, h3, h4, h5, h6⟩ := q j (by rw [hes]; exact hj)
      refine ⟨b, p, h1, h2, h3, h4, h5, ?_⟩
      rw [h6]; congr 1; rw [hes]
    have HOY : Hid (∀ W, Below w.heap.size w W → ∀ j (hj : j < t.args.length), ∃ (b p : Nat), pa = some ⟨b, 0, none⟩ ∧ b < W.heap.size ∧ W.cell? ⟨b, j, none⟩ = some (.int .i64 (p : Int)) ∧ p < k ∧ ∃ hp : p < Y.length, Y[p] = t.args[j]) := fun W hW j hj => by
      obtain ⟨a', c', e', _, q⟩ := (HH.out.2.1.below hW).argat HE.out.2.1
      obtain ⟨rfl, _⟩ : a' = pa ∧ c' = pc := by rw [esp] at e'; injection e' with e1 e2 e3; exact ⟨e1.symm, e3.symm⟩
      obtain ⟨b, p, h1, h2, h3, h4, h5, h6⟩ := q j (by rw [het]; exact hj)
      refine ⟨b, p, h1, h2, h3, h4, h5, ?_⟩
      rw [h6]; congr 1; rw [het]
    have HWB : Hid (∀ Z, Bo Wd s t (.slice sa1 s.args.length sc1) (.slice sa2 t.args.length sc2) b1 b2 Z → Below w.heap.size w Z) := fun Z hZ => HW.out.1.trans (hZ.bel.mono HW.out.2)
    clear eso esp hes het
    go_loopw [15] (fun vj wr => ∃ j : Nat, vj = .int .i64 j ∧ j ≤ s.args.length ∧ Hid (Bo Wd s t (.slice sa1 s.args.length sc1) (.slice sa2 t.args.length sc2) b1 b2 wr ∧ ∀ j' (h : j' < s.args.length), j' < j → ¬ (s.args[j'] = t ∨ lg g s.args[j'] t))) (fun vj _ => s.args.length - (intOf vj).toNat)
    case atStart => exact ⟨0, rfl, Nat.zero_le _, HB.out, fun j' _ h => by omega⟩
    case round =>
      obtain ⟨j, rfl, hj, HI⟩ := hrel
      have bw := HWB.out _ HI.out.1
      obtain ⟨⟨l1, r0, r1, r2⟩, l2, u0, u1, u2⟩ := HI.out.1.cells
      obtain ⟨p1, p2, p3, p4, p5⟩ := HP.out _ bw
      by_cases hlt : j < s.args.length
      · obtain ⟨gb1, gp, rfl, gl1, gc1, glt, ghp, gx⟩ := HOX.out _ bw j hlt
        obtain ⟨br, cr, t1, tl, t2⟩ := (HH.out.2.2.1.below bw).row gp ghp (by omega)
        have t3 := t2 k HE.out.2.1 (.inl glt)
        obtain ⟨m0, m1, m2, ma⟩ := (HH.out.1.below bw).t gp ghp
        obtain ⟨mb, mc, em, _, _⟩ := ma.slice
        rw [em] at m2 ma
        obtain ⟨hyk, eyk⟩ := HE.out.2.2.2.2
        rw [gx, eyk] at t3
        rw [gx] at m0 m1 m2 ma
        obtain ⟨x, hx⟩ : ∃ x, s.args[j] = x := ⟨_, rfl⟩
        have HX : Hid (∃ h : j < s.args.length, s.args[j] = x) := ⟨hlt, hx⟩
        rw [hx] at t3 m0 m1 m2 ma
        have hpI : (gp : Int) < (X.length : Int) := by omega
        have hjI : (j : Int) < (s.args.length : Int) := by omega
        have lt0 := (HH.out.2.2.1.below bw).lt
        have V := HH.out.1.below bw
        have bw0 : Below w0.heap.size w0 wr := HH.out.2.2.2.2.trans (bw.mono HH.out.2.2.2.2.size)
        have lw0 := bw0.size
        have F0 := cell_far (w := wr) V.ltp p5
        have F1 := cell_far (w := wr) V.ltl m0
        have F2 := cell_far (w := wr) V.ltl m1
        have F3 := cell_far (w := wr) V.ltl m2
        have F4 := cell_far (w := wr) l2 u0
        have F5 := cell_far (w := wr) l2 u1
        have F6 := cell_far (w := wr) l2 u2
        have F7 := cell_far (w := wr) lt0 t1
        have F8 := cell_far (w := wr) tl t3
        have hc : ∀ W, Below wr.heap.size wr W → Calls Try.prog 26 #[tval x (.slice mb x.args.length mc), tval t (.slice sa2 t.args.length sc2)] W fun e w' => e = .returned (.bool (same x t)) ∧ Below W.heap.size W w' := fun W hW => rsame_any _ _ _ _ W (ArgsAt.keep (bw0.trans (hW.mono lw0)) (Nat.le_refl _) ma) (ArgsAt.keep (bw0.trans (hW.mono lw0)) (Nat.le_refl _) HA2.out)
        clear t2 V lt0 ma m0 m1 m2 em t1 tl
        by_cases hsm : x = t
        · have HN : Hid (lgB g s t = true) := (one_step g s t).2.1 HE.out.2.2.1 ⟨x, by rw [← hx]; exact List.getElem_mem hlt, .inl hsm⟩
          rw [show same x t = true by simp [same, hsm]] at hc
          clear hsm hx t3 gx
          go_wp2
          refine wp_region_far (by kernel_rfl) ?_
          repeat (first | go_big_quiet_step (exact calls_far hc _) | quiet_step (exact calls_far hc _))
          refine wpQuiet_nil ?_
          intro _ hw'
          obtain ⟨pf, rfl⟩ := hw'
          go_wp2
          go_ret
          exact ⟨ret_bool HN.out.symm, bw.trans ((below_far wr pf).mono bw.size)⟩
        · rw [show same x t = false by simp [same, hsm]] at hc
          cases hz : lgB g x t
          · have HN : Hid (∀ j' (h : j' < s.args.length), j' < j + 1 → ¬ (s.args[j'] = t ∨ lg g s.args[j'] t)) := fun j' h hh => by
              rcases Nat.lt_or_ge j' j with q | q
              · exact HI.out.2 j' h q
              · have : j' = j := by omega
                subst this
                rw [hx]
                rintro (e | e)
                · exact hsm e
                · rw [lgB_iff.2 e] at hz; cases hz
            rw [hz] at F8
            clear hsm hx t3 gx hz
            go_wp2
            refine wp_region_far (by kernel_rfl) ?_
            repeat (first | go_big_quiet_step (exact calls_far hc _) | quiet_step (exact calls_far hc _))
            refine wpQuiet_nil ?_
            intro _ hw'
            obtain ⟨pf, rfl⟩ := hw'
            go_wp2
            go_roundw
            case rel => exact ⟨j + 1, by go_num, by omega, HI.out.1.below (below_far _ _), HN.out⟩
            case measure => simp [intOf]; omega
          · have HN : Hid (lgB g s t = true) := (one_step g s t).2.1 HE.out.2.2.1 ⟨x, by rw [← hx]; exact List.getElem_mem hlt, .inr (lgB_iff.1 hz)⟩
            rw [hz] at F8
            clear hsm hx t3 gx hz
            go_wp2
            refine wp_region_far (by kernel_rfl) ?_
            repeat (first | go_big_quiet_step (exact calls_far hc _) | quiet_step (exact calls_far hc _))
            refine wpQuiet_nil ?_
            intro _ hw'
            obtain ⟨pf, rfl⟩ := hw'
            go_wp2
            go_ret
            exact ⟨ret_bool HN.out.symm, bw.trans ((below_far wr pf).mono bw.size)⟩
      · have HNE : Hid (¬ ∃ a ∈ s.args, a = t ∨ lg g a t) := by
          rintro ⟨a, ha, h⟩
          obtain ⟨m, hm, rfl⟩ := List.getElem_of_mem ha
          exact HI.out.2 m hm (by omega) h
        by_cases h1 : t.fn.size = 0
        · have HN : Hid (lgB g s t = false) := (one_step g s t).2.2.1 HE.out.2.2.1 HNE.out h1
          have hde : t.fn.toList.isEmpty = true := by rw [ba_isEmpty]; simp [h1]
          clear h1
          go_wp2
          go_ret
          exact ⟨ret_bool HN.out.symm, bw⟩
        · have hde : t.fn.toList.isEmpty = false := by rw [ba_isEmpty]; exact decide_eq_false h1
          have h1f : t.fn.size ≠ 0 := h1
          clear h1
          go_wp2
          clear r0 r1 r2 u0 u1 u2 p1 p2 p3 p4 p5 l1 l2 bw
          obtain ⟨wr1, hwr1⟩ : ∃ W, W = wr := ⟨_, rfl⟩
          subst hwr1
          go_loopw [17] (fun vj wr => ∃ j : Nat, vj = .int .i64 j ∧ j ≤ t.args.length ∧ Hid (Bo Wd s t (.slice sa1 s.args.length sc1) (.slice sa2 t.args.length sc2) b1 b2 wr ∧ ∀ j' (h : j' < t.args.length), j' < j → lg g s t.args[j'])) (fun vj _ => t.args.length - (intOf vj).toNat)
          case atStart => exact ⟨0, rfl, Nat.zero_le _, HI.out.1, fun j' _ h => by omega⟩
          case round =>
            obtain ⟨j, rfl, hj, HI2⟩ := hrel
            have bw := HWB.out _ HI2.out.1
            obtain ⟨⟨l1, r0, r1, r2⟩, l2, u0, u1, u2⟩ := HI2.out.1.cells
            obtain ⟨p1, p2, p3, p4, p5⟩ := HP.out _ bw
            by_cases hlt : j < t.args.length
            · obtain ⟨gb2, gq, rfl, gl2, gc2, glt2, ghq, gy⟩ := HOY.out _ bw j hlt
              obtain ⟨br, cr, t1, tl, t2⟩ := (HH.out.2.2.1.below bw).row i HE.out.1 (Nat.le_refl _)
              have t3 := t2 gq ghq (.inr glt2)
              obtain ⟨hxi, exi⟩ := HE.out.2.2.2.1
              rw [gy, exi] at t3
              have hqI : (gq : Int) < (Y.length : Int) := by omega
              have hjI2 : (j : Int) < (t.args.length : Int) := by omega
              have lt0 := (HH.out.2.2.1.below bw).lt
              have V2 := HH.out.2.1.below bw
              have G3 := cell_far (w := wr) V2.ltp p3
              have G4 := cell_far (w := wr) V2.lto p4
              have G6 := cell_far (w := wr) gl2 gc2
              have G7 := cell_far (w := wr) lt0 t1
              clear t2 V2 lt0
              cases hz : lgB g s t.args[j]
              · rw [hz] at t3
                have HN : Hid (lgB g s t = false) := (one_step g s t).2.2.2.1 HE.out.2.2.1 HNE.out h1f (fun q => by have := lgB_iff.2 (q _ (List.getElem_mem hlt)); rw [hz] at this; cases this)
                have G8 := cell_far (w := wr) tl t3
                clear hz r0 r1 r2 u0 u1 u2
                go_wp2
                refine wp_region_far (by kernel_rfl) ?_
                repeat (first | go_big_quiet_step (fail) | quiet_step (fail))
                refine wpQuiet_nil ?_
                intro _ hw'
                obtain ⟨pf, rfl⟩ := hw'
                go_wp2
                go_ret
                exact ⟨ret_bool HN.out.symm, bw.trans ((below_far wr pf).mono bw.size)⟩
              · rw [hz] at t3
                have HN : Hid (∀ j' (h : j' < t.args.length), j' < j + 1 → lg g s t.args[j']) := fun j' h hh => by
                  rcases Nat.lt_or_ge j' j with q | q
                  · exact HI2.out.2 j' h q
                  · have : j' = j := by omega
                    subst this
                    exact lgB_iff.1 hz
                have G8 := cell_far (w := wr) tl t3
                clear hz r0 r1 r2 u0 u1 u2
                go_wp2
                refine wp_region_far (by kernel_rfl) ?_
                repeat (first | go_big_quiet_step (fail) | quiet_step (fail))
                refine wpQuiet_nil ?_
                intro _ hw'
                obtain ⟨pf, rfl⟩ := hw'
                go_wp2
                go_roundw
                case rel => exact ⟨j + 1, by go_num, by omega, HI2.out.1.below (below_far _ _), HN.out⟩
                case measure => simp [intOf]; omega
            · have HAL : Hid (∀ b ∈ t.args, lg g s b) := fun b hb => by
                obtain ⟨m, hm, rfl⟩ := List.getElem_of_mem hb
                exact HI2.out.2 m hm (by omega)
              by_cases hf : s.fn = t.fn ∧ s.args.length = t.args.length
              · have e1 : (s.fn.toList == t.fn.toList) = true := by rw [hf.1]; simp
                have e2 : (s.fn.toList != t.fn.toList) = false := by rw [bne, e1]; rfl
                have e3 : ((s.args.length : Int) != (t.args.length : Int)) = false := by rw [hf.2]; simp
                have HLE : Hid (s.fn = t.fn ∧ s.args.length = t.args.length) := hf
                have HLG : Hid (True → lgB g s t = fdB g s.args t.args) := fun _ => (one_step g s t).2.2.2.2.2 HE.out.2.2.1 HNE.out h1f HAL.out hf.1 hf.2
                clear hf
                have HI2' : Hid (Bo Wd s t (.slice sa1 s.args.length sc1) (.slice sa2 t.args.length sc2) b1 b2 wr ∧ True) := ⟨HI2.out.1, trivial⟩
                clear HI2
                have HI2 := HI2'
                clear HI2'
                go_wp2
                clear r0 r1 r2 u0 u1 u2 p1 p2 p3 p4 p5 l1 l2 bw e1 e2 e3
                obtain ⟨wr2, hwr2⟩ : ∃ W, W = wr := ⟨_, rfl⟩
                subst hwr2
                go_loopw [18] (fun vj wr => ∃ j : Nat, vj = .int .i64 j ∧ j ≤ s.args.length ∧ Hid (Bo Wd s t (.slice sa1 s.args.length sc1) (.slice sa2 t.args.length sc2) b1 b2 wr ∧ fdB g s.args t.args = fdB g (s.args.drop j) (t.args.drop j))) (fun vj _ => s.args.length - (intOf vj).toNat)
                case atStart => exact ⟨0, rfl, Nat.zero_le _, HI2.out.1, by simp⟩
                case round =>
                  obtain ⟨j, rfl, hj, HI3⟩ := hrel
                  have bw := HWB.out _ HI3.out.1
                  obtain ⟨⟨l1, r0, r1, r2⟩, l2, u0, u1, u2⟩ := HI3.out.1.cells
                  obtain ⟨p1, p2, p3, p4, p5⟩ := HP.out _ bw
                  by_cases hlt : j < s.args.length
                  · have hlt2 : j < t.args.length := by have := HLE.out.2; omega
                    obtain ⟨ab1, ao1, as1, rfl, al1, ac0, ac1, ac2, ahs⟩ := HA1.out.nth hlt
                    obtain ⟨ab2, ao2, as2, rfl, al2, bc0, bc1, bc2, bhs⟩ := HA2.out.nth hlt2
                    obtain ⟨aa1, acc1, rfl, _, _⟩ := ahs.slice
                    obtain ⟨aa2, acc2, rfl, _, _⟩ := bhs.slice
                    have bw0 : Below w0.heap.size w0 wr := HH.out.2.2.2.2.trans (bw.mono HH.out.2.2.2.2.size)
                    have lw0 := bw0.size
                    have F1 := cell_far (w := wr) l1 r2
                    have F2 := cell_far (w := wr) l2 u2
                    have F3 := cell_far (w := wr) (by omega) (kc bw0 al1 ac0)
                    have F4 := cell_far (w := wr) (by omega) (kc bw0 al1 ac1)
                    have F5 := cell_far (w := wr) (by omega) (kc bw0 al1 ac2)
                    have F6 := cell_far (w := wr) (by omega) (kc bw0 al2 bc0)
                    have F7 := cell_far (w := wr) (by omega) (kc bw0 al2 bc1)
                    have F8 := cell_far (w := wr) (by omega) (kc bw0 al2 bc2)
                    have hc : ∀ W, Below wr.heap.size wr W → Calls Try.prog 26 #[tval s.args[j] (.slice aa1 s.args[j].args.length acc1), tval t.args[j] (.slice aa2 t.args[j].args.length acc2)] W fun e w' => e = .returned (.bool (same s.args[j] t.args[j])) ∧ Below W.heap.size W w' := fun W hW => rsame_any _ _ _ _ W (ArgsAt.keep (bw0.trans (hW.mono lw0)) (Nat.le_refl _) ahs) (ArgsAt.keep (bw0.trans (hW.mono lw0)) (Nat.le_refl _) bhs)
                    have hjI : (j : Int) < (s.args.length : Int) := by omega
                    have hjI2 : (j : Int) < (t.args.length : Int) := by omega
                    have HD : Hid (s.args.drop j = s.args[j] :: s.args.drop (j + 1) ∧ t.args.drop j = t.args[j] :: t.args.drop (j + 1)) := ⟨List.drop_eq_getElem_cons hlt, List.drop_eq_getElem_cons hlt2⟩
                    obtain ⟨x, hx⟩ : ∃ x, s.args[j] = x := ⟨_, rfl⟩
                    obtain ⟨y, hy⟩ : ∃ y, t.args[j] = y := ⟨_, rfl⟩
                    have HXY : Hid ((∃ h : j < s.args.length, s.args[j] = x) ∧ ∃ h : j < t.args.length, t.args[j] = y) := ⟨⟨hlt, hx⟩, ⟨hlt2, hy⟩⟩
                    rw [hx] at hc F3 F4 F5
                    rw [hy] at hc F6 F7 F8
                    rw [hx, hy] at HD
                    by_cases hsm : x = y
                    · have HN : Hid (fdB g s.args t.args = fdB g (s.args.drop (j + 1)) (t.args.drop (j + 1))) := by
                        show _ = _
                        rw [HI3.out.2, HD.out.1, HD.out.2, fdB, if_pos hsm]
                      rw [show same x y = true by simp [same, hsm]] at hc
                      clear ac0 ac1 ac2 bc0 bc1 bc2 ahs bhs hx hy hsm r0 r1 u0 u1 p1 p2 p3 p4 p5
                      go_wp2
                      refine wp_region_far (by kernel_rfl) ?_
                      repeat (first | go_big_quiet_step (exact calls_far hc _) | quiet_step (exact calls_far hc _))
                      refine wpQuiet_nil ?_
                      intro _ hw'
                      obtain ⟨pf, rfl⟩ := hw'
                      go_wp2
                      go_roundw
                      case rel => exact ⟨j + 1, by go_num, by omega, HI3.out.1.below (below_far _ _), HN.out⟩
                      case measure => simp [intOf]; omega
                    · have HN : Hid (fdB g s.args t.args = lgB g x y) := by
                        show _ = _
                        rw [HI3.out.2, HD.out.1, HD.out.2, fdB, if_neg hsm]
                      rw [show same x y = false by simp [same, hsm]] at hc
                      obtain ⟨gb1, gp, rfl, gl1, gc1, glt, ghp, gx⟩ := HOX.out _ bw j hlt
                      obtain ⟨gb2, gq, rfl, gl2, gc2, glt2, ghq, gy⟩ := HOY.out _ bw j hlt2
                      obtain ⟨br, cr, t1, tl, t2⟩ := (HH.out.2.2.1.below bw).row gp ghp (by omega)
                      have t3 := t2 gq ghq (.inl glt)
                      rw [gx, gy, hx, hy] at t3
                      obtain ⟨z, hz⟩ : ∃ z, lgB g x y = z := ⟨_, rfl⟩
                      rw [hz] at t3 HN
                      have hpI : (gp : Int) < (X.length : Int) := by omega
                      have hqI : (gq : Int) < (Y.length : Int) := by omega
                      have lt0 := (HH.out.2.2.1.below bw).lt
                      have V := HH.out.1.below bw
                      have V2 := HH.out.2.1.below bw
                      have G1 := cell_far (w := wr) V.ltp p1
                      have G2 := cell_far (w := wr) V.lto p2
                      have G3 := cell_far (w := wr) V2.ltp p3
                      have G4 := cell_far (w := wr) V2.lto p4
                      have G5 := cell_far (w := wr) gl1 gc1
                      have G6 := cell_far (w := wr) gl2 gc2
                      have G7 := cell_far (w := wr) lt0 t1
                      have G8 := cell_far (w := wr) tl t3
                      clear ac0 ac1 ac2 bc0 bc1 bc2 ahs bhs hx hy hsm r0 r1 u0 u1 t2 V V2 hz
                      go_wp2
                      refine wp_region_far (by kernel_rfl) ?_
                      repeat (first | go_big_quiet_step (exact calls_far hc _) | quiet_step (exact calls_far hc _))
                      refine wpQuiet_nil ?_
                      intro _ hw'
                      obtain ⟨pf, rfl⟩ := hw'
                      have K1 := fun q => cell_far (w := far wr pf) (b := px) (o := 1) (by have := (below_far wr pf).size; have := HH.out.1.ltp; have := bw.size; omega) (G1 pf) q
                      have K2 := fun q => cell_far (w := far wr pf) (b := ox) (o := i) (by have := (below_far wr pf).size; have := HH.out.1.lto; have := bw.size; omega) (G2 pf) q
                      have K3 := fun q => cell_far (w := far wr pf) (b := py) (o := 1) (by have := (below_far wr pf).size; have := HH.out.2.1.ltp; have := bw.size; omega) (G3 pf) q
                      have K4 := fun q => cell_far (w := far wr pf) (b := oy) (o := k) (by have := (below_far wr pf).size; have := HH.out.2.1.lto; have := bw.size; omega) (G4 pf) q
                      have K5 := fun q => cell_far (w := far wr pf) (b := gb1) (o := j) (by have := (below_far wr pf).size; omega) (G5 pf) q
                      have K6 := fun q => cell_far (w := far wr pf) (b := gb2) (o := j) (by have := (below_far wr pf).size; omega) (G6 pf) q
                      have K7 := fun q => cell_far (w := far wr pf) (b := bt) (o := gp) (by have := (below_far wr pf).size; omega) (G7 pf) q
                      have K8 := fun q => cell_far (w := far wr pf) (b := br) (o := gq) (by have := (below_far wr pf).size; omega) (G8 pf) q
                      have HQ : Hid (Below w.heap.size w (far wr pf)) := bw.trans ((below_far wr pf).mono bw.size)
                      clear F1 F2 F3 F4 F5 F6 F7 F8 G1 G2 G3 G4 G5 G6 G7 G8
                      generalize far wr pf = wq at *
                      go_wp2
                      refine wp_region_far (by kernel_rfl) ?_
                      repeat (first | go_big_quiet_step (fail) | quiet_step (fail))
                      refine wpQuiet_nil ?_
                      intro _ hw'
                      obtain ⟨pf, rfl⟩ := hw'
                      go_wp2
                      go_ret
                      exact ⟨ret_bool (HN.out.symm.trans (HLG.out HI2.out.2).symm), HQ.out.trans ((below_far wq pf).mono HQ.out.size)⟩
                  · have HN : Hid (fdB g s.args t.args = false) := by
                      show _ = _
                      have e : s.args.drop j = [] := List.drop_eq_nil_of_le (by omega)
                      rw [HI3.out.2, e]
                      rfl
                    go_wp2
                    go_ret
                    exact ⟨ret_bool (HN.out.symm.trans (HLG.out HI2.out.2).symm), bw⟩
              · have HN : Hid (lgB g s t = tsymB g s t) := (one_step g s t).2.2.2.2.1 HE.out.2.2.1 HNE.out h1f HAL.out (by
                  by_cases q : s.fn = t.fn
                  · exact .inr fun q' => hf ⟨q, q'⟩
                  · exact .inl q)
                obtain ⟨g0, g1⟩ := HG.out _ HI2.out.1.bel
                have hsym := rsym_any g s t (.slice an nn cn) (.slice aw nw cw) sa1 sa2 sc1 sc2 wr (HH.out.2.2.2.1.keep (HH.out.2.2.2.2.trans (bw.mono HH.out.2.2.2.2.size)) (Nat.le_refl _))
                obtain ⟨z, hz⟩ : ∃ z, tsymB g s t = z := ⟨_, rfl⟩
                rw [hz] at hsym HN
                clear hz
                by_cases q : s.fn = t.fn
                · have e1 : (s.fn.toList == t.fn.toList) = true := by rw [q]; simp
                  have e2 : (s.fn.toList != t.fn.toList) = false := by rw [bne, e1]; rfl
                  have e3 : ((s.args.length : Int) != (t.args.length : Int)) = true := by
                    rw [bne_iff_ne]; intro e; exact hf ⟨q, by omega⟩
                  clear hf q
                  go_wp2_with fail
                  refine hsym.mono ?_
                  rintro e W2 ⟨rfl, hb2⟩
                  go_wp2
                  go_ret
                  exact ⟨ret_bool HN.out.symm, bw.trans (hb2.mono bw.size)⟩
                · have e1 : (s.fn.toList == t.fn.toList) = false := by rw [beq_eq_false_iff_ne]; exact fun e => q (ba_toList_inj.1 e)
                  have e2 : (s.fn.toList != t.fn.toList) = true := by rw [bne, e1]; rfl
                  clear hf q
                  go_wp2_with fail
                  refine hsym.mono ?_
                  rintro e W2 ⟨rfl, hb2⟩
                  go_wp2
                  go_ret
                  exact ⟨ret_bool HN.out.symm, bw.trans (hb2.mono bw.size)⟩)
end

end Go.Proofs.Ytpahgmidofacaaa
