import Derived.Test.YthkinkcpfcpehaaGreatDoorHC
import Derived.Test.YthkinkcpfcpehaaGreatDoorGB
import Derived.Lib.ItoaNum
namespace Go.Proofs.YthkinkcpfcpehaaGreatDoor
set_option maxRecDepth 100000
set_option maxHeartbeats 16000000
open Go.RowKit Go.Maps
open Lx (agg_store wpList_store_run row_block row_keep row_slice lit3)
/-- A variable's name by its number. -/
def nmS (n : Nat) : ByteArray := ⟨#[88]⟩ ++ ⟨(Lib.decDigits n).toArray⟩
/-- Numbers below K are told as names, in any world that grew from here. -/
def NumC (K : Nat) (w : World) : Prop := ∀ (n : Nat), n < K → ∀ W, Below w.heap.size w W → Calls Tryz.prog 73 #[.int .i64 (n : Nat)] W fun e w' => e = .returned (.string (nmS n)) ∧ Below W.heap.size W w'
theorem NumC.keep {K : Nat} {w w' : World} (h : NumC K w) (hb : Below w.heap.size w w') : NumC K w' := fun n hn W hW => h n hn W (hb.trans (hW.mono hb.size))
/-- The renamer in memory. -/
structure RN (W : World) (rb M : Nat) (nx : Int) (g : ByteArray → Option Int) (cnt : Nat) : Prop where
  box : W.heap[rb]? = some (.cells #[.int .i64 nx, .map (some M)] 78 (0, 0))
  nm : Nm W M g cnt
theorem RN.keep {W W' : World} {rb M : Nat} {nx : Int} {g : ByteArray → Option Int} {cnt : Nat} (h : RN W rb M nx g cnt) (hb : Below W.heap.size W W') : RN W' rb M nx g cnt :=
  ⟨(hb.block rb (Array.getElem?_eq_some_iff.1 h.box).1).trans h.box, h.nm.same (hb.block M h.nm.lt)⟩
/-- Which number a name has. -/
def gN (g : ByteArray → Option Int) (s : ByteArray) : Nat := ((g s).getD 0).toNat
/-- A term with its variables renamed. -/
def rnT (g : ByteArray → Option Int) : T → T
  | .mk v fn ts => if vB (.mk v fn ts) = true then .mk 0 (nmS (gN g fn)) [] else .mk 0 fn (rnTs ts)
where rnTs : List T → List T
  | [] => []
  | a :: r => rnT g a :: rnTs r
theorem rnTs_map (g : ByteArray → Option Int) (l : List T) : rnT.rnTs g l = l.map (rnT g) := by
  induction l with
  | nil => rfl
  | cons a r ih => rw [rnT.rnTs, ih]; rfl
theorem rnT_eq (g : ByteArray → Option Int) (t : T) : rnT g t = if vB t = true then .mk 0 (nmS (gN g t.fn)) [] else .mk 0 t.fn (t.args.map (rnT g)) := by cases t; rw [← rnTs_map, rnT]; rfl
theorem wideT_args {t : T} (h : wideT t = false) : t.args.length ≤ 16 ∧ ∀ a ∈ t.args, wideT a = false := by
  rw [wideT_eq, Bool.or_eq_false_iff] at h
  refine ⟨by have := of_decide_eq_false h.1; omega, fun a ha => ?_⟩
  have h2 := wides_all t.args
  rw [h.2] at h2
  have := List.all_eq_true.1 h2 a ha
  simpa using this
/-- What renaming a term does. -/
def RTP (w : World) (u : T) (e : Ending) (w' : World) : Prop := ∃ sl, e = .returned (tval u sl) ∧ ArgsP (fun k => w.heap.size ≤ k) w' sl u.args ∧ Below w.heap.size w w'
theorem rterm_any {rb M : Nat} {nx : Int} {g : ByteArray → Option Int} {cnt K : Nat} (hg : ∀ s, ∃ k : Nat, k < K ∧ (g s).getD 0 = (k : Nat)) (t : T) : t.nsm → wideT t = false → ∀ (w : World) (sl : Value), RN w rb M nx g cnt → NumC K w → ArgsAt w sl t.args → Calls Tryz.prog 71 #[.pointer (some ⟨rb, 0, none⟩), tval t sl] w (RTP w (rnT g t)) := by
  refine T.ind (P := fun t => t.nsm → wideT t = false → ∀ (w : World) (sl : Value), RN w rb M nx g cnt → NumC K w → ArgsAt w sl t.args → Calls Tryz.prog 71 #[.pointer (some ⟨rb, 0, none⟩), tval t sl] w (RTP w (rnT g t))) (fun t ih => ?_) t
  intro hnm hwd w sl hrn hnc ha
  have hb1 := below_box w (tbox t sl)
  have hz1 := (MapKept.heap_alloc w (tbox t sl)).1
  have hs1 : (w.alloc (tbox t sl)).heap.size = w.heap.size + 1 := World.size_alloc _ _
  obtain ⟨T3, hT3⟩ : ∃ R, w.heap.size = R := ⟨_, rfl⟩
  obtain ⟨w1, hw1⟩ : ∃ X : World, w.alloc (tbox t sl) = X := ⟨_, rfl⟩
  rw [hw1] at hb1 hz1 hs1
  rw [hT3] at hz1 hs1
  have hb2 := below_box w1 (.cells #[.int .i64 0, .string ⟨#[]⟩, .slice none 0 0] 24)
  have hz2 := (MapKept.heap_alloc w1 (.cells #[.int .i64 0, .string ⟨#[]⟩, .slice none 0 0] 24)).1
  obtain ⟨W0, hW0⟩ : ∃ X : World, w1.alloc (.cells #[.int .i64 0, .string ⟨#[]⟩, .slice none 0 0] 24) = X := ⟨_, rfl⟩
  have hs2 : W0.heap.size = T3 + 2 := by rw [← hW0, World.size_alloc, hs1]
  rw [hW0] at hb2 hz2
  rw [hs1] at hz2
  have HBW : Hid (∀ Z, Only [T3] w1 Z → Below T3 w Z) := fun Z ho => by
    have h1 : Below T3 w w1 := by rw [← hT3]; exact hb1
    exact h1.trans ⟨ho.os, ho.tape, ho.output, ho.size, fun k hk => ho.block k (by omega) (by simp; omega)⟩
  have HRN : Hid (∀ Z, Below T3 w Z → RN Z rb M nx g cnt ∧ NumC K Z ∧ ArgsAt Z sl t.args) := fun Z hZ => by
    rw [← hT3] at hZ
    exact ⟨hrn.keep hZ, hnc.keep hZ, ha.keep hZ (Nat.le_refl _)⟩
  have hrbT : Hid (rb < T3 ∧ M < T3) := ⟨by rw [← hT3]; exact (Array.getElem?_eq_some_iff.1 hrn.box).1, by rw [← hT3]; exact hrn.nm.lt⟩
  obtain ⟨sa, sc, rfl, hsc, hsm⟩ := ha.slice
  have hvar := isVariable_any (T.nsm_fn hnm) ((ha.keep hb1 (Nat.le_refl _)).keep hb2 (Nat.le_refl _))
  have HE := hidR (rnT_eq g t)
  have HIH := hidR ih
  have HNM := hidR (And.intro hnm (wideT_args hwd))
  have H0 := hidR (And.intro hb2 (And.intro hz2 (And.intro hs2 ((hb2.block T3 (by omega)).trans hz1))))
  have HS1 := hidR hs1
  have HW0 := hidR hW0
  have HW1 := hidR hw1
  obtain ⟨x0, x1, x2⟩ : W0.cell? ⟨T3, 0, none⟩ = some (.int .i64 t.v) ∧ W0.cell? ⟨T3, 1, none⟩ = some (.string t.fn) ∧ W0.cell? ⟨T3, 2, none⟩ = some (.slice sa t.args.length sc) := ⟨cell_storeR (vs := [_, _, _]) H0.out.2.2.2 rfl, cell_storeR (vs := [_, _, _]) H0.out.2.2.2 rfl, cell_storeR (vs := [_, _, _]) H0.out.2.2.2 rfl⟩
  obtain ⟨b1, hb1'⟩ : ∃ b, vB t = b := ⟨_, rfl⟩
  rw [hb1'] at hvar HE
  have HG := hidR (hg t.fn)
  have hfs : t.fn.size ≤ maxLen := by have := T.nsm_fn hnm; unfold maxLen; omega
  have HT3 := hidR hT3
  clear hrn hnc ha ih hb1 hz1 hb2 hz2 hs2 hW0 hw1 hnm hwd hb1' hg
  go_enter Tryz.func71, Tryz.ntmps71
  go_upto_region 1 with fail
  try simp only [hT3]
  try rw [show _ = w1 from HW1.out]
  try simp only [hs1]
  rw [show _ = W0 from HW0.out]
  clear hs1 hT3
  go_wp2_with fail
  refine hvar.mono ?_
  rintro e W1 ⟨rfl, hbW1⟩
  clear hvar x0 x1 x2
  have hz3 : W1.heap[T3]? = some (tbox t (.slice sa t.args.length sc)) := (hbW1.block T3 (by have := H0.out.2.2.1; omega)).trans H0.out.2.2.2
  have hzR : W1.heap[T3 + 1]? = some (.cells #[.int .i64 0, .string ⟨#[]⟩, .slice none 0 0] 24 (0, 0)) := (hbW1.block (T3 + 1) (by have := H0.out.2.2.1; omega)).trans H0.out.2.1
  have hb11 : Below w1.heap.size w1 W1 := H0.out.1.trans (hbW1.mono H0.out.1.size)
  obtain ⟨x0, x1, x2⟩ : W1.cell? ⟨T3, 0, none⟩ = some (.int .i64 t.v) ∧ W1.cell? ⟨T3, 1, none⟩ = some (.string t.fn) ∧ W1.cell? ⟨T3, 2, none⟩ = some (.slice sa t.args.length sc) := ⟨cell_storeR (vs := [_, _, _]) hz3 rfl, cell_storeR (vs := [_, _, _]) hz3 rfl, cell_storeR (vs := [_, _, _]) hz3 rfl⟩
  have hsz1 : T3 + 2 ≤ W1.heap.size := by have := H0.out.2.2.1; have := hbW1.size; omega
  have H1 := hidR (And.intro hzR (And.intro hb11 hsz1))
  clear hz3 hzR hb11 hbW1 hsz1 H0
  cases b1 with
  | true =>
    obtain ⟨k, hkK, hgk⟩ := HG.out
    have HEE : Hid (rnT g t = .mk 0 (nmS k) []) := by show _ = _; rw [HE.out, if_pos rfl]; unfold gN; rw [hgk]; rfl
    have hB1 := HBW.out W1 (Only.of_below H1.out.2.1)
    obtain ⟨hr1, hn1, -⟩ := HRN.out W1 hB1
    have hdr := (Below.refl W1.heap.size W1).drew
    have hnum := hn1 k hkK W1.drew hdr
    have m1 : W1.cell? ⟨rb, 1, none⟩ = some (.map (some M)) := cell_store (vs := [_, _]) hr1.box rfl
    have hnmm := hr1.nm
    have HD := hidR hdr
    have hKR : Hid (rb < W1.heap.size ∧ M < W1.heap.size ∧ rb < T3 ∧ M < T3) := ⟨(Array.getElem?_eq_some_iff.1 hr1.box).1, hnmm.lt, hrbT.out⟩
    have hkeep : Hid (∀ X, Below W1.heap.size W1 X → X.cell? ⟨rb, 1, none⟩ = some (.map (some M)) ∧ X.cell? ⟨T3, 1, none⟩ = some (.string t.fn) ∧ Nm X M g cnt) := fun X hX => ⟨kc hX hKR.out.1 m1, kc hX (by have := H1.out.2.2; omega) x1, hnmm.same (hX.block M hKR.out.2.1)⟩
    clear HE HIH HRN hr1 hn1 hB1 hdr x0 x2
    go_upto_region 2 with fail
    refine wp_region_held_drew (S := fun X => X.cell? ⟨rb, 1, none⟩ = some (.map (some M)) ∧ X.cell? ⟨T3, 1, none⟩ = some (.string t.fn) ∧ Nm X M g cnt) (by kernel_rfl) ⟨m1, x1, hnmm.same rfl⟩ (fun hHeld => ?_)
    refine Lx.take_mk 0 (.pointer (some ⟨rb, 0, none⟩)) rfl (by kernel_rfl) (by kernel_rfl) (by kernel_rfl) (fun _ _ _ h => h) (Or.inl ⟨by rfl, ?_⟩) (by first | assumption | trivial) ?_
    · intro w hSw; (try dsimp only at hSw); go_simp
    try simp only [Act.put, List.setIfInBounds_toArray, List.set_cons_zero, List.set_cons_succ]
    refine Lx.take_mk 1 (.pointer (some ⟨rb, 0, none⟩)) rfl (by kernel_rfl) (by kernel_rfl) (by kernel_rfl) (fun _ _ _ h => h) (Or.inl ⟨by rfl, ?_⟩) (by first | assumption | trivial) ?_
    · intro w hSw; (try dsimp only at hSw); go_simp
    try simp only [Act.put, List.setIfInBounds_toArray, List.set_cons_zero, List.set_cons_succ]
    refine Lx.take_mk 2 (.pointer (some ⟨rb, 1, none⟩)) rfl (by kernel_rfl) (by kernel_rfl) (by kernel_rfl) (fun _ _ _ h => h) (Or.inl ⟨by rfl, ?_⟩) (by first | assumption | trivial) ?_
    · intro w hSw; (try dsimp only at hSw); go_simp
    try simp only [Act.put, List.setIfInBounds_toArray, List.set_cons_zero, List.set_cons_succ]
    refine Lx.take_mk 3 (.map (some M)) rfl (by kernel_rfl) (by kernel_rfl) (by kernel_rfl) (fun _ _ _ h => h) (Or.inl ⟨by rfl, ?_⟩) (by first | assumption | trivial) ?_
    · intro w hSw; obtain ⟨q0, q1, q2⟩ := hSw; have q3 := q2.look hfs; rw [hgk] at q3; (try dsimp only at hSw); go_simp
    try simp only [Act.put, List.setIfInBounds_toArray, List.set_cons_zero, List.set_cons_succ]
    refine Lx.take_mk 4 (.pointer (some ⟨T3, 1, none⟩)) rfl (by kernel_rfl) (by kernel_rfl) (by kernel_rfl) (fun _ _ _ h => h) (Or.inl ⟨by rfl, ?_⟩) (by first | assumption | trivial) ?_
    · intro w hSw; (try dsimp only at hSw); go_simp
    try simp only [Act.put, List.setIfInBounds_toArray, List.set_cons_zero, List.set_cons_succ]
    refine Lx.take_mk 5 (.string t.fn) rfl (by kernel_rfl) (by kernel_rfl) (by kernel_rfl) (fun _ _ _ h => h) (Or.inl ⟨by rfl, ?_⟩) (by first | assumption | trivial) ?_
    · intro w hSw; obtain ⟨q0, q1, q2⟩ := hSw; have q3 := q2.look hfs; rw [hgk] at q3; (try dsimp only at hSw); go_simp
    try simp only [Act.put, List.setIfInBounds_toArray, List.set_cons_zero, List.set_cons_succ]
    refine Lx.take_mk 6 (.int .i64 (k : Nat)) rfl (by kernel_rfl) (by kernel_rfl) (by kernel_rfl) (fun _ _ _ h => h) (Or.inl ⟨by rfl, ?_⟩) (by first | assumption | trivial) ?_
    · intro w hSw; obtain ⟨q0, q1, q2⟩ := hSw; have q3 := q2.look hfs; rw [hgk] at q3; (try dsimp only at hSw); go_simp
    try simp only [Act.put, List.setIfInBounds_toArray, List.set_cons_zero, List.set_cons_succ]
    refine wpAnyH_ready (rs := [7]) (by kernel_rfl) (by simp) ?_
    refine AllReadyH.cons rfl (fun K hK => ?_) AllReadyH.nil
    go_simp
    refine hnum.mono ?_
    rintro e W3 ⟨rfl, hb3⟩
    have hb13 := HD.out.trans (hb3.mono HD.out.size)
    have hz13 : W3.heap[T3 + 1]? = some (.cells #[.int .i64 0, .string ⟨#[]⟩, .slice none 0 0] 24 (0, 0)) := (hb13.block (T3 + 1) (by have := H1.out.2.2; omega)).trans H1.out.1
    obtain ⟨V, hrun, hV, oV⟩ := t_store (t := .mk 0 (nmS k) []) (P := fun _ => True) (X := W3) hz13 rfl (ArgsP.nil _ W3)
    have hbl1 := HBW.out W3 (Only.of_below (H1.out.2.1.trans (hb13.mono H1.out.2.1.size)))
    have HF : Hid (Below w.heap.size w V) := by
      show Below _ _ _
      rw [HT3.out]
      exact hbl1.trans ⟨oV.os, oV.tape, oV.output, oV.size, fun j hj => oV.block j (by have := H1.out.2.2; have := hb13.size; omega) (by simp; omega)⟩
    have hS3 : W3.cell? ⟨rb, 1, none⟩ = some (.map (some M)) ∧ W3.cell? ⟨T3, 1, none⟩ = some (.string t.fn) ∧ Nm W3 M g cnt := hkeep.out W3 hb13
    have hS4 : V.cell? ⟨rb, 1, none⟩ = some (.map (some M)) ∧ V.cell? ⟨T3, 1, none⟩ = some (.string t.fn) ∧ Nm V M g cnt := by
      have h5 := hKR.out
      refine ⟨(World.cell?_of_block (a := ⟨rb, 1, none⟩) (oV.block rb (by have := hb13.size; omega) (by simp; omega))).trans hS3.1, (World.cell?_of_block (a := ⟨T3, 1, none⟩) (oV.block T3 (by have := hb13.size; have := H1.out.2.2; omega) (by simp))).trans hS3.2.1, hS3.2.2.same (oV.block M (by have := hb13.size; omega) (by simp; omega))⟩
    have HC : Hid (V.cell? ⟨T3 + 1, 0, none⟩ = some (.int .i64 0) ∧ V.cell? ⟨T3 + 1, 1, none⟩ = some (.string (nmS k)) ∧ V.cell? ⟨T3 + 1, 2, none⟩ = some (.slice none 0 0)) := (res_cells hV).1
    clear hb3 hb13 hz13 hV oV hbl1
    refine hK.out _ _ hS3 (fun hHeld => ?_)
    clear hK K
    try simp only [Act.put, List.getElem_toArray, List.getElem_cons_succ, List.getElem_cons_zero, List.setIfInBounds_toArray, List.set_cons_zero, List.set_cons_succ]
    refine Lx.take_mk 8 (.agg #[.int .i64 0, .string (nmS k), .slice none 0 0]) rfl (by kernel_rfl) (by kernel_rfl) (by kernel_rfl) (fun _ _ _ h => h) (Or.inl ⟨by rfl, ?_⟩) (by first | assumption | trivial) ?_
    · intro w hSw; (try dsimp only at hSw); go_simp
    try simp only [Act.put, List.setIfInBounds_toArray, List.set_cons_zero, List.set_cons_succ]
    refine wpAnyH_ready (rs := [9]) (by kernel_rfl) (by simp) ?_
    refine AllReadyH.cons rfl (fun K hK => ?_) AllReadyH.nil
    try rw [if_pos (by rfl)]
    refine Lx.wp_store_run 24 _ _ rfl (.pointer (some ⟨T3 + 1, 0, none⟩)) (.agg #[.int .i64 0, .string (nmS k), .slice none 0 0]) rfl (by kernel_rfl) hrun ?_
    refine hK.out _ _ hS4 (fun hHeld => ?_)
    clear hK K
    try simp only [Act.put, List.getElem_toArray, List.getElem_cons_succ, List.getElem_cons_zero]
    refine wpAnyH_done (by kernel_rfl) ?_ _
    go_wp2
    obtain ⟨v0, v1, v2⟩ := HC.out
    refine bodyPost_ret (v := .agg #[.int .i64 0, .string (nmS k), .slice none 0 0]) (by simp [results, Tryz.results71, go_sem, v0, v1, v2]) rfl ?_
    exact ⟨.slice none 0 0, by rw [HEE.out]; rfl, by rw [HEE.out]; exact ArgsP.nil _ _, HF.out⟩
  | false =>
    have HEE : Hid (rnT g t = .mk 0 t.fn (t.args.map (rnT g))) := by show _ = _; rw [HE.out, if_neg (by simp)]
    clear HE HG
    obtain ⟨i0, hi0, hz0, hz1, hz2⟩ := info_parts info24
    obtain ⟨D, hDB⟩ : ∃ D : DE, D.B = T3 := ⟨⟨T3, 0, [], none, 0⟩, rfl⟩
    obtain ⟨O, hO⟩ : ∃ O, W1.heap.size = O := ⟨_, rfl⟩
    have hbA := below_box W1 (.cells #[.int .i64 0, .string t.fn, .slice none 0 0] 24)
    have hzA := (MapKept.heap_alloc W1 (.cells #[.int .i64 0, .string t.fn, .slice none 0 0] 24)).1
    obtain ⟨W2, hW2⟩ : ∃ X : World, W1.alloc (.cells #[.int .i64 0, .string t.fn, .slice none 0 0] 24) = X := ⟨_, rfl⟩
    rw [hW2] at hbA hzA
    rw [hO] at hzA
    have hA0 : ABx D w1 (T3 + 1) O t.fn [] (.slice none 0 0) W2 := by
      have h2 := H1.out.2.2
      refine ⟨⟨(hbA.block (T3 + 1) (by omega)).trans H1.out.1, hzA, by omega, by omega, Only.of_below (H1.out.2.1.trans (hbA.mono H1.out.2.1.size)), HS1.out⟩, World.ownsRow_nil _ _ _ _, by simp⟩
    have HA0 := hidR hA0
    have y2 : W2.cell? ⟨T3, 2, none⟩ = some (.slice sa t.args.length sc) := kc hbA (by have := H1.out.2.2; omega) x2
    obtain ⟨n, hn⟩ : ∃ n, t.args.length = n := ⟨_, rfl⟩
    have HN := hidR hn
    have HW2 := hidR hW2
    have hn16 : n ≤ 16 := by have := HNM.out.2.1; omega
    rw [hn] at y2 hsc
    have HDB := hidR hDB
    clear hA0 hbA hzA hW2 x0 x2
    go_upto_region 4 with fail
    try simp only [hO]
    rw [show _ = W2 from HW2.out]
    clear HW2 hO
    go_wp2
    go_loopw [7, 25] (fun v7 vi wr => ∃ i : Nat, vi = .int .i64 i ∧ i ≤ n ∧ Hid (∃ zs v, zs.map (·.1) = (t.args.take i).map (rnT g) ∧ ABx D w1 (T3 + 1) O t.fn zs v wr)) (fun v7 vi _ => n - (intOf vi).toNat)
    case atStart => exact ⟨0, rfl, Nat.zero_le _, [], _, by simp, HA0.out⟩
    case round =>
      obtain ⟨i, rfl, hi, HI⟩ := hrel
      obtain ⟨zs, v, hzs, hA⟩ := HI.out
      obtain ⟨va, vc, rfl⟩ := row_slice hA.row
      obtain ⟨k, hK⟩ : ∃ k, zs.length = k := ⟨_, rfl⟩
      rw [hK] at hA
      have HKK := hidR hK
      have hki : k = i := by
        have h1 := congrArg List.length hzs
        rw [List.length_map, List.length_map, List.length_take, HN.out] at h1
        omega
      have hon : Only [T3] w1 wr := by have := hA.bx.on; rwa [hDB] at this
      by_cases hlt : i < n
      · have hil : i < t.args.length := by rw [HN.out]; exact hlt
        obtain ⟨hr1, hn1, has⟩ := HRN.out wr (HBW.out wr hon)
        rw [HN.out] at has
        obtain ⟨b, o, s, rfl, hbl, y0, y1, y3, hss⟩ := has.nth hil
        obtain ⟨a1, c1, rfl, _, _⟩ := hss.slice
        have hbG := below_box wr (tbox t.args[i] (.slice a1 t.args[i].args.length c1))
        have hzG := (MapKept.heap_alloc wr (tbox t.args[i] (.slice a1 t.args[i].args.length c1))).1
        obtain ⟨G, hG⟩ : ∃ G, wr.heap.size = G := ⟨_, rfl⟩
        obtain ⟨X1, hX1⟩ : ∃ X : World, wr.alloc (tbox t.args[i] (.slice a1 t.args[i].args.length c1)) = X := ⟨_, rfl⟩
        rw [hX1] at hbG hzG
        rw [hG] at hzG
        have hdr := (Below.refl X1.heap.size X1).drew
        have hbd : Below wr.heap.size wr X1.drew := hbG.trans (hdr.mono hbG.size)
        have hA1 := hA.step (Only.of_below (B := [D.B]) hbd)
        have hc := HIH.out t.args[i] (List.getElem_mem hil) (T.nsm_args HNM.out.1 _ (List.getElem_mem hil)) (HNM.out.2.2 _ (List.getElem_mem hil)) X1.drew _ (hr1.keep hbd) (hn1.keep hbd) (hss.keep hbd (Nat.le_refl _))
        have HX1 := hidR hX1
        have hAl := hA.lt
        have hvZ : ∀ g, (Value.slice va k vc).ownBlock = some g → g < G := fun g hg => by
          obtain ⟨h1, cu, hcu⟩ := row_block hA.row hg
          have := (Array.getElem?_eq_some_iff.1 hcu).1; omega
        have hGX : G < X1.heap.size := (Array.getElem?_eq_some_iff.1 hzG).1
        have HZ : Hid (ABx D w1 (T3 + 1) O t.fn zs (.slice va k vc) X1.drew ∧ O < X1.drew.heap.size ∧ (∀ g, (Value.slice va k vc).ownBlock = some g → g < X1.drew.heap.size) ∧ (∀ g, (Value.slice va k vc).ownBlock = some g → g < G)) := ⟨hA1, by show O < X1.heap.size; omega, fun g hg => by have := hvZ g hg; show g < X1.heap.size; omega, hvZ⟩
        have HGO : Hid (G ≠ O) := by show G ≠ O; omega
        have HG1 : Hid (X1.drew.heap[G]? = some (tbox t.args[i] (.slice a1 t.args[i].args.length c1)) ∧ G < X1.drew.heap.size) := ⟨hzG, hGX⟩
        have o1 : X1.cell? ⟨O, 2, none⟩ = some (.slice va k vc) := kc hbG hAl (cell_store (vs := [_, _, _]) hA.bx.out rfl)
        have HZS : Hid (∀ sl : Value, (zs ++ [(rnT g t.args[i], sl)]).map (·.1) = (t.args.take (i + 1)).map (rnT g)) := fun sl => by
          rw [List.map_append, hzs, List.take_succ_eq_append_getElem hil, List.map_append]; rfl
        have hk16 : k + 1 ≤ 17 := by omega
        generalize t.args[i] = u at y0 y1 y3 hc HX1 HG1 HZS
        have s1 := HG1.out.1
        clear hr1 hn1 has hss hbG hzG hX1 hdr hbd hA1 hA hAl hvZ hGX hon hzs HI HA0 hK hki
        go_upto_region 7 with fail
        try simp only [hG]
        rw [show _ = X1 from HX1.out]
        clear HX1 hG
        refine wp_region_held_drew (S := fun X => X.heap[G]? = some (tbox u (.slice a1 u.args.length c1))) (by kernel_rfl) s1 (fun hHeld => ?_)
        refine Lx.take_mk 0 (.pointer (some ⟨O, 2, none⟩)) rfl (by kernel_rfl) (by kernel_rfl) (by kernel_rfl) (fun _ _ _ h => h) (Or.inl ⟨by rfl, ?_⟩) (by first | assumption | trivial) ?_
        · intro w hSw; (try dsimp only at hSw); go_simp
        try simp only [Act.put, List.setIfInBounds_toArray, List.set_cons_zero, List.set_cons_succ]
        refine Lx.take_mk 2 (.pointer (some ⟨rb, 0, none⟩)) rfl (by kernel_rfl) (by kernel_rfl) (by kernel_rfl) (fun _ _ _ h => h) (Or.inl ⟨by rfl, ?_⟩) (by first | assumption | trivial) ?_
        · intro w hSw; (try dsimp only at hSw); go_simp
        try simp only [Act.put, List.setIfInBounds_toArray, List.set_cons_zero, List.set_cons_succ]
        refine Lx.take_mk 3 (tval u (.slice a1 u.args.length c1)) rfl (by kernel_rfl) (by kernel_rfl) (by kernel_rfl) (fun _ _ _ h => h) (Or.inl ⟨by rfl, ?_⟩) (by first | assumption | trivial) ?_
        · intro w hSw; have q0 := cell_storeR (vs := [_, _, _]) (i := 0) hSw rfl; have q1 := cell_storeR (vs := [_, _, _]) (i := 1) hSw rfl; have q2 := cell_storeR (vs := [_, _, _]) (i := 2) hSw rfl; (try dsimp only at hSw); go_simp
        try simp only [Act.put, List.setIfInBounds_toArray, List.set_cons_zero, List.set_cons_succ]
        refine wpAnyH_ready (rs := [1, 4]) (by kernel_rfl) (by simp) ?_
        refine AllReadyH.cons rfl (fun K hK => ?_) (AllReadyH.cons rfl (fun K hK => ?_) AllReadyH.nil)
        · go_simp
          refine hK.out _ _ s1 (fun hHeld => ?_)
          clear hK K
          try simp only [Act.put, List.getElem_toArray, List.getElem_cons_succ, List.getElem_cons_zero, List.setIfInBounds_toArray, List.set_cons_zero, List.set_cons_succ]
          refine wpAnyH_ready (rs := [4]) (by kernel_rfl) (by simp) ?_
          refine AllReadyH.cons rfl (fun K hK => ?_) AllReadyH.nil
          go_simp
          refine hc.mono ?_
          rintro e W3 ⟨sl2, rfl, ha2, hb3⟩
          obtain ⟨sb, sd, rfl⟩ := ha2.slice
          have hab3 := HZ.out.1.step (Only.of_below hb3)
          have o3 : W3.cell? ⟨O, 2, none⟩ = some (.slice va k vc) := cell_store (vs := [_, _, _]) hab3.bx.out rfl
          have o3a : ∀ ob : Obj, (W3.alloc ob).cell? ⟨O, 2, none⟩ = some (.slice va k vc) := fun ob => kc (below_box W3 ob) hab3.lt o3
          have HROW : Hid (W3.ownsRow (O + 1) 24 3 (.slice va k vc) k (flT zs)) := by have := hab3.row; rwa [show zs.length = k from HKK.out] at this
          have HO3 : Hid (O < W3.heap.size) := hab3.lt
          have s3 : W3.heap[G]? = some (tbox u (.slice a1 u.args.length c1)) := (hb3.block G HG1.out.2).trans HG1.out.1
          have s3a : ∀ ob : Obj, (W3.alloc ob).heap[G]? = some (tbox u (.slice a1 u.args.length c1)) := fun ob => ((below_box W3 ob).block G (Nat.lt_of_lt_of_le HG1.out.2 hb3.size)).trans s3
          have HS6 : Hid (∀ (x : Obj) (w6 : World), (W3.alloc x).grownBy w6 (Value.slice va k vc).ownBlock → w6.heap[G]? = some (tbox u (.slice a1 u.args.length c1))) := fun x w6 hgr => (hgr.block G (Nat.lt_of_lt_of_le HG1.out.2 (Nat.le_trans hb3.size (below_box W3 x).size)) (fun e => by have := HZ.out.2.2.2 G e.symm; omega)).trans (s3a x)
          have HPUSH : Hid (∀ (v' : Value) (w6 : World), w6.ownsRow (O + 1) 24 3 v' (k + 1) (flT zs ++ [.int .i64 (rnT g u).v, .string (rnT g u).fn, .slice sb (rnT g u).args.length sd]) → (W3.alloc (.cells #[.int .i64 (rnT g u).v, .string (rnT g u).fn, .slice sb (rnT g u).args.length sd] 24)).grownBy w6 (Value.slice va k vc).ownBlock → (v'.ownBlock = (Value.slice va k vc).ownBlock ∨ v'.ownBlock = some (W3.alloc (.cells #[.int .i64 (rnT g u).v, .string (rnT g u).fn, .slice sb (rnT g u).args.length sd] 24)).heap.size) →
            ABx D w1 (T3 + 1) O t.fn (zs ++ [(rnT g u, .slice sb (rnT g u).args.length sd)]) v' (w6.setCell ⟨O, 2, none⟩ v') ∧ Only (O :: (Value.slice va k vc).ownBlock.toList) W3 (w6.setCell ⟨O, 2, none⟩ v') ∧ w6.cell? ⟨O, 2, none⟩ = some (.slice va k vc) ∧ w6.frozen? ⟨O, 2, none⟩ = false) :=
            fun v' w6 q1 q2 q3 => hab3.push HZ.out.2.1 HZ.out.2.2.1 ha2 (by rw [show zs.length = k from HKK.out]; exact q1) (below_box W3 _) q2 q3
          clear hab3 ha2 hb3
          refine hK.out _ _ s3 (fun hHeld => ?_)
          clear hK K
          try simp only [Act.put, List.getElem_toArray, List.getElem_cons_succ, List.getElem_cons_zero, List.setIfInBounds_toArray, List.set_cons_zero, List.set_cons_succ]
          refine wpAnyH_ready (rs := [5]) (by kernel_rfl) (by simp) ?_
          refine AllReadyH.cons rfl (fun K hK => ?_) AllReadyH.nil
          go_simp
          refine hK.out _ _ (s3a _) (fun hHeld => ?_)
          clear hK K
          try simp only [Act.put, List.getElem_toArray, List.getElem_cons_succ, List.getElem_cons_zero, List.setIfInBounds_toArray, List.set_cons_zero, List.set_cons_succ]
          refine wpAnyH_ready (rs := [6]) (by kernel_rfl) (by simp) ?_
          refine AllReadyH.cons rfl (fun K hK => ?_) AllReadyH.nil
          refine step_append_own _ rfl (.tmp 30) (.tmp 34) 22 rfl (O + 1) 24 i0 _ 3 48 Tryz.underlying22 hi0 hz0 hz1 hz2 rfl (by decide) (.slice va k vc) k (flT zs) rfl (Lx.row_below HROW.out (below_box W3 _)) ⟨W3.heap.size, 0, none⟩ 1 1 [.int .i64 (rnT g u).v, .string (rnT g u).fn, .slice sb (rnT g u).args.length sd] rfl rfl (lit3 W3 _ _ _ _ 24 rfl) one3t (by unfold maxLen; omega) (by omega) (by have := HO3.out; simp; omega) ?_
          intro v' w6 hrow6 hg6 hb6
          obtain ⟨va6, vc6, rfl⟩ := row_slice hrow6
          obtain ⟨hab7, hon7, hc6, hf6⟩ := HPUSH.out _ w6 hrow6 hg6 hb6
          have s6 : w6.heap[G]? = some (tbox u (.slice a1 u.args.length c1)) := HS6.out _ w6 hg6
          refine hK.out _ _ s6 (fun hHeld => ?_)
          clear hK K
          try simp only [Act.put, List.getElem_toArray, List.getElem_cons_succ, List.getElem_cons_zero, List.setIfInBounds_toArray, List.set_cons_zero, List.set_cons_succ]
          refine Lx.take_mk 7 (.pointer (some ⟨O, 2, none⟩)) rfl (by kernel_rfl) (by kernel_rfl) (by kernel_rfl) (fun _ _ _ h => h) (Or.inl ⟨by rfl, ?_⟩) (by first | assumption | trivial) ?_
          · intro w hSw; (try dsimp only at hSw); go_simp
          try simp only [Act.put, List.setIfInBounds_toArray, List.set_cons_zero, List.set_cons_succ]
          refine wpAnyH_ready (rs := [8]) (by kernel_rfl) (by simp) ?_
          refine AllReadyH.cons rfl (fun K hK => ?_) AllReadyH.nil
          go_simp
          have s7 : (w6.setCell ⟨O, 2, none⟩ (.slice va6 (k + 1) vc6)).heap[G]? = some (tbox u (.slice a1 u.args.length c1)) := (Below.heap_setCell _ _ _ G HGO.out).trans s6
          refine hK.out _ _ s7 (fun hHeld => ?_)
          clear hK K
          try simp only [Act.put, List.getElem_toArray, List.getElem_cons_succ, List.getElem_cons_zero, List.setIfInBounds_toArray, List.set_cons_zero, List.set_cons_succ]
          refine wpAnyH_done (by kernel_rfl) ?_ _
          have HN7 := hidR hab7
          obtain ⟨W7, hW7⟩ : ∃ X, w6.setCell ⟨O, 2, none⟩ (.slice va6 (k + 1) vc6) = X := ⟨_, rfl⟩
          rw [hW7] at HN7
          rw [hW7]
          have HI7 : Hid (∃ zs v, zs.map (·.1) = (t.args.take (i + 1)).map (rnT g) ∧ ABx D w1 (T3 + 1) O t.fn zs v W7) := ⟨_, _, HZS.out _, HN7.out⟩
          clear hab7 hon7 HPUSH hW7 s6 s7 HN7
          go_wp2
          go_roundw
          case rel => exact ⟨i + 1, by go_num, by omega, HI7.out⟩
          case measure => simp [intOf]; omega
        · go_simp
          refine hc.mono ?_
          rintro e W3 ⟨sl2, rfl, ha2, hb3⟩
          obtain ⟨sb, sd, rfl⟩ := ha2.slice
          have hab3 := HZ.out.1.step (Only.of_below hb3)
          have o3 : W3.cell? ⟨O, 2, none⟩ = some (.slice va k vc) := cell_store (vs := [_, _, _]) hab3.bx.out rfl
          have o3a : ∀ ob : Obj, (W3.alloc ob).cell? ⟨O, 2, none⟩ = some (.slice va k vc) := fun ob => kc (below_box W3 ob) hab3.lt o3
          have HROW : Hid (W3.ownsRow (O + 1) 24 3 (.slice va k vc) k (flT zs)) := by have := hab3.row; rwa [show zs.length = k from HKK.out] at this
          have HO3 : Hid (O < W3.heap.size) := hab3.lt
          have s3 : W3.heap[G]? = some (tbox u (.slice a1 u.args.length c1)) := (hb3.block G HG1.out.2).trans HG1.out.1
          have s3a : ∀ ob : Obj, (W3.alloc ob).heap[G]? = some (tbox u (.slice a1 u.args.length c1)) := fun ob => ((below_box W3 ob).block G (Nat.lt_of_lt_of_le HG1.out.2 hb3.size)).trans s3
          have HS6 : Hid (∀ (x : Obj) (w6 : World), (W3.alloc x).grownBy w6 (Value.slice va k vc).ownBlock → w6.heap[G]? = some (tbox u (.slice a1 u.args.length c1))) := fun x w6 hgr => (hgr.block G (Nat.lt_of_lt_of_le HG1.out.2 (Nat.le_trans hb3.size (below_box W3 x).size)) (fun e => by have := HZ.out.2.2.2 G e.symm; omega)).trans (s3a x)
          have HPUSH : Hid (∀ (v' : Value) (w6 : World), w6.ownsRow (O + 1) 24 3 v' (k + 1) (flT zs ++ [.int .i64 (rnT g u).v, .string (rnT g u).fn, .slice sb (rnT g u).args.length sd]) → (W3.alloc (.cells #[.int .i64 (rnT g u).v, .string (rnT g u).fn, .slice sb (rnT g u).args.length sd] 24)).grownBy w6 (Value.slice va k vc).ownBlock → (v'.ownBlock = (Value.slice va k vc).ownBlock ∨ v'.ownBlock = some (W3.alloc (.cells #[.int .i64 (rnT g u).v, .string (rnT g u).fn, .slice sb (rnT g u).args.length sd] 24)).heap.size) →
            ABx D w1 (T3 + 1) O t.fn (zs ++ [(rnT g u, .slice sb (rnT g u).args.length sd)]) v' (w6.setCell ⟨O, 2, none⟩ v') ∧ Only (O :: (Value.slice va k vc).ownBlock.toList) W3 (w6.setCell ⟨O, 2, none⟩ v') ∧ w6.cell? ⟨O, 2, none⟩ = some (.slice va k vc) ∧ w6.frozen? ⟨O, 2, none⟩ = false) :=
            fun v' w6 q1 q2 q3 => hab3.push HZ.out.2.1 HZ.out.2.2.1 ha2 (by rw [show zs.length = k from HKK.out]; exact q1) (below_box W3 _) q2 q3
          clear hab3 ha2 hb3
          refine hK.out _ _ s3 (fun hHeld => ?_)
          clear hK K
          try simp only [Act.put, List.getElem_toArray, List.getElem_cons_succ, List.getElem_cons_zero, List.setIfInBounds_toArray, List.set_cons_zero, List.set_cons_succ]
          refine wpAnyH_ready (rs := [1, 5]) (by kernel_rfl) (by simp) ?_
          refine AllReadyH.cons rfl (fun K hK => ?_) (AllReadyH.cons rfl (fun K hK => ?_) AllReadyH.nil)
          · go_simp
            refine hK.out _ _ s3 (fun hHeld => ?_)
            clear hK K
            try simp only [Act.put, List.getElem_toArray, List.getElem_cons_succ, List.getElem_cons_zero, List.setIfInBounds_toArray, List.set_cons_zero, List.set_cons_succ]
            refine wpAnyH_ready (rs := [5]) (by kernel_rfl) (by simp) ?_
            refine AllReadyH.cons rfl (fun K hK => ?_) AllReadyH.nil
            go_simp
            refine hK.out _ _ (s3a _) (fun hHeld => ?_)
            clear hK K
            try simp only [Act.put, List.getElem_toArray, List.getElem_cons_succ, List.getElem_cons_zero, List.setIfInBounds_toArray, List.set_cons_zero, List.set_cons_succ]
            refine wpAnyH_ready (rs := [6]) (by kernel_rfl) (by simp) ?_
            refine AllReadyH.cons rfl (fun K hK => ?_) AllReadyH.nil
            refine step_append_own _ rfl (.tmp 30) (.tmp 34) 22 rfl (O + 1) 24 i0 _ 3 48 Tryz.underlying22 hi0 hz0 hz1 hz2 rfl (by decide) (.slice va k vc) k (flT zs) rfl (Lx.row_below HROW.out (below_box W3 _)) ⟨W3.heap.size, 0, none⟩ 1 1 [.int .i64 (rnT g u).v, .string (rnT g u).fn, .slice sb (rnT g u).args.length sd] rfl rfl (lit3 W3 _ _ _ _ 24 rfl) one3t (by unfold maxLen; omega) (by omega) (by have := HO3.out; simp; omega) ?_
            intro v' w6 hrow6 hg6 hb6
            obtain ⟨va6, vc6, rfl⟩ := row_slice hrow6
            obtain ⟨hab7, hon7, hc6, hf6⟩ := HPUSH.out _ w6 hrow6 hg6 hb6
            have s6 : w6.heap[G]? = some (tbox u (.slice a1 u.args.length c1)) := HS6.out _ w6 hg6
            refine hK.out _ _ s6 (fun hHeld => ?_)
            clear hK K
            try simp only [Act.put, List.getElem_toArray, List.getElem_cons_succ, List.getElem_cons_zero, List.setIfInBounds_toArray, List.set_cons_zero, List.set_cons_succ]
            refine Lx.take_mk 7 (.pointer (some ⟨O, 2, none⟩)) rfl (by kernel_rfl) (by kernel_rfl) (by kernel_rfl) (fun _ _ _ h => h) (Or.inl ⟨by rfl, ?_⟩) (by first | assumption | trivial) ?_
            · intro w hSw; (try dsimp only at hSw); go_simp
            try simp only [Act.put, List.setIfInBounds_toArray, List.set_cons_zero, List.set_cons_succ]
            refine wpAnyH_ready (rs := [8]) (by kernel_rfl) (by simp) ?_
            refine AllReadyH.cons rfl (fun K hK => ?_) AllReadyH.nil
            go_simp
            have s7 : (w6.setCell ⟨O, 2, none⟩ (.slice va6 (k + 1) vc6)).heap[G]? = some (tbox u (.slice a1 u.args.length c1)) := (Below.heap_setCell _ _ _ G HGO.out).trans s6
            refine hK.out _ _ s7 (fun hHeld => ?_)
            clear hK K
            try simp only [Act.put, List.getElem_toArray, List.getElem_cons_succ, List.getElem_cons_zero, List.setIfInBounds_toArray, List.set_cons_zero, List.set_cons_succ]
            refine wpAnyH_done (by kernel_rfl) ?_ _
            have HN7 := hidR hab7
            obtain ⟨W7, hW7⟩ : ∃ X, w6.setCell ⟨O, 2, none⟩ (.slice va6 (k + 1) vc6) = X := ⟨_, rfl⟩
            rw [hW7] at HN7
            rw [hW7]
            have HI7 : Hid (∃ zs v, zs.map (·.1) = (t.args.take (i + 1)).map (rnT g) ∧ ABx D w1 (T3 + 1) O t.fn zs v W7) := ⟨_, _, HZS.out _, HN7.out⟩
            clear hab7 hon7 HPUSH hW7 s6 s7 HN7
            go_wp2
            go_roundw
            case rel => exact ⟨i + 1, by go_num, by omega, HI7.out⟩
            case measure => simp [intOf]; omega
          · go_simp
            refine hK.out _ _ (s3a _) (fun hHeld => ?_)
            clear hK K
            try simp only [Act.put, List.getElem_toArray, List.getElem_cons_succ, List.getElem_cons_zero, List.setIfInBounds_toArray, List.set_cons_zero, List.set_cons_succ]
            refine wpAnyH_ready (rs := [1]) (by kernel_rfl) (by simp) ?_
            refine AllReadyH.cons rfl (fun K hK => ?_) AllReadyH.nil
            go_simp
            refine hK.out _ _ (s3a _) (fun hHeld => ?_)
            clear hK K
            try simp only [Act.put, List.getElem_toArray, List.getElem_cons_succ, List.getElem_cons_zero, List.setIfInBounds_toArray, List.set_cons_zero, List.set_cons_succ]
            refine wpAnyH_ready (rs := [6]) (by kernel_rfl) (by simp) ?_
            refine AllReadyH.cons rfl (fun K hK => ?_) AllReadyH.nil
            refine step_append_own _ rfl (.tmp 30) (.tmp 34) 22 rfl (O + 1) 24 i0 _ 3 48 Tryz.underlying22 hi0 hz0 hz1 hz2 rfl (by decide) (.slice va k vc) k (flT zs) rfl (Lx.row_below HROW.out (below_box W3 _)) ⟨W3.heap.size, 0, none⟩ 1 1 [.int .i64 (rnT g u).v, .string (rnT g u).fn, .slice sb (rnT g u).args.length sd] rfl rfl (lit3 W3 _ _ _ _ 24 rfl) one3t (by unfold maxLen; omega) (by omega) (by have := HO3.out; simp; omega) ?_
            intro v' w6 hrow6 hg6 hb6
            obtain ⟨va6, vc6, rfl⟩ := row_slice hrow6
            obtain ⟨hab7, hon7, hc6, hf6⟩ := HPUSH.out _ w6 hrow6 hg6 hb6
            have s6 : w6.heap[G]? = some (tbox u (.slice a1 u.args.length c1)) := HS6.out _ w6 hg6
            refine hK.out _ _ s6 (fun hHeld => ?_)
            clear hK K
            try simp only [Act.put, List.getElem_toArray, List.getElem_cons_succ, List.getElem_cons_zero, List.setIfInBounds_toArray, List.set_cons_zero, List.set_cons_succ]
            refine Lx.take_mk 7 (.pointer (some ⟨O, 2, none⟩)) rfl (by kernel_rfl) (by kernel_rfl) (by kernel_rfl) (fun _ _ _ h => h) (Or.inl ⟨by rfl, ?_⟩) (by first | assumption | trivial) ?_
            · intro w hSw; (try dsimp only at hSw); go_simp
            try simp only [Act.put, List.setIfInBounds_toArray, List.set_cons_zero, List.set_cons_succ]
            refine wpAnyH_ready (rs := [8]) (by kernel_rfl) (by simp) ?_
            refine AllReadyH.cons rfl (fun K hK => ?_) AllReadyH.nil
            go_simp
            have s7 : (w6.setCell ⟨O, 2, none⟩ (.slice va6 (k + 1) vc6)).heap[G]? = some (tbox u (.slice a1 u.args.length c1)) := (Below.heap_setCell _ _ _ G HGO.out).trans s6
            refine hK.out _ _ s7 (fun hHeld => ?_)
            clear hK K
            try simp only [Act.put, List.getElem_toArray, List.getElem_cons_succ, List.getElem_cons_zero, List.setIfInBounds_toArray, List.set_cons_zero, List.set_cons_succ]
            refine wpAnyH_done (by kernel_rfl) ?_ _
            have HN7 := hidR hab7
            obtain ⟨W7, hW7⟩ : ∃ X, w6.setCell ⟨O, 2, none⟩ (.slice va6 (k + 1) vc6) = X := ⟨_, rfl⟩
            rw [hW7] at HN7
            rw [hW7]
            have HI7 : Hid (∃ zs v, zs.map (·.1) = (t.args.take (i + 1)).map (rnT g) ∧ ABx D w1 (T3 + 1) O t.fn zs v W7) := ⟨_, _, HZS.out _, HN7.out⟩
            clear hab7 hon7 HPUSH hW7 s6 s7 HN7
            go_wp2
            go_roundw
            case rel => exact ⟨i + 1, by go_num, by omega, HI7.out⟩
            case measure => simp [intOf]; omega
      · have hin : i = n := by omega
        subst hin
        have hall := hA.all
        have hmap : zs.map (·.1) = t.args.map (rnT g) := by rw [hzs, List.take_of_length_le (by rw [HN.out]; omega)]
        rw [hmap] at hall
        have o0 := cell_storeR (vs := [_, _, _]) (i := 0) hA.bx.out rfl
        have o1 := cell_storeR (vs := [_, _, _]) (i := 1) hA.bx.out rfl
        have o2 := cell_storeR (vs := [_, _, _]) (i := 2) hA.bx.out rfl
        obtain ⟨V, hrun, hV, oV⟩ := t_store (t := .mk 0 t.fn (t.args.map (rnT g))) hA.bx.res rfl hall
        have hkl : (Value.slice va k vc) = .slice va (t.args.map (rnT g)).length vc := by rw [List.length_map, HN.out, hki]
        have HC : Hid (V.cell? ⟨T3 + 1, 0, none⟩ = some (.int .i64 0) ∧ V.cell? ⟨T3 + 1, 1, none⟩ = some (.string t.fn) ∧ V.cell? ⟨T3 + 1, 2, none⟩ = some (.slice va k vc)) := (res_cells hV).1
        have HF : Hid (ArgsP (fun k => w.heap.size ≤ k) V (.slice va k vc) (t.args.map (rnT g)) ∧ Below w.heap.size w V) := by
          refine ⟨hall.keep oV.size (fun j hj hl => ⟨by rw [HT3.out]; omega, oV.block j hl (by simp; omega)⟩), ?_⟩
          rw [HT3.out]
          have hl := (Array.getElem?_eq_some_iff.1 hA.bx.res).1
          exact (HBW.out wr hon).trans ⟨oV.os, oV.tape, oV.output, oV.size, fun j hj => oV.block j (by omega) (by simp; omega)⟩
        clear hall hmap hV oV hA hzs HI HA0 hon hK hki hkl
        go_wp2_with (first | (refine wpList_store_run rfl 24 _ _ rfl (.pointer (some ⟨T3 + 1, 0, none⟩)) (.agg #[.int .i64 0, .string t.fn, .slice va k vc]) rfl (by kernel_rfl) hrun ?_))
        obtain ⟨v0, v1, v2⟩ := HC.out
        refine bodyPost_ret (v := .agg #[.int .i64 0, .string t.fn, .slice va k vc]) (by simp [results, Tryz.results71, go_sem, v0, v1, v2]) rfl ?_
        exact ⟨.slice va k vc, by rw [HEE.out]; rfl, by rw [HEE.out]; exact HF.out.1, HF.out.2⟩
