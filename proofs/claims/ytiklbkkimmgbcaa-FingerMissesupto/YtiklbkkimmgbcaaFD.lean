/-
  finger.Of, the document's Of; strings.Clone.
-/
import Derived.Test.YtiklbkkimmgbcaaFC
import Derived.Lib.Strings
import Derived.Lib.Walk
import Derived.Lib.BufferWrite
import Derived.Lib.UnsafeStr
import Derived.Laws.MakeOwn
namespace Go.Proofs.Ytiklbkkimmgbcaa
open Go.RowKit Go.Maps

/-- Features in memory. -/
def FtAt (W : World) (v : Value) (l : List Ft) : Prop :=
  ∃ a c, v = .slice a l.length c ∧ l.length ≤ c ∧ c ≤ 9223372036854775807 ∧ (0 < l.length → ∃ b o, b < W.heap.size ∧ a = some ⟨b, o, none⟩ ∧ ∀ i (h : i < l.length), W.cell? ⟨b, o + i * 3, none⟩ = some (.int .i64 l[i].kind) ∧ W.cell? ⟨b, o + i * 3 + 1, none⟩ = some (.int .i64 l[i].ar) ∧ W.cell? ⟨b, o + i * 3 + 2, none⟩ = some (.string l[i].fn))
theorem FtAt.keep {W W' : World} {v : Value} {l : List Ft} {n : Nat} (h : FtAt W v l) (hb : Below n W W') (hn : W.heap.size ≤ n) : FtAt W' v l := by
  obtain ⟨a, c, h1, h2, h3, h4⟩ := h
  refine ⟨a, c, h1, h2, h3, fun h0 => ?_⟩
  obtain ⟨b, o, hlt, ha, hc⟩ := h4 h0
  refine ⟨b, o, Nat.lt_of_lt_of_le hlt hb.size, ha, fun i hi => ?_⟩
  have hl := Nat.lt_of_lt_of_le hlt hn
  exact ⟨kc hb hl (hc i hi).1, kc hb hl (hc i hi).2.1, kc hb hl (hc i hi).2.2⟩
theorem FtAt.slice {W : World} {v : Value} {l : List Ft} (h : FtAt W v l) : ∃ a c, v = .slice a l.length c ∧ l.length ≤ c ∧ c ≤ 9223372036854775807 := by
  obtain ⟨a, c, h1, h2, h3, h4⟩ := h
  exact ⟨a, c, h1, h2, h3⟩
theorem FtAt.nth {W : World} {a : Option Addr} {n c : Nat} {l : List Ft} (h : FtAt W (.slice a n c) l) {i : Nat} (hi : i < l.length) : ∃ b o, a = some ⟨b, o, none⟩ ∧ b < W.heap.size ∧ W.cell? ⟨b, o + i * 3, none⟩ = some (.int .i64 l[i].kind) ∧ W.cell? ⟨b, o + i * 3 + 1, none⟩ = some (.int .i64 l[i].ar) ∧ W.cell? ⟨b, o + i * 3 + 2, none⟩ = some (.string l[i].fn) := by
  obtain ⟨a', c', h1, h2, h3, h4⟩ := h
  obtain ⟨b, o, hlt, ha, hc⟩ := h4 (by omega)
  cases h1
  exact ⟨b, o, ha, hlt, hc i hi⟩
/-- A term's features. -/
abbrev feats (t : T) : List Ft := [feat t [], feat t [0], feat t [1], feat t [0, 0]]
theorem FtAt.of_block {W : World} {b : Nat} {ty : TypeId} {a c d e : Ft} (h : W.heap[b]? = some (.cells (fcells a c d e).toArray ty (0, 0))) : FtAt W (.slice (some ⟨b, 0, none⟩) 4 4) [a, c, d, e] := by
  refine ⟨_, _, rfl, Nat.le_refl _, by omega, fun _ => ⟨b, 0, (Array.getElem?_eq_some_iff.1 h).1, rfl, fun i hi => ?_⟩⟩
  have hi4 : i < 4 := hi
  have : i = 0 ∨ i = 1 ∨ i = 2 ∨ i = 3 := by omega
  rcases this with rfl | rfl | rfl | rfl <;> exact ⟨cell_store h rfl, cell_store h rfl, cell_store h rfl⟩

theorem slice4 (b : Nat) (w : World) : (Instr.sliceAt 66 (.pointer (some ⟨b, 0, none⟩)) none none none).run Try.prog w = .ok (.slice (some ⟨b, 0, none⟩) 4 4) w := by
  have hal : Try.prog.arrayLen 66 = 4 := by kernel_rfl
  have hel : Try.prog.elem 66 = 63 := by kernel_rfl
  have h := run_sliceAt_array_all (P := Try.prog) w 66 ⟨b, 0, none⟩ (by rw [hal, hel]; exact Try.underlying66)
  rw [h, hal, hel]
  simp [slicedAt, Result.andThen, Addr.add_mid]

set_option maxRecDepth 100000 in
set_option maxHeartbeats 4000000 in
theorem fof_any (t : T) (s : Value) (w : World) (ha : ArgsAt w s t.args) :
    Calls Try.prog 9 #[tval t s] w fun e w' => ∃ v, e = .returned v ∧ FtAt w' v (feats t) ∧ Below w.heap.size w w' := by
  obtain ⟨W1, h1⟩ : ∃ X, w.alloc (tbox t s) = X := ⟨_, rfl⟩
  have b1 : Below w.heap.size w W1 := by rw [← h1]; exact below_box _ _
  obtain ⟨x0, x1, x2⟩ := tbox_cells w t s
  rw [h1] at x0 x1 x2
  have hc := fingerprintOf_any t s W1 (ArgsAt.keep b1 (Nat.le_refl _) ha)
  have HB : Hid (Below w.heap.size w W1) := b1
  obtain ⟨sa, sc, rfl, _, _⟩ := ha.slice
  clear b1 ha
  go_enter Try.func9, Try.ntmps9
  try rw [h1]
  go_wp2_with fail
  try rw [h1]
  refine hc.mono ?_
  rintro e W2 ⟨rfl, b2⟩
  have HB2 : Hid (Below w.heap.size w W2) := HB.out.trans (b2.mono HB.out.size)
  obtain ⟨Wz, hz⟩ : ∃ X, W2.alloc (.cells #[.int .i64 0, .int .i64 0, .string ⟨#[]⟩, .int .i64 0, .int .i64 0, .string ⟨#[]⟩, .int .i64 0, .int .i64 0, .string ⟨#[]⟩, .int .i64 0, .int .i64 0, .string ⟨#[]⟩] 66) = X := ⟨_, rfl⟩
  have bz : Below W2.heap.size W2 Wz := by rw [← hz]; exact below_box _ _
  have hzz : Wz.heap[W2.heap.size]? = some (.cells #[.int .i64 0, .int .i64 0, .string ⟨#[]⟩, .int .i64 0, .int .i64 0, .string ⟨#[]⟩, .int .i64 0, .int .i64 0, .string ⟨#[]⟩, .int .i64 0, .int .i64 0, .string ⟨#[]⟩] 66 (0, 0)) := by rw [← hz]; exact (MapKept.heap_alloc _ _).1
  obtain ⟨W3, hrun, hx3, hon⟩ := agg_store 66 Wz W2.heap.size _ (fpr t) hzz rfl Try.info66z (ones12 _ _ _ _)
  have HF : Hid (FtAt W3 (.slice (some ⟨W2.heap.size, 0, none⟩) 4 4) (feats t)) := FtAt.of_block hx3
  have b23 : Below W2.heap.size W2 W3 := bz.trans (hon.below bz.size (by simp))
  have HB3 : Hid (Below w.heap.size w W3) := HB2.out.trans (b23.mono HB2.out.size)
  obtain ⟨bo, hbo⟩ : ∃ n, W2.heap.size = n := ⟨_, rfl⟩
  rw [hbo] at hrun HF
  have hs4 := slice4 bo
  clear b2 bz hzz hon hx3 b23 x0 x1 x2
  go_wp2_with (first | (refine wpList_store_run rfl 66 _ _ rfl (.pointer (some ⟨bo, 0, none⟩)) (.agg (fpr t).toArray) rfl rfl hrun ?_))
  try rw [hz]
  go_ret
  exact ⟨_, rfl, HF.out, HB3.out⟩

theorem Try.info5 : (Try.prog.info? 5).map (fun i => (i.zero, i.size, i.bytes)) = some (some (.int .u8 0), 1, 1) := by kernel_rfl

set_option maxHeartbeats 4000000 in
set_option maxRecDepth 100000 in
/-- internal/stringslite.Clone: the same bytes, in new memory. -/
theorem lclone_any (s : ByteArray) (w : World) (hlim : s.size ≤ 64) : Calls Try.prog 67 #[.string s] w fun e w' => e = .returned (.string s) ∧ Below w.heap.size w w' := by
  by_cases h0 : s.size = 0
  · have hs := ba_empty.1 h0
    subst hs
    go_enter Try.func67, Try.ntmps67
    go_wp2
    go_ret
    exact ⟨rfl, Below.refl _ _⟩
  · obtain ⟨i0, hi, hz0, hz1, hz2⟩ := info_parts Try.info5
    have hinfo : (Try.prog.info? 5).map (·.size) = some 1 := by rw [hi]; simp [hz1]
    have hco : Try.prog.cellsOf 5 = 1 := by simp [Program.cellsOf, hi, hz1]
    obtain ⟨M, hM⟩ : ∃ M, M = madeCells (Value.int .u8 0).cells (((s.size : Nat) : Int).toNat * i0.size) := ⟨_, rfl⟩
    have hMs : M.size = s.size := by rw [hM, size_madeCells, hz1]; simp
    have hmk : ∀ W : World, (Instr.makeSlice 120 (.int .i64 (s.size : Int)) (.int .i64 (s.size : Int))).run Try.prog W = .ok (.slice (some ⟨W.heap.size, 0, none⟩) s.size s.size) (W.alloc (.cells M 5)) := fun W => by
      have h := run_make (P := Try.prog) W 120 5 i0 (.int .u8 0) Try.underlying120 hi hz0 .i64 .i64 (s.size : Int) (s.size : Int) (by omega) (by omega) (by rw [hz2]; omega) (by omega)
      rw [← hM] at h
      simpa using h
    clear hM
    have hcp := Lib.run_copy_row_string (P := Try.prog) (w.alloc (.cells M 5)) 120 9 3 5 w.heap.size 0 s.size s.size s M 5 Try.underlying120 hinfo (heap_alloc_new w _) (Nat.le_refl _) (by omega)
    obtain ⟨Y, hY⟩ : ∃ Y, Y = (M.toList.take 0 ++ Lib.byteCells s.data.toList ++ M.toList.drop (0 + s.size)).toArray := ⟨_, rfl⟩
    rw [← hY] at hcp
    have hYl : Y.toList = Lib.byteCells s.data.toList := by
      rw [hY, List.toList_toArray, List.take_zero, List.nil_append, List.drop_of_length_le (by rw [Array.length_toList]; omega), List.append_nil]
    have hgY : ((w.alloc (.cells M 5)).setRow w.heap.size Y).heap[w.heap.size]? = some (.cells Y 5 (0, 0)) := setRow_heap _ _ M _ 5 (0, 0) (heap_alloc_new w _)
    have hne : s.data.toList ≠ [] := fun e => h0 (by rw [Lib.size_eq, e]; rfl)
    have hYs : Y.size = s.size := by rw [← Array.length_toList, hYl, Lib.byteCells_length, ← Lib.size_eq]
    have hUS := Lib.run_unsafeString_row (P := Try.prog) ((w.alloc (.cells M 5)).setRow w.heap.size Y) 121 3 9 5 Try.underlying121 hco w.heap.size Y.size (by unfold World.shape?; rw [hgY]) s.data.toList hne (by rw [← Lib.size_eq]; omega) (by rw [← Lib.size_eq]; omega)
      (fun j x hx => Lib.cells_of_row hgY Y.size j _ (by rw [List.take_of_length_le (by rw [Array.length_toList]; exact Nat.le_refl _), hYl]; simp [Lib.byteCells, hx]))
    rw [← Lib.size_eq] at hUS
    have h0' : ((s.size : Int) == 0) = false := by rw [beq_eq_false_iff_ne]; omega
    clear hY
    go_enter Try.func67, Try.ntmps67
    go_wp2
    go_ret
    have hb1 : Below w.heap.size w (w.alloc (.cells M 5)) := (Below.refl _ w).alloc (Nat.le_refl _) _
    have hb2 : Below w.heap.size (w.alloc (.cells M 5)) ((w.alloc (.cells M 5)).setRow w.heap.size Y) := ⟨rfl, rfl, rfl, by simp, fun k hk => setRow_other _ _ _ _ (by omega)⟩
    exact ⟨rfl, Lib.below_freeze (hb1.trans hb2) (p := ⟨w.heap.size, 0, none⟩) (Nat.le_refl _) _⟩

set_option maxHeartbeats 400000 in
theorem sclone_any (s : ByteArray) (w : World) (hlim : s.size ≤ 64) : Calls Try.prog 61 #[.string s] w fun e w' => e = .returned (.string s) ∧ Below w.heap.size w w' := by
  go_enter Try.func61, Try.ntmps61
  go_wp2_with (go_at_call 67; refine (lclone_any _ _ hlim).mono ?_; rintro e w' ⟨rfl, hb⟩)
  go_ret
  exact ⟨rfl, hb⟩

set_option maxRecDepth 100000 in
set_option maxHeartbeats 16000000 in
theorem rof_any (t : T) (s : Value) (w : World) (ha : ArgsAt w s t.args) :
    Calls Try.prog 10 #[tval t s] w fun e w' => ∃ v, e = .returned v ∧ FtAt w' v (feats t) ∧ Below w.heap.size w w' := by
  obtain ⟨W1, h1⟩ : ∃ X, w.alloc (tbox t s) = X := ⟨_, rfl⟩
  have b1 : Below w.heap.size w W1 := by rw [← h1]; exact below_box _ _
  have s1 : W1.heap.size = w.heap.size + 1 := by rw [← h1]; simp
  obtain ⟨x0, x1, x2⟩ := tbox_cells w t s
  rw [h1] at x0 x1 x2
  obtain ⟨Wd, hWd⟩ : ∃ X, W1.drew = X := ⟨_, rfl⟩
  have hd : Below W1.heap.size W1 Wd := by rw [← hWd]; exact (Below.refl _ W1).drew
  have hsd : Wd.heap.size = w.heap.size + 1 := by rw [← hWd]; exact s1
  obtain ⟨n0, hn0⟩ : ∃ n, Wd.heap.size = n := ⟨_, rfl⟩
  have b0d : Below w.heap.size w Wd := b1.trans (hd.mono b1.size)
  have HN0 : Hid (Wd.heap.size = n0) := hn0
  have HBd : Hid (Below w.heap.size w Wd ∧ n0 = w.heap.size + 1) := ⟨b0d, by omega⟩
  have HA : Hid (∀ Z, Below n0 Wd Z → ArgsAt Z s t.args) := fun Z hZ => ArgsAt.keep (b0d.trans (hZ.mono (by omega))) (Nat.le_refl _) ha
  have HSS : Hid (∀ Z, Below n0 Wd Z → Below n0 Wd Z) := fun Z hZ => hZ
  have HX : Hid (∀ Z, Below n0 Wd Z → Z.cell? ⟨w.heap.size, 0, none⟩ = some (.int .i64 t.v) ∧ Z.cell? ⟨w.heap.size, 1, none⟩ = some (.string t.fn) ∧ Z.cell? ⟨w.heap.size, 2, none⟩ = some s) := fun Z hZ => by
    have e1 : Below W1.heap.size W1 Z := hd.trans (hZ.mono (by omega))
    exact ⟨kc e1 (by omega) x0, kc e1 (by omega) x1, kc e1 (by omega) x2⟩
  obtain ⟨sa, sc, rfl, _, _⟩ := ha.slice
  clear b1 x0 x1 x2 hd b0d ha hn0 hsd
  go_enter Try.func10, Try.ntmps10
  try rw [h1]
  go_wp2
  try rw [h1]
  refine wp_region_held_drew (S := fun Z => Below n0 Wd Z) (by kernel_rfl) (by rw [hWd]; exact Below.refl _ _) (fun hHeld => ?_)
  rw [hWd] at hHeld ⊢
  refine take_mk 0 (tval t (.slice sa t.args.length sc)) rfl (by kernel_rfl) (by kernel_rfl) (by kernel_rfl) (fun _ _ _ h => h) (Or.inl ⟨by rfl, fun Z hZ => by obtain ⟨y0, y1, y2⟩ := HX.out Z hZ; go_simp⟩) (by assumption) ?_
  try simp only [Act.put, List.setIfInBounds_toArray, List.set_cons_zero, List.set_cons_succ]
  refine take_mk 2 (tval t (.slice sa t.args.length sc)) rfl (by kernel_rfl) (by kernel_rfl) (by kernel_rfl) (fun _ _ _ h => h) (Or.inl ⟨by rfl, fun Z hZ => by obtain ⟨y0, y1, y2⟩ := HX.out Z hZ; go_simp⟩) (by assumption) ?_
  try simp only [Act.put, List.setIfInBounds_toArray, List.set_cons_zero, List.set_cons_succ]
  refine take_mk 5 (tval t (.slice sa t.args.length sc)) rfl (by kernel_rfl) (by kernel_rfl) (by kernel_rfl) (fun _ _ _ h => h) (Or.inl ⟨by rfl, fun Z hZ => by obtain ⟨y0, y1, y2⟩ := HX.out Z hZ; go_simp⟩) (by assumption) ?_
  try simp only [Act.put, List.setIfInBounds_toArray, List.set_cons_zero, List.set_cons_succ]
  refine take_mk 8 (tval t (.slice sa t.args.length sc)) rfl (by kernel_rfl) (by kernel_rfl) (by kernel_rfl) (fun _ _ _ h => h) (Or.inl ⟨by rfl, fun Z hZ => by obtain ⟨y0, y1, y2⟩ := HX.out Z hZ; go_simp⟩) (by assumption) ?_
  try simp only [Act.put, List.setIfInBounds_toArray, List.set_cons_zero, List.set_cons_succ]
  refine by_names fun ops hops Q hQ => ?_
  have st1111111 : ∀ (X : World) (n3 n6 n9 : Nat), Below n0 Wd X → wpAnyH Try.prog .any ops Q (fun Z => Below n0 Wd Z) 2 #[true, true, true, true, true, true, true, true, true, true, true, false, false] ⟨#[tval t (.slice sa t.args.length sc), .pointer (some ⟨w.heap.size, 0, none⟩), .slice none 0 0, tval t (.slice sa t.args.length sc), fval (feat t []), tval t (.slice sa t.args.length sc), .slice (some ⟨n3, 0, none⟩) 1 1, fval (feat t [0]), tval t (.slice sa t.args.length sc), .slice (some ⟨n6, 0, none⟩) 1 1, fval (feat t [1]), tval t (.slice sa t.args.length sc), .slice (some ⟨n9, 0, none⟩) 2 2, fval (feat t [0, 0]), undef], []⟩ X := by
    intro X n3 n6 n9 bX
    subst hops hQ
    refine wpAnyH_ready (rs := [11]) (by kernel_rfl) (by simp) (AllReadyH.cons (o := ⟨_, _, _, _, _, _⟩) rfl (fun K hK => ?_) AllReadyH.nil)
    rw [if_pos (by rfl)]
    go_simp
    obtain ⟨Y, hY⟩ : ∃ Z, X.alloc (.cells (fpr t).toArray 64) = Z := ⟨_, rfl⟩
    have qY : Below X.heap.size X Y := by rw [← hY]; exact below_box _ _
    have hx9 : Y.heap[X.heap.size]? = some (.cells (fpr t).toArray 64 (0, 0)) := by rw [← hY]; exact (MapKept.heap_alloc _ _).1
    have HF : Hid (FtAt Y (.slice (some ⟨X.heap.size, 0, none⟩) 4 4) (feats t)) := FtAt.of_block hx9
    have bY : Below n0 Wd Y := bX.trans (qY.mono (by have := bX.size; have := HN0.out; omega))
    rw [hY]
    refine hK.out _ _ (HSS.out _ bY) (fun _ => ?_)
    clear hK K
    try simp only [List.setIfInBounds_toArray, List.set_cons_zero, List.set_cons_succ]
    refine take_mk 12 (.slice (some ⟨X.heap.size, 0, none⟩) 4 4) rfl (by kernel_rfl) (by kernel_rfl) (by kernel_rfl) (fun _ _ _ h => h) (Or.inl ⟨by rfl, fun Z hZ => by go_simp⟩) (HSS.out _ bY) ?_
    try simp only [Act.put, List.setIfInBounds_toArray, List.set_cons_zero, List.set_cons_succ]
    refine wpAnyH_done (by kernel_rfl) ?_ _
    try simp only [Act.put]
    have HB9 : Hid (Below w.heap.size w Y) := HBd.out.1.trans (bY.mono (by have := HBd.out.2; omega))
    clear qY hx9 hY
    go_wp2
    go_ret
    exact ⟨_, rfl, HF.out, HB9.out⟩
  have st1111110 : ∀ (X : World) (n3 n6 n9 : Nat), Below n0 Wd X → RowAt (fun k : Nat => .int .i64 (k : Int)) X (.slice (some ⟨n9, 0, none⟩) 2 2) [0, 0] → wpAnyH Try.prog .any ops Q (fun Z => Below n0 Wd Z) 3 #[true, true, true, true, true, true, true, true, true, true, false, false, false] ⟨#[tval t (.slice sa t.args.length sc), .pointer (some ⟨w.heap.size, 0, none⟩), .slice none 0 0, tval t (.slice sa t.args.length sc), fval (feat t []), tval t (.slice sa t.args.length sc), .slice (some ⟨n3, 0, none⟩) 1 1, fval (feat t [0]), tval t (.slice sa t.args.length sc), .slice (some ⟨n6, 0, none⟩) 1 1, fval (feat t [1]), tval t (.slice sa t.args.length sc), .slice (some ⟨n9, 0, none⟩) 2 2, undef, undef], []⟩ X := by
    intro X n3 n6 n9 bX r9
    subst hops hQ
    refine wpAnyH_ready (rs := [10]) (by kernel_rfl) (by simp) (AllReadyH.cons (o := ⟨_, _, _, _, _, _⟩) rfl (fun K hK => ?_) AllReadyH.nil)
    · rw [if_pos (by rfl)]
      go_simp
      refine (feature_any t _ [0, 0] _ X (HA.out X bX) r9).mono ?_
      rintro e Y ⟨rfl, qY⟩
      have bY : Below n0 Wd Y := bX.trans (qY.mono (by have := bX.size; have := HN0.out; omega))
      refine hK.out _ _ (HSS.out _ bY) (fun _ => ?_)
      clear hK K
      try simp only [List.setIfInBounds_toArray, List.set_cons_zero, List.set_cons_succ]
      exact at_state (by kernel_rfl) (st1111111 Y n3 n6 n9 bY)
  have st1111100 : ∀ (X : World) (n3 n6 : Nat), Below n0 Wd X → wpAnyH Try.prog .any ops Q (fun Z => Below n0 Wd Z) 4 #[true, true, true, true, true, true, true, true, true, false, false, false, false] ⟨#[tval t (.slice sa t.args.length sc), .pointer (some ⟨w.heap.size, 0, none⟩), .slice none 0 0, tval t (.slice sa t.args.length sc), fval (feat t []), tval t (.slice sa t.args.length sc), .slice (some ⟨n3, 0, none⟩) 1 1, fval (feat t [0]), tval t (.slice sa t.args.length sc), .slice (some ⟨n6, 0, none⟩) 1 1, fval (feat t [1]), tval t (.slice sa t.args.length sc), undef, undef, undef], []⟩ X := by
    intro X n3 n6 bX
    subst hops hQ
    refine wpAnyH_ready (rs := [9]) (by kernel_rfl) (by simp) (AllReadyH.cons (o := ⟨_, _, _, _, _, _⟩) rfl (fun K hK => ?_) AllReadyH.nil)
    · rw [if_pos (by rfl)]
      go_simp
      obtain ⟨Y, hY⟩ : ∃ Z, X.alloc (.cells #[.int .i64 0, .int .i64 0] 3) = Z := ⟨_, rfl⟩
      have qY : Below X.heap.size X Y := by rw [← hY]; exact below_box _ _
      have r9 : RowAt (fun k : Nat => .int .i64 (k : Int)) Y (.slice (some ⟨X.heap.size, 0, none⟩) 2 2) [0, 0] := by rw [← hY]; exact nums_built X [0, 0] (by simp)
      rw [hY]
      have bY : Below n0 Wd Y := bX.trans (qY.mono (by have := bX.size; have := HN0.out; omega))
      refine hK.out _ _ (HSS.out _ bY) (fun _ => ?_)
      clear hK K
      try simp only [List.setIfInBounds_toArray, List.set_cons_zero, List.set_cons_succ]
      exact at_state (by kernel_rfl) (st1111110 Y n3 n6 X.heap.size bY r9)
  have st1111010 : ∀ (X : World) (n3 n6 n9 : Nat), Below n0 Wd X → RowAt (fun k : Nat => .int .i64 (k : Int)) X (.slice (some ⟨n6, 0, none⟩) 1 1) [1] → RowAt (fun k : Nat => .int .i64 (k : Int)) X (.slice (some ⟨n9, 0, none⟩) 2 2) [0, 0] → wpAnyH Try.prog .any ops Q (fun Z => Below n0 Wd Z) 4 #[true, true, true, true, true, true, true, false, true, true, false, false, false] ⟨#[tval t (.slice sa t.args.length sc), .pointer (some ⟨w.heap.size, 0, none⟩), .slice none 0 0, tval t (.slice sa t.args.length sc), fval (feat t []), tval t (.slice sa t.args.length sc), .slice (some ⟨n3, 0, none⟩) 1 1, fval (feat t [0]), tval t (.slice sa t.args.length sc), .slice (some ⟨n6, 0, none⟩) 1 1, undef, tval t (.slice sa t.args.length sc), .slice (some ⟨n9, 0, none⟩) 2 2, undef, undef], []⟩ X := by
    intro X n3 n6 n9 bX r6 r9
    subst hops hQ
    refine wpAnyH_ready (rs := [7]) (by kernel_rfl) (by simp) (AllReadyH.cons (o := ⟨_, _, _, _, _, _⟩) rfl (fun K hK => ?_) AllReadyH.nil)
    · rw [if_pos (by rfl)]
      go_simp
      refine (feature_any t _ [1] _ X (HA.out X bX) r6).mono ?_
      rintro e Y ⟨rfl, qY⟩
      have bY : Below n0 Wd Y := bX.trans (qY.mono (by have := bX.size; have := HN0.out; omega))
      refine hK.out _ _ (HSS.out _ bY) (fun _ => ?_)
      clear hK K
      try simp only [List.setIfInBounds_toArray, List.set_cons_zero, List.set_cons_succ]
      exact at_state (by kernel_rfl) (st1111110 Y n3 n6 n9 bY (r9.keep qY (Nat.le_refl _)))
  have st1111000 : ∀ (X : World) (n3 n6 : Nat), Below n0 Wd X → RowAt (fun k : Nat => .int .i64 (k : Int)) X (.slice (some ⟨n6, 0, none⟩) 1 1) [1] → wpAnyH Try.prog .any ops Q (fun Z => Below n0 Wd Z) 5 #[true, true, true, true, true, true, true, false, true, false, false, false, false] ⟨#[tval t (.slice sa t.args.length sc), .pointer (some ⟨w.heap.size, 0, none⟩), .slice none 0 0, tval t (.slice sa t.args.length sc), fval (feat t []), tval t (.slice sa t.args.length sc), .slice (some ⟨n3, 0, none⟩) 1 1, fval (feat t [0]), tval t (.slice sa t.args.length sc), .slice (some ⟨n6, 0, none⟩) 1 1, undef, tval t (.slice sa t.args.length sc), undef, undef, undef], []⟩ X := by
    intro X n3 n6 bX r6
    subst hops hQ
    refine wpAnyH_ready (rs := [7, 9]) (by kernel_rfl) (by simp) (AllReadyH.cons (o := ⟨_, _, _, _, _, _⟩) rfl (fun K hK => ?_) (AllReadyH.cons (o := ⟨_, _, _, _, _, _⟩) rfl (fun K hK => ?_) AllReadyH.nil))
    · rw [if_pos (by rfl)]
      go_simp
      refine (feature_any t _ [1] _ X (HA.out X bX) r6).mono ?_
      rintro e Y ⟨rfl, qY⟩
      have bY : Below n0 Wd Y := bX.trans (qY.mono (by have := bX.size; have := HN0.out; omega))
      refine hK.out _ _ (HSS.out _ bY) (fun _ => ?_)
      clear hK K
      try simp only [List.setIfInBounds_toArray, List.set_cons_zero, List.set_cons_succ]
      exact at_state (by kernel_rfl) (st1111100 Y n3 n6 bY)
    · rw [if_pos (by rfl)]
      go_simp
      obtain ⟨Y, hY⟩ : ∃ Z, X.alloc (.cells #[.int .i64 0, .int .i64 0] 3) = Z := ⟨_, rfl⟩
      have qY : Below X.heap.size X Y := by rw [← hY]; exact below_box _ _
      have r9 : RowAt (fun k : Nat => .int .i64 (k : Int)) Y (.slice (some ⟨X.heap.size, 0, none⟩) 2 2) [0, 0] := by rw [← hY]; exact nums_built X [0, 0] (by simp)
      rw [hY]
      have bY : Below n0 Wd Y := bX.trans (qY.mono (by have := bX.size; have := HN0.out; omega))
      refine hK.out _ _ (HSS.out _ bY) (fun _ => ?_)
      clear hK K
      try simp only [List.setIfInBounds_toArray, List.set_cons_zero, List.set_cons_succ]
      exact at_state (by kernel_rfl) (st1111010 Y n3 n6 X.heap.size bY (r6.keep qY (Nat.le_refl _)) r9)
  have st1110010 : ∀ (X : World) (n3 n9 : Nat), Below n0 Wd X → RowAt (fun k : Nat => .int .i64 (k : Int)) X (.slice (some ⟨n9, 0, none⟩) 2 2) [0, 0] → wpAnyH Try.prog .any ops Q (fun Z => Below n0 Wd Z) 5 #[true, true, true, true, true, true, false, false, true, true, false, false, false] ⟨#[tval t (.slice sa t.args.length sc), .pointer (some ⟨w.heap.size, 0, none⟩), .slice none 0 0, tval t (.slice sa t.args.length sc), fval (feat t []), tval t (.slice sa t.args.length sc), .slice (some ⟨n3, 0, none⟩) 1 1, fval (feat t [0]), tval t (.slice sa t.args.length sc), undef, undef, tval t (.slice sa t.args.length sc), .slice (some ⟨n9, 0, none⟩) 2 2, undef, undef], []⟩ X := by
    intro X n3 n9 bX r9
    subst hops hQ
    refine wpAnyH_ready (rs := [6]) (by kernel_rfl) (by simp) (AllReadyH.cons (o := ⟨_, _, _, _, _, _⟩) rfl (fun K hK => ?_) AllReadyH.nil)
    · rw [if_pos (by rfl)]
      go_simp
      obtain ⟨Y, hY⟩ : ∃ Z, X.alloc (.cells #[.int .i64 1] 3) = Z := ⟨_, rfl⟩
      have qY : Below X.heap.size X Y := by rw [← hY]; exact below_box _ _
      have r6 : RowAt (fun k : Nat => .int .i64 (k : Int)) Y (.slice (some ⟨X.heap.size, 0, none⟩) 1 1) [1] := by rw [← hY]; exact nums_built X [1] (by simp)
      rw [hY]
      have bY : Below n0 Wd Y := bX.trans (qY.mono (by have := bX.size; have := HN0.out; omega))
      refine hK.out _ _ (HSS.out _ bY) (fun _ => ?_)
      clear hK K
      try simp only [List.setIfInBounds_toArray, List.set_cons_zero, List.set_cons_succ]
      exact at_state (by kernel_rfl) (st1111010 Y n3 X.heap.size n9 bY r6 (r9.keep qY (Nat.le_refl _)))
  have st1101010 : ∀ (X : World) (n3 n6 n9 : Nat), Below n0 Wd X → RowAt (fun k : Nat => .int .i64 (k : Int)) X (.slice (some ⟨n3, 0, none⟩) 1 1) [0] → RowAt (fun k : Nat => .int .i64 (k : Int)) X (.slice (some ⟨n6, 0, none⟩) 1 1) [1] → RowAt (fun k : Nat => .int .i64 (k : Int)) X (.slice (some ⟨n9, 0, none⟩) 2 2) [0, 0] → wpAnyH Try.prog .any ops Q (fun Z => Below n0 Wd Z) 5 #[true, true, true, true, false, true, true, false, true, true, false, false, false] ⟨#[tval t (.slice sa t.args.length sc), .pointer (some ⟨w.heap.size, 0, none⟩), .slice none 0 0, tval t (.slice sa t.args.length sc), fval (feat t []), tval t (.slice sa t.args.length sc), .slice (some ⟨n3, 0, none⟩) 1 1, undef, tval t (.slice sa t.args.length sc), .slice (some ⟨n6, 0, none⟩) 1 1, undef, tval t (.slice sa t.args.length sc), .slice (some ⟨n9, 0, none⟩) 2 2, undef, undef], []⟩ X := by
    intro X n3 n6 n9 bX r3 r6 r9
    subst hops hQ
    refine wpAnyH_ready (rs := [4]) (by kernel_rfl) (by simp) (AllReadyH.cons (o := ⟨_, _, _, _, _, _⟩) rfl (fun K hK => ?_) AllReadyH.nil)
    · rw [if_pos (by rfl)]
      go_simp
      refine (feature_any t _ [0] _ X (HA.out X bX) r3).mono ?_
      rintro e Y ⟨rfl, qY⟩
      have bY : Below n0 Wd Y := bX.trans (qY.mono (by have := bX.size; have := HN0.out; omega))
      refine hK.out _ _ (HSS.out _ bY) (fun _ => ?_)
      clear hK K
      try simp only [List.setIfInBounds_toArray, List.set_cons_zero, List.set_cons_succ]
      exact at_state (by kernel_rfl) (st1111010 Y n3 n6 n9 bY (r6.keep qY (Nat.le_refl _)) (r9.keep qY (Nat.le_refl _)))
  have st1110000 : ∀ (X : World) (n3 : Nat), Below n0 Wd X → wpAnyH Try.prog .any ops Q (fun Z => Below n0 Wd Z) 6 #[true, true, true, true, true, true, false, false, true, false, false, false, false] ⟨#[tval t (.slice sa t.args.length sc), .pointer (some ⟨w.heap.size, 0, none⟩), .slice none 0 0, tval t (.slice sa t.args.length sc), fval (feat t []), tval t (.slice sa t.args.length sc), .slice (some ⟨n3, 0, none⟩) 1 1, fval (feat t [0]), tval t (.slice sa t.args.length sc), undef, undef, tval t (.slice sa t.args.length sc), undef, undef, undef], []⟩ X := by
    intro X n3 bX
    subst hops hQ
    refine wpAnyH_ready (rs := [6, 9]) (by kernel_rfl) (by simp) (AllReadyH.cons (o := ⟨_, _, _, _, _, _⟩) rfl (fun K hK => ?_) (AllReadyH.cons (o := ⟨_, _, _, _, _, _⟩) rfl (fun K hK => ?_) AllReadyH.nil))
    · rw [if_pos (by rfl)]
      go_simp
      obtain ⟨Y, hY⟩ : ∃ Z, X.alloc (.cells #[.int .i64 1] 3) = Z := ⟨_, rfl⟩
      have qY : Below X.heap.size X Y := by rw [← hY]; exact below_box _ _
      have r6 : RowAt (fun k : Nat => .int .i64 (k : Int)) Y (.slice (some ⟨X.heap.size, 0, none⟩) 1 1) [1] := by rw [← hY]; exact nums_built X [1] (by simp)
      rw [hY]
      have bY : Below n0 Wd Y := bX.trans (qY.mono (by have := bX.size; have := HN0.out; omega))
      refine hK.out _ _ (HSS.out _ bY) (fun _ => ?_)
      clear hK K
      try simp only [List.setIfInBounds_toArray, List.set_cons_zero, List.set_cons_succ]
      exact at_state (by kernel_rfl) (st1111000 Y n3 X.heap.size bY r6)
    · rw [if_pos (by rfl)]
      go_simp
      obtain ⟨Y, hY⟩ : ∃ Z, X.alloc (.cells #[.int .i64 0, .int .i64 0] 3) = Z := ⟨_, rfl⟩
      have qY : Below X.heap.size X Y := by rw [← hY]; exact below_box _ _
      have r9 : RowAt (fun k : Nat => .int .i64 (k : Int)) Y (.slice (some ⟨X.heap.size, 0, none⟩) 2 2) [0, 0] := by rw [← hY]; exact nums_built X [0, 0] (by simp)
      rw [hY]
      have bY : Below n0 Wd Y := bX.trans (qY.mono (by have := bX.size; have := HN0.out; omega))
      refine hK.out _ _ (HSS.out _ bY) (fun _ => ?_)
      clear hK K
      try simp only [List.setIfInBounds_toArray, List.set_cons_zero, List.set_cons_succ]
      exact at_state (by kernel_rfl) (st1110010 Y n3 X.heap.size bY r9)
  have st1101000 : ∀ (X : World) (n3 n6 : Nat), Below n0 Wd X → RowAt (fun k : Nat => .int .i64 (k : Int)) X (.slice (some ⟨n3, 0, none⟩) 1 1) [0] → RowAt (fun k : Nat => .int .i64 (k : Int)) X (.slice (some ⟨n6, 0, none⟩) 1 1) [1] → wpAnyH Try.prog .any ops Q (fun Z => Below n0 Wd Z) 6 #[true, true, true, true, false, true, true, false, true, false, false, false, false] ⟨#[tval t (.slice sa t.args.length sc), .pointer (some ⟨w.heap.size, 0, none⟩), .slice none 0 0, tval t (.slice sa t.args.length sc), fval (feat t []), tval t (.slice sa t.args.length sc), .slice (some ⟨n3, 0, none⟩) 1 1, undef, tval t (.slice sa t.args.length sc), .slice (some ⟨n6, 0, none⟩) 1 1, undef, tval t (.slice sa t.args.length sc), undef, undef, undef], []⟩ X := by
    intro X n3 n6 bX r3 r6
    subst hops hQ
    refine wpAnyH_ready (rs := [4, 9]) (by kernel_rfl) (by simp) (AllReadyH.cons (o := ⟨_, _, _, _, _, _⟩) rfl (fun K hK => ?_) (AllReadyH.cons (o := ⟨_, _, _, _, _, _⟩) rfl (fun K hK => ?_) AllReadyH.nil))
    · rw [if_pos (by rfl)]
      go_simp
      refine (feature_any t _ [0] _ X (HA.out X bX) r3).mono ?_
      rintro e Y ⟨rfl, qY⟩
      have bY : Below n0 Wd Y := bX.trans (qY.mono (by have := bX.size; have := HN0.out; omega))
      refine hK.out _ _ (HSS.out _ bY) (fun _ => ?_)
      clear hK K
      try simp only [List.setIfInBounds_toArray, List.set_cons_zero, List.set_cons_succ]
      exact at_state (by kernel_rfl) (st1111000 Y n3 n6 bY (r6.keep qY (Nat.le_refl _)))
    · rw [if_pos (by rfl)]
      go_simp
      obtain ⟨Y, hY⟩ : ∃ Z, X.alloc (.cells #[.int .i64 0, .int .i64 0] 3) = Z := ⟨_, rfl⟩
      have qY : Below X.heap.size X Y := by rw [← hY]; exact below_box _ _
      have r9 : RowAt (fun k : Nat => .int .i64 (k : Int)) Y (.slice (some ⟨X.heap.size, 0, none⟩) 2 2) [0, 0] := by rw [← hY]; exact nums_built X [0, 0] (by simp)
      rw [hY]
      have bY : Below n0 Wd Y := bX.trans (qY.mono (by have := bX.size; have := HN0.out; omega))
      refine hK.out _ _ (HSS.out _ bY) (fun _ => ?_)
      clear hK K
      try simp only [List.setIfInBounds_toArray, List.set_cons_zero, List.set_cons_succ]
      exact at_state (by kernel_rfl) (st1101010 Y n3 n6 X.heap.size bY (r3.keep qY (Nat.le_refl _)) (r6.keep qY (Nat.le_refl _)) r9)
  have st1100010 : ∀ (X : World) (n3 n9 : Nat), Below n0 Wd X → RowAt (fun k : Nat => .int .i64 (k : Int)) X (.slice (some ⟨n3, 0, none⟩) 1 1) [0] → RowAt (fun k : Nat => .int .i64 (k : Int)) X (.slice (some ⟨n9, 0, none⟩) 2 2) [0, 0] → wpAnyH Try.prog .any ops Q (fun Z => Below n0 Wd Z) 6 #[true, true, true, true, false, true, false, false, true, true, false, false, false] ⟨#[tval t (.slice sa t.args.length sc), .pointer (some ⟨w.heap.size, 0, none⟩), .slice none 0 0, tval t (.slice sa t.args.length sc), fval (feat t []), tval t (.slice sa t.args.length sc), .slice (some ⟨n3, 0, none⟩) 1 1, undef, tval t (.slice sa t.args.length sc), undef, undef, tval t (.slice sa t.args.length sc), .slice (some ⟨n9, 0, none⟩) 2 2, undef, undef], []⟩ X := by
    intro X n3 n9 bX r3 r9
    subst hops hQ
    refine wpAnyH_ready (rs := [4, 6]) (by kernel_rfl) (by simp) (AllReadyH.cons (o := ⟨_, _, _, _, _, _⟩) rfl (fun K hK => ?_) (AllReadyH.cons (o := ⟨_, _, _, _, _, _⟩) rfl (fun K hK => ?_) AllReadyH.nil))
    · rw [if_pos (by rfl)]
      go_simp
      refine (feature_any t _ [0] _ X (HA.out X bX) r3).mono ?_
      rintro e Y ⟨rfl, qY⟩
      have bY : Below n0 Wd Y := bX.trans (qY.mono (by have := bX.size; have := HN0.out; omega))
      refine hK.out _ _ (HSS.out _ bY) (fun _ => ?_)
      clear hK K
      try simp only [List.setIfInBounds_toArray, List.set_cons_zero, List.set_cons_succ]
      exact at_state (by kernel_rfl) (st1110010 Y n3 n9 bY (r9.keep qY (Nat.le_refl _)))
    · rw [if_pos (by rfl)]
      go_simp
      obtain ⟨Y, hY⟩ : ∃ Z, X.alloc (.cells #[.int .i64 1] 3) = Z := ⟨_, rfl⟩
      have qY : Below X.heap.size X Y := by rw [← hY]; exact below_box _ _
      have r6 : RowAt (fun k : Nat => .int .i64 (k : Int)) Y (.slice (some ⟨X.heap.size, 0, none⟩) 1 1) [1] := by rw [← hY]; exact nums_built X [1] (by simp)
      rw [hY]
      have bY : Below n0 Wd Y := bX.trans (qY.mono (by have := bX.size; have := HN0.out; omega))
      refine hK.out _ _ (HSS.out _ bY) (fun _ => ?_)
      clear hK K
      try simp only [List.setIfInBounds_toArray, List.set_cons_zero, List.set_cons_succ]
      exact at_state (by kernel_rfl) (st1101010 Y n3 X.heap.size n9 bY (r3.keep qY (Nat.le_refl _)) r6 (r9.keep qY (Nat.le_refl _)))
  have st1001010 : ∀ (X : World) (n6 n9 : Nat), Below n0 Wd X → RowAt (fun k : Nat => .int .i64 (k : Int)) X (.slice (some ⟨n6, 0, none⟩) 1 1) [1] → RowAt (fun k : Nat => .int .i64 (k : Int)) X (.slice (some ⟨n9, 0, none⟩) 2 2) [0, 0] → wpAnyH Try.prog .any ops Q (fun Z => Below n0 Wd Z) 6 #[true, true, true, false, false, true, true, false, true, true, false, false, false] ⟨#[tval t (.slice sa t.args.length sc), .pointer (some ⟨w.heap.size, 0, none⟩), .slice none 0 0, tval t (.slice sa t.args.length sc), fval (feat t []), tval t (.slice sa t.args.length sc), undef, undef, tval t (.slice sa t.args.length sc), .slice (some ⟨n6, 0, none⟩) 1 1, undef, tval t (.slice sa t.args.length sc), .slice (some ⟨n9, 0, none⟩) 2 2, undef, undef], []⟩ X := by
    intro X n6 n9 bX r6 r9
    subst hops hQ
    refine wpAnyH_ready (rs := [3]) (by kernel_rfl) (by simp) (AllReadyH.cons (o := ⟨_, _, _, _, _, _⟩) rfl (fun K hK => ?_) AllReadyH.nil)
    · rw [if_pos (by rfl)]
      go_simp
      obtain ⟨Y, hY⟩ : ∃ Z, X.alloc (.cells #[.int .i64 0] 3) = Z := ⟨_, rfl⟩
      have qY : Below X.heap.size X Y := by rw [← hY]; exact below_box _ _
      have r3 : RowAt (fun k : Nat => .int .i64 (k : Int)) Y (.slice (some ⟨X.heap.size, 0, none⟩) 1 1) [0] := by rw [← hY]; exact nums_built X [0] (by simp)
      rw [hY]
      have bY : Below n0 Wd Y := bX.trans (qY.mono (by have := bX.size; have := HN0.out; omega))
      refine hK.out _ _ (HSS.out _ bY) (fun _ => ?_)
      clear hK K
      try simp only [List.setIfInBounds_toArray, List.set_cons_zero, List.set_cons_succ]
      exact at_state (by kernel_rfl) (st1101010 Y X.heap.size n6 n9 bY r3 (r6.keep qY (Nat.le_refl _)) (r9.keep qY (Nat.le_refl _)))
  have st0101010 : ∀ (X : World) (n3 n6 n9 : Nat), Below n0 Wd X → RowAt (fun k : Nat => .int .i64 (k : Int)) X (.slice (some ⟨n3, 0, none⟩) 1 1) [0] → RowAt (fun k : Nat => .int .i64 (k : Int)) X (.slice (some ⟨n6, 0, none⟩) 1 1) [1] → RowAt (fun k : Nat => .int .i64 (k : Int)) X (.slice (some ⟨n9, 0, none⟩) 2 2) [0, 0] → wpAnyH Try.prog .any ops Q (fun Z => Below n0 Wd Z) 6 #[true, false, true, true, false, true, true, false, true, true, false, false, false] ⟨#[tval t (.slice sa t.args.length sc), .pointer (some ⟨w.heap.size, 0, none⟩), .slice none 0 0, tval t (.slice sa t.args.length sc), undef, tval t (.slice sa t.args.length sc), .slice (some ⟨n3, 0, none⟩) 1 1, undef, tval t (.slice sa t.args.length sc), .slice (some ⟨n6, 0, none⟩) 1 1, undef, tval t (.slice sa t.args.length sc), .slice (some ⟨n9, 0, none⟩) 2 2, undef, undef], []⟩ X := by
    intro X n3 n6 n9 bX r3 r6 r9
    subst hops hQ
    refine wpAnyH_ready (rs := [1]) (by kernel_rfl) (by simp) (AllReadyH.cons (o := ⟨_, _, _, _, _, _⟩) rfl (fun K hK => ?_) AllReadyH.nil)
    · rw [if_pos (by rfl)]
      go_simp
      refine (feature_any t _ [] _ X (HA.out X bX) (rnil X)).mono ?_
      rintro e Y ⟨rfl, qY⟩
      have bY : Below n0 Wd Y := bX.trans (qY.mono (by have := bX.size; have := HN0.out; omega))
      refine hK.out _ _ (HSS.out _ bY) (fun _ => ?_)
      clear hK K
      try simp only [List.setIfInBounds_toArray, List.set_cons_zero, List.set_cons_succ]
      exact at_state (by kernel_rfl) (st1101010 Y n3 n6 n9 bY (r3.keep qY (Nat.le_refl _)) (r6.keep qY (Nat.le_refl _)) (r9.keep qY (Nat.le_refl _)))
  have st1100000 : ∀ (X : World) (n3 : Nat), Below n0 Wd X → RowAt (fun k : Nat => .int .i64 (k : Int)) X (.slice (some ⟨n3, 0, none⟩) 1 1) [0] → wpAnyH Try.prog .any ops Q (fun Z => Below n0 Wd Z) 7 #[true, true, true, true, false, true, false, false, true, false, false, false, false] ⟨#[tval t (.slice sa t.args.length sc), .pointer (some ⟨w.heap.size, 0, none⟩), .slice none 0 0, tval t (.slice sa t.args.length sc), fval (feat t []), tval t (.slice sa t.args.length sc), .slice (some ⟨n3, 0, none⟩) 1 1, undef, tval t (.slice sa t.args.length sc), undef, undef, tval t (.slice sa t.args.length sc), undef, undef, undef], []⟩ X := by
    intro X n3 bX r3
    subst hops hQ
    refine wpAnyH_ready (rs := [4, 6, 9]) (by kernel_rfl) (by simp) (AllReadyH.cons (o := ⟨_, _, _, _, _, _⟩) rfl (fun K hK => ?_) (AllReadyH.cons (o := ⟨_, _, _, _, _, _⟩) rfl (fun K hK => ?_) (AllReadyH.cons (o := ⟨_, _, _, _, _, _⟩) rfl (fun K hK => ?_) AllReadyH.nil)))
    · rw [if_pos (by rfl)]
      go_simp
      refine (feature_any t _ [0] _ X (HA.out X bX) r3).mono ?_
      rintro e Y ⟨rfl, qY⟩
      have bY : Below n0 Wd Y := bX.trans (qY.mono (by have := bX.size; have := HN0.out; omega))
      refine hK.out _ _ (HSS.out _ bY) (fun _ => ?_)
      clear hK K
      try simp only [List.setIfInBounds_toArray, List.set_cons_zero, List.set_cons_succ]
      exact at_state (by kernel_rfl) (st1110000 Y n3 bY)
    · rw [if_pos (by rfl)]
      go_simp
      obtain ⟨Y, hY⟩ : ∃ Z, X.alloc (.cells #[.int .i64 1] 3) = Z := ⟨_, rfl⟩
      have qY : Below X.heap.size X Y := by rw [← hY]; exact below_box _ _
      have r6 : RowAt (fun k : Nat => .int .i64 (k : Int)) Y (.slice (some ⟨X.heap.size, 0, none⟩) 1 1) [1] := by rw [← hY]; exact nums_built X [1] (by simp)
      rw [hY]
      have bY : Below n0 Wd Y := bX.trans (qY.mono (by have := bX.size; have := HN0.out; omega))
      refine hK.out _ _ (HSS.out _ bY) (fun _ => ?_)
      clear hK K
      try simp only [List.setIfInBounds_toArray, List.set_cons_zero, List.set_cons_succ]
      exact at_state (by kernel_rfl) (st1101000 Y n3 X.heap.size bY (r3.keep qY (Nat.le_refl _)) r6)
    · rw [if_pos (by rfl)]
      go_simp
      obtain ⟨Y, hY⟩ : ∃ Z, X.alloc (.cells #[.int .i64 0, .int .i64 0] 3) = Z := ⟨_, rfl⟩
      have qY : Below X.heap.size X Y := by rw [← hY]; exact below_box _ _
      have r9 : RowAt (fun k : Nat => .int .i64 (k : Int)) Y (.slice (some ⟨X.heap.size, 0, none⟩) 2 2) [0, 0] := by rw [← hY]; exact nums_built X [0, 0] (by simp)
      rw [hY]
      have bY : Below n0 Wd Y := bX.trans (qY.mono (by have := bX.size; have := HN0.out; omega))
      refine hK.out _ _ (HSS.out _ bY) (fun _ => ?_)
      clear hK K
      try simp only [List.setIfInBounds_toArray, List.set_cons_zero, List.set_cons_succ]
      exact at_state (by kernel_rfl) (st1100010 Y n3 X.heap.size bY (r3.keep qY (Nat.le_refl _)) r9)
  have st1001000 : ∀ (X : World) (n6 : Nat), Below n0 Wd X → RowAt (fun k : Nat => .int .i64 (k : Int)) X (.slice (some ⟨n6, 0, none⟩) 1 1) [1] → wpAnyH Try.prog .any ops Q (fun Z => Below n0 Wd Z) 7 #[true, true, true, false, false, true, true, false, true, false, false, false, false] ⟨#[tval t (.slice sa t.args.length sc), .pointer (some ⟨w.heap.size, 0, none⟩), .slice none 0 0, tval t (.slice sa t.args.length sc), fval (feat t []), tval t (.slice sa t.args.length sc), undef, undef, tval t (.slice sa t.args.length sc), .slice (some ⟨n6, 0, none⟩) 1 1, undef, tval t (.slice sa t.args.length sc), undef, undef, undef], []⟩ X := by
    intro X n6 bX r6
    subst hops hQ
    refine wpAnyH_ready (rs := [3, 9]) (by kernel_rfl) (by simp) (AllReadyH.cons (o := ⟨_, _, _, _, _, _⟩) rfl (fun K hK => ?_) (AllReadyH.cons (o := ⟨_, _, _, _, _, _⟩) rfl (fun K hK => ?_) AllReadyH.nil))
    · rw [if_pos (by rfl)]
      go_simp
      obtain ⟨Y, hY⟩ : ∃ Z, X.alloc (.cells #[.int .i64 0] 3) = Z := ⟨_, rfl⟩
      have qY : Below X.heap.size X Y := by rw [← hY]; exact below_box _ _
      have r3 : RowAt (fun k : Nat => .int .i64 (k : Int)) Y (.slice (some ⟨X.heap.size, 0, none⟩) 1 1) [0] := by rw [← hY]; exact nums_built X [0] (by simp)
      rw [hY]
      have bY : Below n0 Wd Y := bX.trans (qY.mono (by have := bX.size; have := HN0.out; omega))
      refine hK.out _ _ (HSS.out _ bY) (fun _ => ?_)
      clear hK K
      try simp only [List.setIfInBounds_toArray, List.set_cons_zero, List.set_cons_succ]
      exact at_state (by kernel_rfl) (st1101000 Y X.heap.size n6 bY r3 (r6.keep qY (Nat.le_refl _)))
    · rw [if_pos (by rfl)]
      go_simp
      obtain ⟨Y, hY⟩ : ∃ Z, X.alloc (.cells #[.int .i64 0, .int .i64 0] 3) = Z := ⟨_, rfl⟩
      have qY : Below X.heap.size X Y := by rw [← hY]; exact below_box _ _
      have r9 : RowAt (fun k : Nat => .int .i64 (k : Int)) Y (.slice (some ⟨X.heap.size, 0, none⟩) 2 2) [0, 0] := by rw [← hY]; exact nums_built X [0, 0] (by simp)
      rw [hY]
      have bY : Below n0 Wd Y := bX.trans (qY.mono (by have := bX.size; have := HN0.out; omega))
      refine hK.out _ _ (HSS.out _ bY) (fun _ => ?_)
      clear hK K
      try simp only [List.setIfInBounds_toArray, List.set_cons_zero, List.set_cons_succ]
      exact at_state (by kernel_rfl) (st1001010 Y n6 X.heap.size bY (r6.keep qY (Nat.le_refl _)) r9)
  have st1000010 : ∀ (X : World) (n9 : Nat), Below n0 Wd X → RowAt (fun k : Nat => .int .i64 (k : Int)) X (.slice (some ⟨n9, 0, none⟩) 2 2) [0, 0] → wpAnyH Try.prog .any ops Q (fun Z => Below n0 Wd Z) 7 #[true, true, true, false, false, true, false, false, true, true, false, false, false] ⟨#[tval t (.slice sa t.args.length sc), .pointer (some ⟨w.heap.size, 0, none⟩), .slice none 0 0, tval t (.slice sa t.args.length sc), fval (feat t []), tval t (.slice sa t.args.length sc), undef, undef, tval t (.slice sa t.args.length sc), undef, undef, tval t (.slice sa t.args.length sc), .slice (some ⟨n9, 0, none⟩) 2 2, undef, undef], []⟩ X := by
    intro X n9 bX r9
    subst hops hQ
    refine wpAnyH_ready (rs := [3, 6]) (by kernel_rfl) (by simp) (AllReadyH.cons (o := ⟨_, _, _, _, _, _⟩) rfl (fun K hK => ?_) (AllReadyH.cons (o := ⟨_, _, _, _, _, _⟩) rfl (fun K hK => ?_) AllReadyH.nil))
    · rw [if_pos (by rfl)]
      go_simp
      obtain ⟨Y, hY⟩ : ∃ Z, X.alloc (.cells #[.int .i64 0] 3) = Z := ⟨_, rfl⟩
      have qY : Below X.heap.size X Y := by rw [← hY]; exact below_box _ _
      have r3 : RowAt (fun k : Nat => .int .i64 (k : Int)) Y (.slice (some ⟨X.heap.size, 0, none⟩) 1 1) [0] := by rw [← hY]; exact nums_built X [0] (by simp)
      rw [hY]
      have bY : Below n0 Wd Y := bX.trans (qY.mono (by have := bX.size; have := HN0.out; omega))
      refine hK.out _ _ (HSS.out _ bY) (fun _ => ?_)
      clear hK K
      try simp only [List.setIfInBounds_toArray, List.set_cons_zero, List.set_cons_succ]
      exact at_state (by kernel_rfl) (st1100010 Y X.heap.size n9 bY r3 (r9.keep qY (Nat.le_refl _)))
    · rw [if_pos (by rfl)]
      go_simp
      obtain ⟨Y, hY⟩ : ∃ Z, X.alloc (.cells #[.int .i64 1] 3) = Z := ⟨_, rfl⟩
      have qY : Below X.heap.size X Y := by rw [← hY]; exact below_box _ _
      have r6 : RowAt (fun k : Nat => .int .i64 (k : Int)) Y (.slice (some ⟨X.heap.size, 0, none⟩) 1 1) [1] := by rw [← hY]; exact nums_built X [1] (by simp)
      rw [hY]
      have bY : Below n0 Wd Y := bX.trans (qY.mono (by have := bX.size; have := HN0.out; omega))
      refine hK.out _ _ (HSS.out _ bY) (fun _ => ?_)
      clear hK K
      try simp only [List.setIfInBounds_toArray, List.set_cons_zero, List.set_cons_succ]
      exact at_state (by kernel_rfl) (st1001010 Y X.heap.size n9 bY r6 (r9.keep qY (Nat.le_refl _)))
  have st0101000 : ∀ (X : World) (n3 n6 : Nat), Below n0 Wd X → RowAt (fun k : Nat => .int .i64 (k : Int)) X (.slice (some ⟨n3, 0, none⟩) 1 1) [0] → RowAt (fun k : Nat => .int .i64 (k : Int)) X (.slice (some ⟨n6, 0, none⟩) 1 1) [1] → wpAnyH Try.prog .any ops Q (fun Z => Below n0 Wd Z) 7 #[true, false, true, true, false, true, true, false, true, false, false, false, false] ⟨#[tval t (.slice sa t.args.length sc), .pointer (some ⟨w.heap.size, 0, none⟩), .slice none 0 0, tval t (.slice sa t.args.length sc), undef, tval t (.slice sa t.args.length sc), .slice (some ⟨n3, 0, none⟩) 1 1, undef, tval t (.slice sa t.args.length sc), .slice (some ⟨n6, 0, none⟩) 1 1, undef, tval t (.slice sa t.args.length sc), undef, undef, undef], []⟩ X := by
    intro X n3 n6 bX r3 r6
    subst hops hQ
    refine wpAnyH_ready (rs := [1, 9]) (by kernel_rfl) (by simp) (AllReadyH.cons (o := ⟨_, _, _, _, _, _⟩) rfl (fun K hK => ?_) (AllReadyH.cons (o := ⟨_, _, _, _, _, _⟩) rfl (fun K hK => ?_) AllReadyH.nil))
    · rw [if_pos (by rfl)]
      go_simp
      refine (feature_any t _ [] _ X (HA.out X bX) (rnil X)).mono ?_
      rintro e Y ⟨rfl, qY⟩
      have bY : Below n0 Wd Y := bX.trans (qY.mono (by have := bX.size; have := HN0.out; omega))
      refine hK.out _ _ (HSS.out _ bY) (fun _ => ?_)
      clear hK K
      try simp only [List.setIfInBounds_toArray, List.set_cons_zero, List.set_cons_succ]
      exact at_state (by kernel_rfl) (st1101000 Y n3 n6 bY (r3.keep qY (Nat.le_refl _)) (r6.keep qY (Nat.le_refl _)))
    · rw [if_pos (by rfl)]
      go_simp
      obtain ⟨Y, hY⟩ : ∃ Z, X.alloc (.cells #[.int .i64 0, .int .i64 0] 3) = Z := ⟨_, rfl⟩
      have qY : Below X.heap.size X Y := by rw [← hY]; exact below_box _ _
      have r9 : RowAt (fun k : Nat => .int .i64 (k : Int)) Y (.slice (some ⟨X.heap.size, 0, none⟩) 2 2) [0, 0] := by rw [← hY]; exact nums_built X [0, 0] (by simp)
      rw [hY]
      have bY : Below n0 Wd Y := bX.trans (qY.mono (by have := bX.size; have := HN0.out; omega))
      refine hK.out _ _ (HSS.out _ bY) (fun _ => ?_)
      clear hK K
      try simp only [List.setIfInBounds_toArray, List.set_cons_zero, List.set_cons_succ]
      exact at_state (by kernel_rfl) (st0101010 Y n3 n6 X.heap.size bY (r3.keep qY (Nat.le_refl _)) (r6.keep qY (Nat.le_refl _)) r9)
  have st0100010 : ∀ (X : World) (n3 n9 : Nat), Below n0 Wd X → RowAt (fun k : Nat => .int .i64 (k : Int)) X (.slice (some ⟨n3, 0, none⟩) 1 1) [0] → RowAt (fun k : Nat => .int .i64 (k : Int)) X (.slice (some ⟨n9, 0, none⟩) 2 2) [0, 0] → wpAnyH Try.prog .any ops Q (fun Z => Below n0 Wd Z) 7 #[true, false, true, true, false, true, false, false, true, true, false, false, false] ⟨#[tval t (.slice sa t.args.length sc), .pointer (some ⟨w.heap.size, 0, none⟩), .slice none 0 0, tval t (.slice sa t.args.length sc), undef, tval t (.slice sa t.args.length sc), .slice (some ⟨n3, 0, none⟩) 1 1, undef, tval t (.slice sa t.args.length sc), undef, undef, tval t (.slice sa t.args.length sc), .slice (some ⟨n9, 0, none⟩) 2 2, undef, undef], []⟩ X := by
    intro X n3 n9 bX r3 r9
    subst hops hQ
    refine wpAnyH_ready (rs := [1, 6]) (by kernel_rfl) (by simp) (AllReadyH.cons (o := ⟨_, _, _, _, _, _⟩) rfl (fun K hK => ?_) (AllReadyH.cons (o := ⟨_, _, _, _, _, _⟩) rfl (fun K hK => ?_) AllReadyH.nil))
    · rw [if_pos (by rfl)]
      go_simp
      refine (feature_any t _ [] _ X (HA.out X bX) (rnil X)).mono ?_
      rintro e Y ⟨rfl, qY⟩
      have bY : Below n0 Wd Y := bX.trans (qY.mono (by have := bX.size; have := HN0.out; omega))
      refine hK.out _ _ (HSS.out _ bY) (fun _ => ?_)
      clear hK K
      try simp only [List.setIfInBounds_toArray, List.set_cons_zero, List.set_cons_succ]
      exact at_state (by kernel_rfl) (st1100010 Y n3 n9 bY (r3.keep qY (Nat.le_refl _)) (r9.keep qY (Nat.le_refl _)))
    · rw [if_pos (by rfl)]
      go_simp
      obtain ⟨Y, hY⟩ : ∃ Z, X.alloc (.cells #[.int .i64 1] 3) = Z := ⟨_, rfl⟩
      have qY : Below X.heap.size X Y := by rw [← hY]; exact below_box _ _
      have r6 : RowAt (fun k : Nat => .int .i64 (k : Int)) Y (.slice (some ⟨X.heap.size, 0, none⟩) 1 1) [1] := by rw [← hY]; exact nums_built X [1] (by simp)
      rw [hY]
      have bY : Below n0 Wd Y := bX.trans (qY.mono (by have := bX.size; have := HN0.out; omega))
      refine hK.out _ _ (HSS.out _ bY) (fun _ => ?_)
      clear hK K
      try simp only [List.setIfInBounds_toArray, List.set_cons_zero, List.set_cons_succ]
      exact at_state (by kernel_rfl) (st0101010 Y n3 X.heap.size n9 bY (r3.keep qY (Nat.le_refl _)) r6 (r9.keep qY (Nat.le_refl _)))
  have st0001010 : ∀ (X : World) (n6 n9 : Nat), Below n0 Wd X → RowAt (fun k : Nat => .int .i64 (k : Int)) X (.slice (some ⟨n6, 0, none⟩) 1 1) [1] → RowAt (fun k : Nat => .int .i64 (k : Int)) X (.slice (some ⟨n9, 0, none⟩) 2 2) [0, 0] → wpAnyH Try.prog .any ops Q (fun Z => Below n0 Wd Z) 7 #[true, false, true, false, false, true, true, false, true, true, false, false, false] ⟨#[tval t (.slice sa t.args.length sc), .pointer (some ⟨w.heap.size, 0, none⟩), .slice none 0 0, tval t (.slice sa t.args.length sc), undef, tval t (.slice sa t.args.length sc), undef, undef, tval t (.slice sa t.args.length sc), .slice (some ⟨n6, 0, none⟩) 1 1, undef, tval t (.slice sa t.args.length sc), .slice (some ⟨n9, 0, none⟩) 2 2, undef, undef], []⟩ X := by
    intro X n6 n9 bX r6 r9
    subst hops hQ
    refine wpAnyH_ready (rs := [1, 3]) (by kernel_rfl) (by simp) (AllReadyH.cons (o := ⟨_, _, _, _, _, _⟩) rfl (fun K hK => ?_) (AllReadyH.cons (o := ⟨_, _, _, _, _, _⟩) rfl (fun K hK => ?_) AllReadyH.nil))
    · rw [if_pos (by rfl)]
      go_simp
      refine (feature_any t _ [] _ X (HA.out X bX) (rnil X)).mono ?_
      rintro e Y ⟨rfl, qY⟩
      have bY : Below n0 Wd Y := bX.trans (qY.mono (by have := bX.size; have := HN0.out; omega))
      refine hK.out _ _ (HSS.out _ bY) (fun _ => ?_)
      clear hK K
      try simp only [List.setIfInBounds_toArray, List.set_cons_zero, List.set_cons_succ]
      exact at_state (by kernel_rfl) (st1001010 Y n6 n9 bY (r6.keep qY (Nat.le_refl _)) (r9.keep qY (Nat.le_refl _)))
    · rw [if_pos (by rfl)]
      go_simp
      obtain ⟨Y, hY⟩ : ∃ Z, X.alloc (.cells #[.int .i64 0] 3) = Z := ⟨_, rfl⟩
      have qY : Below X.heap.size X Y := by rw [← hY]; exact below_box _ _
      have r3 : RowAt (fun k : Nat => .int .i64 (k : Int)) Y (.slice (some ⟨X.heap.size, 0, none⟩) 1 1) [0] := by rw [← hY]; exact nums_built X [0] (by simp)
      rw [hY]
      have bY : Below n0 Wd Y := bX.trans (qY.mono (by have := bX.size; have := HN0.out; omega))
      refine hK.out _ _ (HSS.out _ bY) (fun _ => ?_)
      clear hK K
      try simp only [List.setIfInBounds_toArray, List.set_cons_zero, List.set_cons_succ]
      exact at_state (by kernel_rfl) (st0101010 Y X.heap.size n6 n9 bY r3 (r6.keep qY (Nat.le_refl _)) (r9.keep qY (Nat.le_refl _)))
  have st1000000 : ∀ (X : World), Below n0 Wd X → wpAnyH Try.prog .any ops Q (fun Z => Below n0 Wd Z) 8 #[true, true, true, false, false, true, false, false, true, false, false, false, false] ⟨#[tval t (.slice sa t.args.length sc), .pointer (some ⟨w.heap.size, 0, none⟩), .slice none 0 0, tval t (.slice sa t.args.length sc), fval (feat t []), tval t (.slice sa t.args.length sc), undef, undef, tval t (.slice sa t.args.length sc), undef, undef, tval t (.slice sa t.args.length sc), undef, undef, undef], []⟩ X := by
    intro X bX
    subst hops hQ
    refine wpAnyH_ready (rs := [3, 6, 9]) (by kernel_rfl) (by simp) (AllReadyH.cons (o := ⟨_, _, _, _, _, _⟩) rfl (fun K hK => ?_) (AllReadyH.cons (o := ⟨_, _, _, _, _, _⟩) rfl (fun K hK => ?_) (AllReadyH.cons (o := ⟨_, _, _, _, _, _⟩) rfl (fun K hK => ?_) AllReadyH.nil)))
    · rw [if_pos (by rfl)]
      go_simp
      obtain ⟨Y, hY⟩ : ∃ Z, X.alloc (.cells #[.int .i64 0] 3) = Z := ⟨_, rfl⟩
      have qY : Below X.heap.size X Y := by rw [← hY]; exact below_box _ _
      have r3 : RowAt (fun k : Nat => .int .i64 (k : Int)) Y (.slice (some ⟨X.heap.size, 0, none⟩) 1 1) [0] := by rw [← hY]; exact nums_built X [0] (by simp)
      rw [hY]
      have bY : Below n0 Wd Y := bX.trans (qY.mono (by have := bX.size; have := HN0.out; omega))
      refine hK.out _ _ (HSS.out _ bY) (fun _ => ?_)
      clear hK K
      try simp only [List.setIfInBounds_toArray, List.set_cons_zero, List.set_cons_succ]
      exact at_state (by kernel_rfl) (st1100000 Y X.heap.size bY r3)
    · rw [if_pos (by rfl)]
      go_simp
      obtain ⟨Y, hY⟩ : ∃ Z, X.alloc (.cells #[.int .i64 1] 3) = Z := ⟨_, rfl⟩
      have qY : Below X.heap.size X Y := by rw [← hY]; exact below_box _ _
      have r6 : RowAt (fun k : Nat => .int .i64 (k : Int)) Y (.slice (some ⟨X.heap.size, 0, none⟩) 1 1) [1] := by rw [← hY]; exact nums_built X [1] (by simp)
      rw [hY]
      have bY : Below n0 Wd Y := bX.trans (qY.mono (by have := bX.size; have := HN0.out; omega))
      refine hK.out _ _ (HSS.out _ bY) (fun _ => ?_)
      clear hK K
      try simp only [List.setIfInBounds_toArray, List.set_cons_zero, List.set_cons_succ]
      exact at_state (by kernel_rfl) (st1001000 Y X.heap.size bY r6)
    · rw [if_pos (by rfl)]
      go_simp
      obtain ⟨Y, hY⟩ : ∃ Z, X.alloc (.cells #[.int .i64 0, .int .i64 0] 3) = Z := ⟨_, rfl⟩
      have qY : Below X.heap.size X Y := by rw [← hY]; exact below_box _ _
      have r9 : RowAt (fun k : Nat => .int .i64 (k : Int)) Y (.slice (some ⟨X.heap.size, 0, none⟩) 2 2) [0, 0] := by rw [← hY]; exact nums_built X [0, 0] (by simp)
      rw [hY]
      have bY : Below n0 Wd Y := bX.trans (qY.mono (by have := bX.size; have := HN0.out; omega))
      refine hK.out _ _ (HSS.out _ bY) (fun _ => ?_)
      clear hK K
      try simp only [List.setIfInBounds_toArray, List.set_cons_zero, List.set_cons_succ]
      exact at_state (by kernel_rfl) (st1000010 Y X.heap.size bY r9)
  have st0100000 : ∀ (X : World) (n3 : Nat), Below n0 Wd X → RowAt (fun k : Nat => .int .i64 (k : Int)) X (.slice (some ⟨n3, 0, none⟩) 1 1) [0] → wpAnyH Try.prog .any ops Q (fun Z => Below n0 Wd Z) 8 #[true, false, true, true, false, true, false, false, true, false, false, false, false] ⟨#[tval t (.slice sa t.args.length sc), .pointer (some ⟨w.heap.size, 0, none⟩), .slice none 0 0, tval t (.slice sa t.args.length sc), undef, tval t (.slice sa t.args.length sc), .slice (some ⟨n3, 0, none⟩) 1 1, undef, tval t (.slice sa t.args.length sc), undef, undef, tval t (.slice sa t.args.length sc), undef, undef, undef], []⟩ X := by
    intro X n3 bX r3
    subst hops hQ
    refine wpAnyH_ready (rs := [1, 6, 9]) (by kernel_rfl) (by simp) (AllReadyH.cons (o := ⟨_, _, _, _, _, _⟩) rfl (fun K hK => ?_) (AllReadyH.cons (o := ⟨_, _, _, _, _, _⟩) rfl (fun K hK => ?_) (AllReadyH.cons (o := ⟨_, _, _, _, _, _⟩) rfl (fun K hK => ?_) AllReadyH.nil)))
    · rw [if_pos (by rfl)]
      go_simp
      refine (feature_any t _ [] _ X (HA.out X bX) (rnil X)).mono ?_
      rintro e Y ⟨rfl, qY⟩
      have bY : Below n0 Wd Y := bX.trans (qY.mono (by have := bX.size; have := HN0.out; omega))
      refine hK.out _ _ (HSS.out _ bY) (fun _ => ?_)
      clear hK K
      try simp only [List.setIfInBounds_toArray, List.set_cons_zero, List.set_cons_succ]
      exact at_state (by kernel_rfl) (st1100000 Y n3 bY (r3.keep qY (Nat.le_refl _)))
    · rw [if_pos (by rfl)]
      go_simp
      obtain ⟨Y, hY⟩ : ∃ Z, X.alloc (.cells #[.int .i64 1] 3) = Z := ⟨_, rfl⟩
      have qY : Below X.heap.size X Y := by rw [← hY]; exact below_box _ _
      have r6 : RowAt (fun k : Nat => .int .i64 (k : Int)) Y (.slice (some ⟨X.heap.size, 0, none⟩) 1 1) [1] := by rw [← hY]; exact nums_built X [1] (by simp)
      rw [hY]
      have bY : Below n0 Wd Y := bX.trans (qY.mono (by have := bX.size; have := HN0.out; omega))
      refine hK.out _ _ (HSS.out _ bY) (fun _ => ?_)
      clear hK K
      try simp only [List.setIfInBounds_toArray, List.set_cons_zero, List.set_cons_succ]
      exact at_state (by kernel_rfl) (st0101000 Y n3 X.heap.size bY (r3.keep qY (Nat.le_refl _)) r6)
    · rw [if_pos (by rfl)]
      go_simp
      obtain ⟨Y, hY⟩ : ∃ Z, X.alloc (.cells #[.int .i64 0, .int .i64 0] 3) = Z := ⟨_, rfl⟩
      have qY : Below X.heap.size X Y := by rw [← hY]; exact below_box _ _
      have r9 : RowAt (fun k : Nat => .int .i64 (k : Int)) Y (.slice (some ⟨X.heap.size, 0, none⟩) 2 2) [0, 0] := by rw [← hY]; exact nums_built X [0, 0] (by simp)
      rw [hY]
      have bY : Below n0 Wd Y := bX.trans (qY.mono (by have := bX.size; have := HN0.out; omega))
      refine hK.out _ _ (HSS.out _ bY) (fun _ => ?_)
      clear hK K
      try simp only [List.setIfInBounds_toArray, List.set_cons_zero, List.set_cons_succ]
      exact at_state (by kernel_rfl) (st0100010 Y n3 X.heap.size bY (r3.keep qY (Nat.le_refl _)) r9)
  have st0001000 : ∀ (X : World) (n6 : Nat), Below n0 Wd X → RowAt (fun k : Nat => .int .i64 (k : Int)) X (.slice (some ⟨n6, 0, none⟩) 1 1) [1] → wpAnyH Try.prog .any ops Q (fun Z => Below n0 Wd Z) 8 #[true, false, true, false, false, true, true, false, true, false, false, false, false] ⟨#[tval t (.slice sa t.args.length sc), .pointer (some ⟨w.heap.size, 0, none⟩), .slice none 0 0, tval t (.slice sa t.args.length sc), undef, tval t (.slice sa t.args.length sc), undef, undef, tval t (.slice sa t.args.length sc), .slice (some ⟨n6, 0, none⟩) 1 1, undef, tval t (.slice sa t.args.length sc), undef, undef, undef], []⟩ X := by
    intro X n6 bX r6
    subst hops hQ
    refine wpAnyH_ready (rs := [1, 3, 9]) (by kernel_rfl) (by simp) (AllReadyH.cons (o := ⟨_, _, _, _, _, _⟩) rfl (fun K hK => ?_) (AllReadyH.cons (o := ⟨_, _, _, _, _, _⟩) rfl (fun K hK => ?_) (AllReadyH.cons (o := ⟨_, _, _, _, _, _⟩) rfl (fun K hK => ?_) AllReadyH.nil)))
    · rw [if_pos (by rfl)]
      go_simp
      refine (feature_any t _ [] _ X (HA.out X bX) (rnil X)).mono ?_
      rintro e Y ⟨rfl, qY⟩
      have bY : Below n0 Wd Y := bX.trans (qY.mono (by have := bX.size; have := HN0.out; omega))
      refine hK.out _ _ (HSS.out _ bY) (fun _ => ?_)
      clear hK K
      try simp only [List.setIfInBounds_toArray, List.set_cons_zero, List.set_cons_succ]
      exact at_state (by kernel_rfl) (st1001000 Y n6 bY (r6.keep qY (Nat.le_refl _)))
    · rw [if_pos (by rfl)]
      go_simp
      obtain ⟨Y, hY⟩ : ∃ Z, X.alloc (.cells #[.int .i64 0] 3) = Z := ⟨_, rfl⟩
      have qY : Below X.heap.size X Y := by rw [← hY]; exact below_box _ _
      have r3 : RowAt (fun k : Nat => .int .i64 (k : Int)) Y (.slice (some ⟨X.heap.size, 0, none⟩) 1 1) [0] := by rw [← hY]; exact nums_built X [0] (by simp)
      rw [hY]
      have bY : Below n0 Wd Y := bX.trans (qY.mono (by have := bX.size; have := HN0.out; omega))
      refine hK.out _ _ (HSS.out _ bY) (fun _ => ?_)
      clear hK K
      try simp only [List.setIfInBounds_toArray, List.set_cons_zero, List.set_cons_succ]
      exact at_state (by kernel_rfl) (st0101000 Y X.heap.size n6 bY r3 (r6.keep qY (Nat.le_refl _)))
    · rw [if_pos (by rfl)]
      go_simp
      obtain ⟨Y, hY⟩ : ∃ Z, X.alloc (.cells #[.int .i64 0, .int .i64 0] 3) = Z := ⟨_, rfl⟩
      have qY : Below X.heap.size X Y := by rw [← hY]; exact below_box _ _
      have r9 : RowAt (fun k : Nat => .int .i64 (k : Int)) Y (.slice (some ⟨X.heap.size, 0, none⟩) 2 2) [0, 0] := by rw [← hY]; exact nums_built X [0, 0] (by simp)
      rw [hY]
      have bY : Below n0 Wd Y := bX.trans (qY.mono (by have := bX.size; have := HN0.out; omega))
      refine hK.out _ _ (HSS.out _ bY) (fun _ => ?_)
      clear hK K
      try simp only [List.setIfInBounds_toArray, List.set_cons_zero, List.set_cons_succ]
      exact at_state (by kernel_rfl) (st0001010 Y n6 X.heap.size bY (r6.keep qY (Nat.le_refl _)) r9)
  have st0000010 : ∀ (X : World) (n9 : Nat), Below n0 Wd X → RowAt (fun k : Nat => .int .i64 (k : Int)) X (.slice (some ⟨n9, 0, none⟩) 2 2) [0, 0] → wpAnyH Try.prog .any ops Q (fun Z => Below n0 Wd Z) 8 #[true, false, true, false, false, true, false, false, true, true, false, false, false] ⟨#[tval t (.slice sa t.args.length sc), .pointer (some ⟨w.heap.size, 0, none⟩), .slice none 0 0, tval t (.slice sa t.args.length sc), undef, tval t (.slice sa t.args.length sc), undef, undef, tval t (.slice sa t.args.length sc), undef, undef, tval t (.slice sa t.args.length sc), .slice (some ⟨n9, 0, none⟩) 2 2, undef, undef], []⟩ X := by
    intro X n9 bX r9
    subst hops hQ
    refine wpAnyH_ready (rs := [1, 3, 6]) (by kernel_rfl) (by simp) (AllReadyH.cons (o := ⟨_, _, _, _, _, _⟩) rfl (fun K hK => ?_) (AllReadyH.cons (o := ⟨_, _, _, _, _, _⟩) rfl (fun K hK => ?_) (AllReadyH.cons (o := ⟨_, _, _, _, _, _⟩) rfl (fun K hK => ?_) AllReadyH.nil)))
    · rw [if_pos (by rfl)]
      go_simp
      refine (feature_any t _ [] _ X (HA.out X bX) (rnil X)).mono ?_
      rintro e Y ⟨rfl, qY⟩
      have bY : Below n0 Wd Y := bX.trans (qY.mono (by have := bX.size; have := HN0.out; omega))
      refine hK.out _ _ (HSS.out _ bY) (fun _ => ?_)
      clear hK K
      try simp only [List.setIfInBounds_toArray, List.set_cons_zero, List.set_cons_succ]
      exact at_state (by kernel_rfl) (st1000010 Y n9 bY (r9.keep qY (Nat.le_refl _)))
    · rw [if_pos (by rfl)]
      go_simp
      obtain ⟨Y, hY⟩ : ∃ Z, X.alloc (.cells #[.int .i64 0] 3) = Z := ⟨_, rfl⟩
      have qY : Below X.heap.size X Y := by rw [← hY]; exact below_box _ _
      have r3 : RowAt (fun k : Nat => .int .i64 (k : Int)) Y (.slice (some ⟨X.heap.size, 0, none⟩) 1 1) [0] := by rw [← hY]; exact nums_built X [0] (by simp)
      rw [hY]
      have bY : Below n0 Wd Y := bX.trans (qY.mono (by have := bX.size; have := HN0.out; omega))
      refine hK.out _ _ (HSS.out _ bY) (fun _ => ?_)
      clear hK K
      try simp only [List.setIfInBounds_toArray, List.set_cons_zero, List.set_cons_succ]
      exact at_state (by kernel_rfl) (st0100010 Y X.heap.size n9 bY r3 (r9.keep qY (Nat.le_refl _)))
    · rw [if_pos (by rfl)]
      go_simp
      obtain ⟨Y, hY⟩ : ∃ Z, X.alloc (.cells #[.int .i64 1] 3) = Z := ⟨_, rfl⟩
      have qY : Below X.heap.size X Y := by rw [← hY]; exact below_box _ _
      have r6 : RowAt (fun k : Nat => .int .i64 (k : Int)) Y (.slice (some ⟨X.heap.size, 0, none⟩) 1 1) [1] := by rw [← hY]; exact nums_built X [1] (by simp)
      rw [hY]
      have bY : Below n0 Wd Y := bX.trans (qY.mono (by have := bX.size; have := HN0.out; omega))
      refine hK.out _ _ (HSS.out _ bY) (fun _ => ?_)
      clear hK K
      try simp only [List.setIfInBounds_toArray, List.set_cons_zero, List.set_cons_succ]
      exact at_state (by kernel_rfl) (st0001010 Y X.heap.size n9 bY r6 (r9.keep qY (Nat.le_refl _)))
  have st0000000 : ∀ (X : World), Below n0 Wd X → wpAnyH Try.prog .any ops Q (fun Z => Below n0 Wd Z) 9 #[true, false, true, false, false, true, false, false, true, false, false, false, false] ⟨#[tval t (.slice sa t.args.length sc), .pointer (some ⟨w.heap.size, 0, none⟩), .slice none 0 0, tval t (.slice sa t.args.length sc), undef, tval t (.slice sa t.args.length sc), undef, undef, tval t (.slice sa t.args.length sc), undef, undef, tval t (.slice sa t.args.length sc), undef, undef, undef], []⟩ X := by
    intro X bX
    subst hops hQ
    refine wpAnyH_ready (rs := [1, 3, 6, 9]) (by kernel_rfl) (by simp) (AllReadyH.cons (o := ⟨_, _, _, _, _, _⟩) rfl (fun K hK => ?_) (AllReadyH.cons (o := ⟨_, _, _, _, _, _⟩) rfl (fun K hK => ?_) (AllReadyH.cons (o := ⟨_, _, _, _, _, _⟩) rfl (fun K hK => ?_) (AllReadyH.cons (o := ⟨_, _, _, _, _, _⟩) rfl (fun K hK => ?_) AllReadyH.nil))))
    · rw [if_pos (by rfl)]
      go_simp
      refine (feature_any t _ [] _ X (HA.out X bX) (rnil X)).mono ?_
      rintro e Y ⟨rfl, qY⟩
      have bY : Below n0 Wd Y := bX.trans (qY.mono (by have := bX.size; have := HN0.out; omega))
      refine hK.out _ _ (HSS.out _ bY) (fun _ => ?_)
      clear hK K
      try simp only [List.setIfInBounds_toArray, List.set_cons_zero, List.set_cons_succ]
      exact at_state (by kernel_rfl) (st1000000 Y bY)
    · rw [if_pos (by rfl)]
      go_simp
      obtain ⟨Y, hY⟩ : ∃ Z, X.alloc (.cells #[.int .i64 0] 3) = Z := ⟨_, rfl⟩
      have qY : Below X.heap.size X Y := by rw [← hY]; exact below_box _ _
      have r3 : RowAt (fun k : Nat => .int .i64 (k : Int)) Y (.slice (some ⟨X.heap.size, 0, none⟩) 1 1) [0] := by rw [← hY]; exact nums_built X [0] (by simp)
      rw [hY]
      have bY : Below n0 Wd Y := bX.trans (qY.mono (by have := bX.size; have := HN0.out; omega))
      refine hK.out _ _ (HSS.out _ bY) (fun _ => ?_)
      clear hK K
      try simp only [List.setIfInBounds_toArray, List.set_cons_zero, List.set_cons_succ]
      exact at_state (by kernel_rfl) (st0100000 Y X.heap.size bY r3)
    · rw [if_pos (by rfl)]
      go_simp
      obtain ⟨Y, hY⟩ : ∃ Z, X.alloc (.cells #[.int .i64 1] 3) = Z := ⟨_, rfl⟩
      have qY : Below X.heap.size X Y := by rw [← hY]; exact below_box _ _
      have r6 : RowAt (fun k : Nat => .int .i64 (k : Int)) Y (.slice (some ⟨X.heap.size, 0, none⟩) 1 1) [1] := by rw [← hY]; exact nums_built X [1] (by simp)
      rw [hY]
      have bY : Below n0 Wd Y := bX.trans (qY.mono (by have := bX.size; have := HN0.out; omega))
      refine hK.out _ _ (HSS.out _ bY) (fun _ => ?_)
      clear hK K
      try simp only [List.setIfInBounds_toArray, List.set_cons_zero, List.set_cons_succ]
      exact at_state (by kernel_rfl) (st0001000 Y X.heap.size bY r6)
    · rw [if_pos (by rfl)]
      go_simp
      obtain ⟨Y, hY⟩ : ∃ Z, X.alloc (.cells #[.int .i64 0, .int .i64 0] 3) = Z := ⟨_, rfl⟩
      have qY : Below X.heap.size X Y := by rw [← hY]; exact below_box _ _
      have r9 : RowAt (fun k : Nat => .int .i64 (k : Int)) Y (.slice (some ⟨X.heap.size, 0, none⟩) 2 2) [0, 0] := by rw [← hY]; exact nums_built X [0, 0] (by simp)
      rw [hY]
      have bY : Below n0 Wd Y := bX.trans (qY.mono (by have := bX.size; have := HN0.out; omega))
      refine hK.out _ _ (HSS.out _ bY) (fun _ => ?_)
      clear hK K
      try simp only [List.setIfInBounds_toArray, List.set_cons_zero, List.set_cons_succ]
      exact at_state (by kernel_rfl) (st0000010 Y X.heap.size bY r9)
  exact at_state (by kernel_rfl) (st0000000 Wd (Below.refl _ _))

end Go.Proofs.Ytiklbkkimmgbcaa
