import Derived.Test.YtijihmncbaoklaaGreatUF
import Derived.Test.YtijihmncbaoklaaGreatSE
import Derived.Lib.Strings
import Derived.Lib.Walk
import Derived.Lib.BufferWrite
import Derived.Lib.UnsafeStr
import Derived.Laws.MakeOwn
import Derived.Test.YtijihmncbaoklaaGreatPL

/-
  strings.Clone.
-/
namespace Go.Proofs.YtijihmncbaoklaaGreat
open Go.RowKit Go.Maps

theorem ba_empty {s : ByteArray} : s.size = 0 ↔ s = ⟨#[]⟩ := by
  constructor
  · intro h
    cases s with
    | mk d =>
      have : d.size = 0 := h
      rw [Array.size_eq_zero_iff] at this
      rw [this]
  · rintro rfl
    rfl

theorem Tryz.info5 : (Tryz.prog.info? 5).map (fun i => (i.zero, i.size, i.bytes)) = some (some (.int .u8 0), 1, 1) := by kernel_rfl

set_option maxHeartbeats 4000000 in
set_option maxRecDepth 100000 in
/-- internal/stringslite.Clone: the same bytes, in new memory. -/
theorem lclone_any (s : ByteArray) (w : World) (hlim : s.size ≤ 64) : Calls Tryz.prog 81 #[.string s] w fun e w' => e = .returned (.string s) ∧ Below w.heap.size w w' := by
  by_cases h0 : s.size = 0
  · have hs := ba_empty.1 h0
    subst hs
    go_enter Tryz.func81, Tryz.ntmps81
    go_wp2
    go_ret
    exact ⟨rfl, Below.refl _ _⟩
  · obtain ⟨i0, hi, hz0, hz1, hz2⟩ := info_parts Tryz.info5
    have hinfo : (Tryz.prog.info? 5).map (·.size) = some 1 := by rw [hi]; simp [hz1]
    have hco : Tryz.prog.cellsOf 5 = 1 := by simp [Program.cellsOf, hi, hz1]
    obtain ⟨M, hM⟩ : ∃ M, M = madeCells (Value.int .u8 0).cells (((s.size : Nat) : Int).toNat * i0.size) := ⟨_, rfl⟩
    have hMs : M.size = s.size := by rw [hM, size_madeCells, hz1]; simp
    have hmk : ∀ W : World, (Instr.makeSlice 171 (.int .i64 (s.size : Int)) (.int .i64 (s.size : Int))).run Tryz.prog W = .ok (.slice (some ⟨W.heap.size, 0, none⟩) s.size s.size) (W.alloc (.cells M 5)) := fun W => by
      have h := run_make (P := Tryz.prog) W 171 5 i0 (.int .u8 0) Tryz.underlying171 hi hz0 .i64 .i64 (s.size : Int) (s.size : Int) (by omega) (by omega) (by rw [hz2]; omega) (by omega)
      rw [← hM] at h
      simpa using h
    clear hM
    have hcp := Lib.run_copy_row_string (P := Tryz.prog) (w.alloc (.cells M 5)) 171 9 3 5 w.heap.size 0 s.size s.size s M 5 Tryz.underlying171 hinfo (heap_alloc_new w _) (Nat.le_refl _) (by omega)
    obtain ⟨Y, hY⟩ : ∃ Y, Y = (M.toList.take 0 ++ Lib.byteCells s.data.toList ++ M.toList.drop (0 + s.size)).toArray := ⟨_, rfl⟩
    rw [← hY] at hcp
    have hYl : Y.toList = Lib.byteCells s.data.toList := by
      rw [hY, List.toList_toArray, List.take_zero, List.nil_append, List.drop_of_length_le (by rw [Array.length_toList]; omega), List.append_nil]
    have hgY : ((w.alloc (.cells M 5)).setRow w.heap.size Y).heap[w.heap.size]? = some (.cells Y 5 (0, 0)) := setRow_heap _ _ M _ 5 (0, 0) (heap_alloc_new w _)
    have hne : s.data.toList ≠ [] := fun e => h0 (by rw [Lib.size_eq, e]; rfl)
    have hYs : Y.size = s.size := by rw [← Array.length_toList, hYl, Lib.byteCells_length, ← Lib.size_eq]
    have hUS := Lib.run_unsafeString_row (P := Tryz.prog) ((w.alloc (.cells M 5)).setRow w.heap.size Y) 172 3 9 5 Tryz.underlying172 hco w.heap.size Y.size (by unfold World.shape?; rw [hgY]) s.data.toList hne (by rw [← Lib.size_eq]; omega) (by rw [← Lib.size_eq]; omega)
      (fun j x hx => Lib.cells_of_row hgY Y.size j _ (by rw [List.take_of_length_le (by rw [Array.length_toList]; exact Nat.le_refl _), hYl]; simp [Lib.byteCells, hx]))
    rw [← Lib.size_eq] at hUS
    have h0' : ((s.size : Int) == 0) = false := by rw [beq_eq_false_iff_ne]; omega
    clear hY
    go_enter Tryz.func81, Tryz.ntmps81
    go_wp2
    go_ret
    have hb1 : Below w.heap.size w (w.alloc (.cells M 5)) := (Below.refl _ w).alloc (Nat.le_refl _) _
    have hb2 : Below w.heap.size (w.alloc (.cells M 5)) ((w.alloc (.cells M 5)).setRow w.heap.size Y) := ⟨rfl, rfl, rfl, by simp, fun k hk => setRow_other _ _ _ _ (by omega)⟩
    exact ⟨rfl, Lib.below_freeze (hb1.trans hb2) (p := ⟨w.heap.size, 0, none⟩) (Nat.le_refl _) _⟩

set_option maxHeartbeats 400000 in
theorem sclone_any (s : ByteArray) (w : World) (hlim : s.size ≤ 64) : Calls Tryz.prog 52 #[.string s] w fun e w' => e = .returned (.string s) ∧ Below w.heap.size w w' := by
  go_enter Tryz.func52, Tryz.ntmps52
  go_wp2_with (go_at_call 81; refine (lclone_any _ _ hlim).mono ?_; rintro e w' ⟨rfl, hb⟩)
  go_ret
  exact ⟨rfl, hb⟩


end Go.Proofs.YtijihmncbaoklaaGreat

/-
  disc.copied, at every term.
-/
namespace Go.Proofs.YtijihmncbaoklaaGreat
open Go.RowKit Go.Maps

theorem shape_fn {t : T} (h : t.shape = true) : t.fn.size ≤ 64 := by
  rw [t.shape_eq] at h
  split at h
  · omega
  · simp at h; omega

theorem shape_args {t : T} (h : t.shape = true) : ∀ a ∈ t.args, a.shape = true := by
  rw [t.shape_eq] at h
  split at h
  · simp at h
    intro a ha
    rw [h.2] at ha
    cases ha
  · simp at h
    exact h.2

theorem only_set3 (W : World) (g o : Nat) (u v s : Value) : Only [g] W (set3 W g o u v s) :=
  ((Only.of_grown (World.grownBy_setCell_any W g o u) (fun r e => by cases e; simp)).trans (Only.of_grown (B := [g]) (World.grownBy_setCell_any _ g (o + 1) v) (fun r e => by cases e; simp)) (fun r hr => .inl hr)).trans (Only.of_grown (B := [g]) (World.grownBy_setCell_any _ g (o + 2) s) (fun r e => by cases e; simp)) (fun r hr => .inl hr)

/-- What copied does at a term. -/
def CopyAt (t : T) : Prop :=
  ∀ (sl : Value) (w : World), ArgsAt w sl t.args → t.size ≤ 1048576 → t.shape = true →
    Calls Tryz.prog 28 #[tval t sl] w fun e W' => ∃ sl', e = .returned (tval t sl') ∧ ArgsFr w.heap.size W' sl' t.args ∧ Below w.heap.size w W'

/-- What stands in the loop. -/
structure CpI (W1 : World) (t : T) (f : Nat → T) (g i : Nat) (W : World) : Prop where
  row : RowI g t.args.length i f W
  bel : Below g W1 W
  siz : g + 1 ≤ W.heap.size

theorem CpI.al {W1 : World} {t : T} {f : Nat → T} {g i : Nat} {W : World} (h : CpI W1 t f g i W) {W' : World} (hb : Below W.heap.size W W') : CpI W1 t f g i W' :=
  ⟨h.row.keep hb, h.bel.trans (hb.mono (by have := h.siz; omega)), Nat.le_trans h.siz hb.size⟩

set_option maxRecDepth 100000 in
set_option maxHeartbeats 8000000 in
theorem cop_any (t : T) (ih : ∀ a ∈ t.args, CopyAt a) : CopyAt t := by
  intro sl w ha hsz hsh
  obtain ⟨a, c, rfl, hc, hm⟩ := ha.slice
  have hfn := shape_fn hsh
  have hlen : t.args.length ≤ 1048576 ∧ ∀ x ∈ t.args, x.size ≤ 1048576 := by
    have := csum_sizes t.args
    rw [t.size_eq] at hsz
    exact ⟨by omega, fun x hx => by have := this.2 x hx; omega⟩
  obtain ⟨hlen, hall⟩ := hlen
  have HAll : Hid (∀ x ∈ t.args, x.size ≤ 1048576 ∧ x.shape = true) := fun x hx => ⟨hall x hx, shape_args hsh x hx⟩
  obtain ⟨W2, hW2⟩ : ∃ X, (w.alloc (tbox t (.slice a t.args.length c))).alloc (.cells #[.int .i64 0, .string ⟨#[]⟩, .slice none 0 0] 32) = X := ⟨_, rfl⟩
  have b2 : Below w.heap.size w W2 := by rw [← hW2]; exact below_box2 _ _ _
  have s2 : W2.heap.size = w.heap.size + 1 + 1 := by rw [← hW2]; simp
  have t2 : W2.heap[w.heap.size]? = some (.cells #[.int .i64 t.v, .string t.fn, .slice a t.args.length c] 32 (0, 0)) := by
    rw [← hW2, Below.heap_alloc _ _ _ (by simp)]
    exact (MapKept.heap_alloc _ _).1
  have r2 : W2.heap[w.heap.size + 1]? = some (.cells #[.int .i64 0, .string ⟨#[]⟩, .slice none 0 0] 32 (0, 0)) := by
    have := (MapKept.heap_alloc (w.alloc (tbox t (.slice a t.args.length c))) (.cells #[.int .i64 0, .string ⟨#[]⟩, .slice none 0 0] 32)).1
    rw [World.size_alloc] at this
    rw [← hW2]; exact this
  obtain ⟨Wd, hWd⟩ : ∃ X, W2.drew = X := ⟨_, rfl⟩
  have hd : Below W2.heap.size W2 Wd := by rw [← hWd]; exact (Below.refl _ W2).drew
  have HT : Hid (∀ Z, Below W2.heap.size W2 Z → Z.cell? ⟨w.heap.size, 0, none⟩ = some (.int .i64 t.v) ∧ Z.cell? ⟨w.heap.size, 1, none⟩ = some (.string t.fn) ∧ Z.cell? ⟨w.heap.size, 2, none⟩ = some (.slice a t.args.length c)) := fun Z hZ => by
    have e := (hZ.block w.heap.size (by omega)).trans t2
    exact ⟨cell_store (vs := [_, _, _]) e rfl, cell_store (vs := [_, _, _]) e rfl, cell_store (vs := [_, _, _]) e rfl⟩
  have H2 : Hid (Below w.heap.size w W2 ∧ W2.heap[w.heap.size + 1]? = some (.cells #[.int .i64 0, .string ⟨#[]⟩, .slice none 0 0] 32 (0, 0))) := ⟨b2, r2⟩
  have HA := hid ha
  clear t2 r2 b2 ha hsz hall hsh
  go_enter Tryz.func28, Tryz.ntmps28
  go_upto_region 1 with fail
  try rw [hW2]
  go_cut [3] from 6 (fun k wx => ∃ K, k = .pointer (some ⟨K, 0, none⟩) ∧ W2.heap.size ≤ K ∧ wx.heap[K]? = some (.cells #[.int .i64 t.v, .string t.fn, .slice none 0 0] 32 (0, 0)) ∧ Below W2.heap.size W2 wx)
  case first =>
    refine wp_region_held_drew (S := fun Z => Below W2.heap.size W2 Z) (by kernel_rfl) (by rw [hWd]; exact hd) (fun hHeld => ?_)
    rw [hWd] at hHeld ⊢
    refine take_mk 0 (.pointer (some ⟨w.heap.size, 0, none⟩)) rfl (by kernel_rfl) (by kernel_rfl) (by kernel_rfl) (fun _ _ _ h => h) (Or.inl ⟨by rfl, fun Z hZ => by go_simp⟩) (by assumption) ?_
    try simp only [Act.put, List.setIfInBounds_toArray, List.set_cons_zero, List.set_cons_succ]
    refine take_mk 1 (.int .i64 t.v) rfl (by kernel_rfl) (by kernel_rfl) (by kernel_rfl) (fun _ _ _ h => h) (Or.inl ⟨by rfl, fun Z hZ => by obtain ⟨z0, z1, z2⟩ := HT.out Z hZ; go_simp⟩) (by assumption) ?_
    try simp only [Act.put, List.setIfInBounds_toArray, List.set_cons_zero, List.set_cons_succ]
    refine take_mk 2 (.pointer (some ⟨w.heap.size, 1, none⟩)) rfl (by kernel_rfl) (by kernel_rfl) (by kernel_rfl) (fun _ _ _ h => h) (Or.inl ⟨by rfl, fun Z hZ => by go_simp⟩) (by assumption) ?_
    try simp only [Act.put, List.setIfInBounds_toArray, List.set_cons_zero, List.set_cons_succ]
    refine take_mk 3 (.string t.fn) rfl (by kernel_rfl) (by kernel_rfl) (by kernel_rfl) (fun _ _ _ h => h) (Or.inl ⟨by rfl, fun Z hZ => by obtain ⟨z0, z1, z2⟩ := HT.out Z hZ; go_simp⟩) (by assumption) ?_
    try simp only [Act.put, List.setIfInBounds_toArray, List.set_cons_zero, List.set_cons_succ]
    refine wpAnyH_ready (rs := [4, 6]) (by kernel_rfl) (by simp) (AllReadyH.cons (o := ⟨_, _, _, _, _, _⟩) rfl (fun K hK => ?_) (AllReadyH.cons (o := ⟨_, _, _, _, _, _⟩) rfl (fun K hK => ?_) AllReadyH.nil))
    · rw [if_pos (by rfl)]
      go_simp
      refine (sclone_any t.fn Wd hfn).mono ?_
      rintro e W3 ⟨rfl, hb3⟩
      have q3 : Below W2.heap.size W2 W3 := hd.trans (hb3.mono hd.size)
      refine hK.out _ _ q3 (fun _ => ?_)
      clear hK K
      try simp only [Act.put, List.setIfInBounds_toArray, List.set_cons_zero, List.set_cons_succ]
      refine take_mk 5 (.agg #[.int .i64 t.v, .string t.fn, .slice none 0 0]) rfl (by kernel_rfl) (by kernel_rfl) (by kernel_rfl) (fun _ _ _ h => h) (Or.inl ⟨by rfl, fun Z hZ => by go_simp⟩) (by assumption) ?_
      try simp only [Act.put, List.setIfInBounds_toArray, List.set_cons_zero, List.set_cons_succ]
      refine wpAnyH_ready (rs := [6]) (by kernel_rfl) (by simp) (AllReadyH.cons (o := ⟨_, _, _, _, _, _⟩) rfl (fun K hK => ?_) AllReadyH.nil)
      rw [if_pos (by rfl)]
      go_simp
      obtain ⟨W4, hW4⟩ : ∃ X, W3.alloc (.cells #[.int .i64 0, .string ⟨#[]⟩, .slice none 0 0] 32) = X := ⟨_, rfl⟩
      have bW4 : Below W3.heap.size W3 W4 := by rw [← hW4]; exact below_box _ _
      have zW4 : W4.heap[W3.heap.size]? = some (.cells #[.int .i64 0, .string ⟨#[]⟩, .slice none 0 0] 32 (0, 0)) := by rw [← hW4]; exact (MapKept.heap_alloc _ _).1
      have q4 : Below W2.heap.size W2 W4 := q3.trans (bW4.mono q3.size)
      try rw [hW4]
      refine hK.out _ _ q4 (fun _ => ?_)
      clear hK K
      try simp only [Act.put, List.setIfInBounds_toArray, List.set_cons_zero, List.set_cons_succ]
      refine wpAnyH_ready (rs := [7]) (by kernel_rfl) (by simp) (AllReadyH.cons (o := ⟨_, _, _, _, _, _⟩) rfl (fun K hK => ?_) AllReadyH.nil)
      rw [if_pos (by rfl)]
      obtain ⟨⟨k0, k1, k2⟩, y0, y1, y2⟩ := box_facts zW4
      go_simp
      refine hK.out _ _ (set3_below q4 W3.heap.size 0 _ _ _ q3.size) (fun _ => ?_)
      clear hK K
      refine wpAnyH_done (by kernel_rfl) ?_ _
      try simp only [Act.put]
      go_wp2
      go_meet
      exact ⟨W3.heap.size, rfl, q3.size, set_any (cs := [_, _, _]) (i := 2) (set_any (cs := [_, _, _]) (i := 1) (set_any (cs := [_, _, _]) (i := 0) zW4)), set3_below q4 W3.heap.size 0 _ _ _ q3.size⟩
    · rw [if_pos (by rfl)]
      go_simp
      obtain ⟨W4, hW4⟩ : ∃ X, Wd.alloc (.cells #[.int .i64 0, .string ⟨#[]⟩, .slice none 0 0] 32) = X := ⟨_, rfl⟩
      have bW4 : Below Wd.heap.size Wd W4 := by rw [← hW4]; exact below_box _ _
      have zW4 : W4.heap[Wd.heap.size]? = some (.cells #[.int .i64 0, .string ⟨#[]⟩, .slice none 0 0] 32 (0, 0)) := by rw [← hW4]; exact (MapKept.heap_alloc _ _).1
      have q4 : Below W2.heap.size W2 W4 := hd.trans (bW4.mono hd.size)
      try rw [hW4]
      refine hK.out _ _ q4 (fun _ => ?_)
      clear hK K
      try simp only [Act.put, List.setIfInBounds_toArray, List.set_cons_zero, List.set_cons_succ]
      refine wpAnyH_ready (rs := [4]) (by kernel_rfl) (by simp) (AllReadyH.cons (o := ⟨_, _, _, _, _, _⟩) rfl (fun K hK => ?_) AllReadyH.nil)
      rw [if_pos (by rfl)]
      go_simp
      refine (sclone_any t.fn W4 hfn).mono ?_
      rintro e W5 ⟨rfl, hb3⟩
      have q5 : Below W2.heap.size W2 W5 := q4.trans (hb3.mono q4.size)
      refine hK.out _ _ q5 (fun _ => ?_)
      clear hK K
      try simp only [Act.put, List.setIfInBounds_toArray, List.set_cons_zero, List.set_cons_succ]
      refine take_mk 5 (.agg #[.int .i64 t.v, .string t.fn, .slice none 0 0]) rfl (by kernel_rfl) (by kernel_rfl) (by kernel_rfl) (fun _ _ _ h => h) (Or.inl ⟨by rfl, fun Z hZ => by go_simp⟩) (by assumption) ?_
      try simp only [Act.put, List.setIfInBounds_toArray, List.set_cons_zero, List.set_cons_succ]
      have z5 := (hb3.block Wd.heap.size (Array.getElem?_eq_some_iff.1 zW4).1).trans zW4
      refine wpAnyH_ready (rs := [7]) (by kernel_rfl) (by simp) (AllReadyH.cons (o := ⟨_, _, _, _, _, _⟩) rfl (fun K hK => ?_) AllReadyH.nil)
      rw [if_pos (by rfl)]
      obtain ⟨⟨k0, k1, k2⟩, y0, y1, y2⟩ := box_facts z5
      go_simp
      refine hK.out _ _ (set3_below q5 Wd.heap.size 0 _ _ _ hd.size) (fun _ => ?_)
      clear hK K
      refine wpAnyH_done (by kernel_rfl) ?_ _
      try simp only [Act.put]
      go_wp2
      go_meet
      exact ⟨Wd.heap.size, rfl, hd.size, set_any (cs := [_, _, _]) (i := 2) (set_any (cs := [_, _, _]) (i := 1) (set_any (cs := [_, _, _]) (i := 0) z5)), set3_below q5 Wd.heap.size 0 _ _ _ hd.size⟩
  case rest =>
    obtain ⟨K, rfl, hK1, hKb, hbc⟩ := hcut
    obtain ⟨t0, t1, t2⟩ := HT.out wc hbc
    have hKl : K < wc.heap.size := (Array.getElem?_eq_some_iff.1 hKb).1
    clear hd hWd hW2 hfn
    by_cases hn : t.args = []
    · have e0 : t.args.length = 0 := by rw [hn]; rfl
      obtain ⟨⟨k0, k1, k2⟩, _⟩ := box_facts hKb
      obtain ⟨⟨r0, r1, r2⟩, x0, x1, x2⟩ := box_facts ((hbc.block (w.heap.size + 1) (by omega)).trans H2.out.2)
      have HN : Hid (t.args = []) := hn
      have HB : Hid (Below w.heap.size w wc) := H2.out.1.trans (hbc.mono (by omega))
      rw [e0] at t2 ⊢
      clear hn e0 hKb hbc ih HAll HA
      go_wp2
      go_loopw [24] (fun vi wr => vi = .int .i64 0 ∧ wr = wc) (fun _ _ => 0)
      case atStart => exact ⟨rfl, rfl⟩
      case round =>
        obtain ⟨rfl, rfl⟩ := hrel
        go_wp2
        refine bodyPost_ret (v := tval t (.slice none 0 0)) (by simp [results, Tryz.results28, go_sem, *, T.v, T.fn]) rfl ⟨_, rfl, by rw [HN.out]; exact ArgsFr.nil _ _, ?_⟩
        exact set3_below HB.out _ 0 _ _ _ (Nat.le_succ _)
    · have hpos : 0 < t.args.length := List.length_pos_iff.2 hn
      obtain ⟨i0, hi, hz0, hz1, hz2⟩ := info_parts Tryz.info32
      obtain ⟨arr, harr⟩ : ∃ arr, madeCells (Value.agg #[.int .i64 0, .string ⟨#[]⟩, .slice none 0 0]).cells (t.args.length * 3) = arr := ⟨_, rfl⟩
      have hs : arr.size = t.args.length * 3 := by rw [← harr]; simp [madeCells]
      have hmk : ∀ W : World, (Instr.makeSlice 23 (.int .i64 t.args.length) (.int .i64 t.args.length)).run Tryz.prog W = .ok (.slice (some ⟨W.heap.size, 0, none⟩) t.args.length t.args.length) (W.alloc (.cells arr 32)) := by
        intro W
        have := run_make (P := Tryz.prog) W 23 32 i0 _ Tryz.underlying23 hi hz0 .i64 .i64 t.args.length t.args.length (by omega) (Int.le_refl _) (by rw [hz2]; omega) (by omega)
        rw [hz1] at this
        simp only [Int.toNat_natCast, harr] at this
        exact this
      obtain ⟨g, hg⟩ : ∃ g, wc.heap.size = g := ⟨_, rfl⟩
      obtain ⟨Wa, hWa⟩ : ∃ X, wc.alloc (.cells arr 32) = X := ⟨_, rfl⟩
      have ba : Below wc.heap.size wc Wa := by rw [← hWa]; exact below_box _ _
      have sa : Wa.heap.size = g + 1 := by rw [← hWa, ← hg]; simp
      have ga : Wa.heap[g]? = some (.cells arr 32 (0, 0)) := by rw [← hWa, ← hg]; exact (MapKept.heap_alloc _ _).1
      have hKa := (ba.block K hKl).trans hKb
      obtain ⟨⟨k0, k1, k2⟩, y0, y1, y2⟩ := box_facts hKa
      obtain ⟨W1, hW1⟩ : ∃ X, Wa.setCell ⟨K, 2, none⟩ (.slice (some ⟨g, 0, none⟩) t.args.length t.args.length) = X := ⟨_, rfl⟩
      have o1 : Only [K] Wa W1 := by rw [← hW1]; exact Only.of_grown (World.grownBy_setCell_any Wa K 2 _) (fun r e => by cases e; simp)
      have hK1b : W1.heap[K]? = some (.cells #[.int .i64 t.v, .string t.fn, .slice (some ⟨g, 0, none⟩) t.args.length t.args.length] 32 (0, 0)) := by
        rw [← hW1]
        exact set_any (cs := [_, _, _]) (i := 2) hKa
      have s1 : W1.heap.size = g + 1 := by rw [← hW1]; simp [sa]
      have g1 : W1.heap[g]? = some (.cells arr 32 (0, 0)) := (o1.block g (by omega) (by simp; omega)).trans ga
      have b21 : Below W2.heap.size W2 W1 := (hbc.trans (ba.mono hbc.size)).trans (o1.below (by omega) (fun r hr => by rw [List.mem_singleton.1 hr]; exact hK1))
      obtain ⟨_, _, ta2⟩ := HT.out Wa (hbc.trans (ba.mono hbc.size))
      obtain ⟨_, _, tb2⟩ := HT.out W1 b21
      have hgt : 0 < t.args.length := hpos
      have HL : Hid (0 < t.args.length) := hpos
      obtain ⟨f, hf⟩ : ∃ f : Nat → T, ∀ j (hj : j < t.args.length), t.args[j] = f j := ⟨fun j => ((t.args[j]?)).getD t, fun j hj => by simp [hj]⟩
      have HF : Hid (∀ j (hj : j < t.args.length), t.args[j] = f j) := hf
      have HI0 : Hid (CpI W1 t f g 0 W1) := ⟨⟨⟨arr, g1, hs⟩, fun j hj => absurd hj (by omega)⟩, Below.refl _ _, by omega⟩
      have HZ : Hid (W1.heap[w.heap.size + 1]? = some (.cells #[.int .i64 0, .string ⟨#[]⟩, .slice none 0 0] 32 (0, 0)) ∧ Below w.heap.size w W1 ∧ W1.heap[K]? = some (.cells #[.int .i64 t.v, .string t.fn, .slice (some ⟨g, 0, none⟩) t.args.length t.args.length] 32 (0, 0)) ∧ K < g ∧ w.heap.size + 1 + 1 ≤ K) := ⟨(b21.block _ (by omega)).trans H2.out.2, H2.out.1.trans (b21.mono (by omega)), hK1b, by omega, by omega⟩
      clear hn hpos hi hz0 hz1 hz2 harr hs ba ga hKa o1 hK1b g1 b21 hf hKb hbc H2 HT hK1 hKl t0 t1 k0 k1 y0 y1
      go_wp2
      go_loopw [24] (fun vi wr => ∃ i : Nat, vi = .int .i64 i ∧ i ≤ t.args.length ∧ CpI W1 t f g i wr) (fun vi _ => t.args.length - (intOf vi).toNat)
      case atStart => exact ⟨0, rfl, Nat.zero_le _, HI0.out⟩
      case round =>
        obtain ⟨i, rfl, hi, hI⟩ := hrel
        clear hmk k2 y2 ta2 tb2 hWa hW1 hg t2 sa s1
        have hbw : Below w.heap.size w wr := HZ.out.2.1.trans (hI.bel.mono (by have := HZ.out; omega))
        by_cases hlt : i < t.args.length
        · obtain ⟨bx, oa, s, e', hba, a0, a1, a2, hs⟩ := (ArgsAt.keep hbw (Nat.le_refl _) HA.out).nth hlt
          cases e'
          obtain ⟨x, hx⟩ : ∃ x, t.args[i] = x := ⟨_, rfl⟩
          have HX : Hid (x = f i) := by rw [← hx]; exact HF.out i hlt
          obtain ⟨hxs, hxh⟩ := HAll.out _ (List.getElem_mem hlt)
          have ihx := ih t.args[i] (List.getElem_mem hlt)
          rw [hx] at a0 a1 hs ihx hxs hxh
          obtain ⟨sa, sc, rfl, _, _⟩ := hs.slice
          obtain ⟨Wb, hWb⟩ : ∃ X, wr.alloc (tbox x (.slice sa x.args.length sc)) = X := ⟨_, rfl⟩
          have bb : Below wr.heap.size wr Wb := by rw [← hWb]; exact below_box _ _
          have xb : Wb.heap[wr.heap.size]? = some (.cells #[.int .i64 x.v, .string x.fn, .slice sa x.args.length sc] 32 (0, 0)) := by rw [← hWb]; exact (MapKept.heap_alloc _ _).1
          obtain ⟨We, hWe⟩ : ∃ X, Wb.drew = X := ⟨_, rfl⟩
          have he : Below Wb.heap.size Wb We := by rw [← hWe]; exact (Below.refl _ Wb).drew
          have bre : Below wr.heap.size wr We := bb.trans (he.mono bb.size)
          have xe := (he.block _ (Array.getElem?_eq_some_iff.1 xb).1).trans xb
          have HI1 : Hid (CpI W1 t f g i We) := hI.al bre
          have ke : We.heap[K]? = _ := (HI1.out.bel.block K HZ.out.2.2.2.1).trans HZ.out.2.2.1
          have hcall := ihx (.slice sa x.args.length sc) We (ArgsAt.keep bre (Nat.le_refl _) hs) hxs hxh
          have HR : Hid (∀ Z, Only [g] We Z → Z.cell? ⟨K, 2, none⟩ = some (.slice (some ⟨g, 0, none⟩) t.args.length t.args.length) ∧ Z.cell? ⟨wr.heap.size, 0, none⟩ = some (.int .i64 x.v) ∧ Z.cell? ⟨wr.heap.size, 1, none⟩ = some (.string x.fn) ∧ Z.cell? ⟨wr.heap.size, 2, none⟩ = some (.slice sa x.args.length sc)) := fun Z hZ => by
            have e1 := (hZ.block _ (Array.getElem?_eq_some_iff.1 ke).1 (by have := HZ.out.2.2.2.1; simp; omega)).trans ke
            have e2 := (hZ.block _ (Array.getElem?_eq_some_iff.1 xe).1 (by have := hI.siz; simp; omega)).trans xe
            exact ⟨cell_store (vs := [_, _, _]) e1 rfl, cell_store (vs := [_, _, _]) e2 rfl, cell_store (vs := [_, _, _]) e2 rfl, cell_store (vs := [_, _, _]) e2 rfl⟩
          clear hx hxs hxh ihx hs hI ih bb xb he bre xe ke
          go_upto_region 7 with fail
          refine wp_region_held_drew (S := fun Z => Only [g] We Z) (by kernel_rfl) (by rw [hWe]; exact Only.refl _ _) (fun hHeld => ?_)
          rw [hWe] at hHeld ⊢
          refine take_mk 0 (.pointer (some ⟨K, 2, none⟩)) rfl (by kernel_rfl) (by kernel_rfl) (by kernel_rfl) (fun _ _ _ h => h) (Or.inl ⟨by rfl, fun Z hZ => by go_simp⟩) (by assumption) ?_
          try simp only [Act.put, List.setIfInBounds_toArray, List.set_cons_zero, List.set_cons_succ]
          refine take_mk 1 (.slice (some ⟨g, 0, none⟩) t.args.length t.args.length) rfl (by kernel_rfl) (by kernel_rfl) (by kernel_rfl) (fun _ _ _ h => h) (Or.inl ⟨by rfl, fun Z hZ => by obtain ⟨z0, z1, z2, z3⟩ := HR.out Z hZ; go_simp⟩) (by assumption) ?_
          try simp only [Act.put, List.setIfInBounds_toArray, List.set_cons_zero, List.set_cons_succ]
          refine take_mk 2 (.int .i64 i) rfl (by kernel_rfl) (by kernel_rfl) (by kernel_rfl) (fun _ _ _ h => h) (Or.inl ⟨by rfl, fun Z hZ => by go_simp⟩) (by assumption) ?_
          try simp only [Act.put, List.setIfInBounds_toArray, List.set_cons_zero, List.set_cons_succ]
          refine take_mk 3 (tval x (.slice sa x.args.length sc)) rfl (by kernel_rfl) (by kernel_rfl) (by kernel_rfl) (fun _ _ _ h => h) (Or.inl ⟨by rfl, fun Z hZ => by obtain ⟨z0, z1, z2, z3⟩ := HR.out Z hZ; go_simp⟩) (by assumption) ?_
          try simp only [Act.put, List.setIfInBounds_toArray, List.set_cons_zero, List.set_cons_succ]
          refine wpAnyH_ready (rs := [4]) (by kernel_rfl) (by simp) (AllReadyH.cons (o := ⟨_, _, _, _, _, _⟩) rfl (fun K hK => ?_) AllReadyH.nil)
          rw [if_pos (by rfl)]
          go_simp
          refine hcall.mono ?_
          rintro e w3 ⟨sl, rfl, hfr, hb3⟩
          obtain ⟨pa, pc, rfl⟩ := hfr.slice
          have hI3 := HI1.out.al hb3
          obtain ⟨_, ⟨u0, u1, u2, c0, c1, c2⟩, y0, y1, y2⟩ := hI3.row.facts hlt
          have H3 : Hid (CpI W1 t f g i w3 ∧ ArgsFr (g + 1) w3 (.slice pa x.args.length pc) x.args) := ⟨hI3, hfr.low (by have := HI1.out.siz; omega)⟩
          refine hK.out _ _ (Only.of_below hb3) (fun _ => ?_)
          have H3b := hb3
          clear hK K hfr hb3 hI3
          try simp only [Act.put, List.setIfInBounds_toArray, List.set_cons_zero, List.set_cons_succ]
          refine take_mk 5 (.pointer (some ⟨g, i * 3, none⟩)) rfl (by kernel_rfl) (by kernel_rfl) (by kernel_rfl) (fun _ _ _ h => h) (Or.inl ⟨by rfl, fun Z hZ => by go_simp⟩) (by assumption) ?_
          try simp only [Act.put, List.setIfInBounds_toArray, List.set_cons_zero, List.set_cons_succ]
          refine wpAnyH_ready (rs := [6]) (by kernel_rfl) (by simp) (AllReadyH.cons (o := ⟨_, _, _, _, _, _⟩) rfl (fun K hK => ?_) AllReadyH.nil)
          rw [if_pos (by rfl)]
          go_simp
          refine hK.out _ _ ((Only.of_below (B := [g]) H3b).trans (only_set3 w3 g (i * 3) _ _ _) (fun r hr => .inl hr)) (fun _ => ?_)
          clear hK K
          refine wpAnyH_done (by kernel_rfl) ?_ _
          try simp only [Act.put]
          go_wp2
          go_roundw
          case rel =>
            refine ⟨i + 1, by go_num, by omega, ?_, set3_below H3.out.1.bel _ _ _ _ _ (Nat.le_refl _), by have := H3.out.1.siz; simp; omega⟩
            have h3 := H3.out.1.row.step hlt (.slice pa x.args.length pc) (by rw [← HX.out]; exact H3.out.2)
            rw [← HX.out] at h3
            exact h3
          case measure => simp [intOf]; omega
        · obtain ⟨⟨r0, r1, r2⟩, x0, x1, x2⟩ := box_facts ((hI.bel.block (w.heap.size + 1) (by have := HZ.out; omega)).trans HZ.out.1)
          obtain ⟨⟨k0, k1, k2⟩, _⟩ := box_facts ((hI.bel.block K HZ.out.2.2.2.1).trans HZ.out.2.2.1)
          have HI : Hid (CpI W1 t f g t.args.length wr ∧ Below w.heap.size w wr) := ⟨by rw [show t.args.length = i by omega]; exact hI, hbw⟩
          clear hI hbw ih
          go_wp2
          refine bodyPost_ret (v := tval t (.slice (some ⟨g, 0, none⟩) t.args.length t.args.length)) (by simp [results, Tryz.results28, go_sem, *, T.v, T.fn]) rfl ⟨_, rfl, ?_, ?_⟩
          · have := HI.out.1.row.fr (l := t.args) rfl (fun i hi => HF.out i hi) (by omega)
            have hz := HZ.out
            exact (this.keep (W' := set3 wr (w.heap.size + 1) 0 _ _ _) (by simp) (fun k hk _ => set3_other _ _ _ _ _ _ k (by omega))).low (by omega)
          · exact set3_below HI.out.2 _ 0 _ _ _ (Nat.le_succ _)

theorem dcopied_any (t : T) : CopyAt t := by
  induction t using T.ind with
  | _ t ih => exact cop_any t ih

end Go.Proofs.YtijihmncbaoklaaGreat
