/-
  The document's Match: where it says yes the features match.
-/
import Derived.Test.YtiklbkkimmgbcaaHR
namespace Go.Proofs.Ytiklbkkimmgbcaa
open Go.RowKit

def MchP (p t : T) (W : World) (e : Ending) (W' : World) : Prop := ∃ (v' : Value) (z : Bool), e = .returned (.tuple #[v', .bool z, .int .i64 0]) ∧ Below W.heap.size W W' ∧ (z = true → fitB matB (feats p) (feats t) = true)

theorem right_shape {t : T} (h : t.rightW = 0) : t.shape = true := by
  unfold T.rightW at h
  cases hs : t.shape
  · rw [hs] at h; simp at h
  · rfl

set_option maxRecDepth 100000 in
set_option maxHeartbeats 8000000 in
theorem mch_any (p t : T) (sp st : Value) (W : World) (hp : ArgsAt W sp p.args) (ht : ArgsAt W st t.args) (hrp : p.rightW = 0) (hrt : t.rightW = 0) (hsz : p.size ≤ 1048576) :
    Calls Try.prog 31 #[tval p sp, tval t st] W (MchP p t W) := by
  obtain ⟨pa, pc, rfl, _, _⟩ := hp.slice
  obtain ⟨ta, tc, rfl, _, _⟩ := ht.slice
  obtain ⟨W2, h2⟩ : ∃ X, (W.alloc (.cells #[.int .i64 p.v, .string p.fn, .slice pa p.args.length pc] 24)).alloc (.cells #[.int .i64 t.v, .string t.fn, .slice ta t.args.length tc] 24) = X := ⟨_, rfl⟩
  have b2 : Below W.heap.size W W2 := by rw [← h2]; exact below_box2 W _ _
  have q0 : W2.heap[W.heap.size]? = some (.cells #[.int .i64 p.v, .string p.fn, .slice pa p.args.length pc] 24 (0, 0)) := by
    rw [← h2, (below_box (W.alloc (.cells #[.int .i64 p.v, .string p.fn, .slice pa p.args.length pc] 24)) _).block _ (by simp)]
    exact (MapKept.heap_alloc _ _).1
  have q1 : W2.heap[W.heap.size + 1]? = some (.cells #[.int .i64 t.v, .string t.fn, .slice ta t.args.length tc] 24 (0, 0)) := by
    rw [← h2]
    have := (MapKept.heap_alloc (W.alloc (.cells #[.int .i64 p.v, .string p.fn, .slice pa p.args.length pc] 24)) (.cells #[.int .i64 t.v, .string t.fn, .slice ta t.args.length tc] 24)).1
    simpa using this
  have HX : Hid (∀ Z, Below W2.heap.size W2 Z → Z.heap[W.heap.size]? = some (.cells #[.int .i64 p.v, .string p.fn, .slice pa p.args.length pc] 24 (0, 0)) ∧ Z.heap[W.heap.size + 1]? = some (.cells #[.int .i64 t.v, .string t.fn, .slice ta t.args.length tc] 24 (0, 0)) ∧ ArgsAt Z (.slice ta t.args.length tc) t.args ∧ ArgsAt Z (.slice pa p.args.length pc) p.args ∧ Below W.heap.size W Z) := fun Z hZ => by
    have hb := b2.trans (hZ.mono b2.size)
    exact ⟨(hZ.block _ (Array.getElem?_eq_some_iff.1 q0).1).trans q0, (hZ.block _ (Array.getElem?_eq_some_iff.1 q1).1).trans q1, ArgsAt.keep hb (Nat.le_refl _) ht, ArgsAt.keep hb (Nat.le_refl _) hp, hb⟩
  have HE2 : Hid ((W.alloc (.cells #[.int .i64 p.v, .string p.fn, .slice pa p.args.length pc] 24)).alloc (.cells #[.int .i64 t.v, .string t.fn, .slice ta t.args.length tc] 24) = W2) := h2
  have HSh : Hid (p.shape = true) := right_shape hrp
  have HSz : Hid (p.size ≤ 1048576) := hsz
  have hc1 := rright_any p (.slice pa p.args.length pc) W2 (HX.out W2 (Below.refl _ _)).2.2.2.1
  rw [hrp] at hc1
  have HR2 : Hid (∀ Z, Below W2.heap.size W2 Z → Calls Try.prog 28 #[tval t (.slice ta t.args.length tc)] Z fun e w' => e = .returned (.int .i64 0) ∧ Below Z.heap.size Z w') := fun Z hZ => by
    have := rright_any t (.slice ta t.args.length tc) Z (HX.out Z hZ).2.2.1
    rw [hrt] at this
    exact this
  clear hp ht hrp hrt hsz h2 b2 q0 q1
  go_enter Try.func31, Try.ntmps31
  go_wp2_with fail
  rw [HE2.out]
  clear HE2
  refine hc1.mono ?_
  rintro e W3 ⟨rfl, b3⟩
  obtain ⟨p0, p1, _, _, _⟩ := HX.out W3 b3
  have x0 := cell_at p0 (o := 0) rfl
  have x1 := cell_at p0 (o := 1) rfl
  have x2 := cell_at p0 (o := 2) rfl
  have y0 := cell_at p1 (o := 0) rfl
  have y1 := cell_at p1 (o := 1) rfl
  have y2 := cell_at p1 (o := 2) rfl
  have hc2 := HR2.out W3 b3
  clear hc1 p0 p1
  go_wp2_with fail
  refine hc2.mono ?_
  rintro e W4 ⟨rfl, b4⟩
  have B4 : Below W2.heap.size W2 W4 := b3.trans (b4.mono b3.size)
  obtain ⟨p0, p1, htz, hpz, _⟩ := HX.out W4 B4
  have hc3 := match_any p t [] (.slice none 0 0) _ _ W4 HSh.out ⟨none, 0, rfl, Nat.le_refl _, by omega, fun h => absurd h (by simp)⟩ hpz htz (by have := HSz.out; simpa using this)
  clear x0 x1 x2 y0 y1 y2
  have x0 := cell_at p0 (o := 0) rfl
  have x1 := cell_at p0 (o := 1) rfl
  have x2 := cell_at p0 (o := 2) rfl
  have y0 := cell_at p1 (o := 0) rfl
  have y1 := cell_at p1 (o := 1) rfl
  have y2 := cell_at p1 (o := 2) rfl
  have HB4 : Hid (Below W2.heap.size W2 W4) := B4
  clear hc2 p0 p1 htz hpz b3 b4 B4
  go_wp2_with fail
  refine hc3.mono ?_
  rintro e W5 ⟨v5, z, rfl, b5, hz⟩
  have B5 : Below W2.heap.size W2 W5 := HB4.out.trans (b5.mono HB4.out.size)
  have HB5 : Hid (Below W.heap.size W W5) := (HX.out W5 B5).2.2.2.2
  clear hc3 b5 B5 HX HR2 x0 x1 x2 y0 y1 y2
  cases z
  · clear hz
    go_wp2
    refine bodyPost_ret (v := .tuple #[.slice none 0 0, .bool false, .int .i64 0]) (by simp [results, Try.results31, go_sem]) rfl ?_
    exact ⟨_, false, rfl, HB5.out, fun h => by cases h⟩
  · obtain ⟨hm, l5, hb5, hl5⟩ := hz rfl
    have HM : Hid (fitB matB (feats p) (feats t) = true) := mt_fits hm
    have hc4 := own_any' l5 v5 W5 hb5 (by have := HSz.out; simp at hl5; omega)
    obtain ⟨sa5, sc5, rfl⟩ := hb5.slice
    clear hm hb5 hl5 hz
    go_wp2_with fail
    refine hc4.mono ?_
    rintro e W6 ⟨v6, rfl, b6⟩
    have HB6 : Hid (Below W.heap.size W W6) := HB5.out.trans (b6.mono HB5.out.size)
    clear hc4 b6
    go_wp2
    refine bodyPost_ret (v := .tuple #[v6, .bool true, .int .i64 0]) (by simp [results, Try.results31, go_sem]) rfl ?_
    exact ⟨_, true, rfl, HB6.out, fun _ => HM.out⟩

end Go.Proofs.Ytiklbkkimmgbcaa
