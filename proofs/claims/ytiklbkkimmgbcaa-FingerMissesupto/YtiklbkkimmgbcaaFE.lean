/-
  Which features fit: known, unifies, matches, fit, Unifies, Matches.
-/
import Derived.Test.YtiklbkkimmgbcaaFD
namespace Go.Proofs.Ytiklbkkimmgbcaa
open Go.RowKit Go.Maps

def knownB (f : Ft) : Bool := decide (1 ≤ f.kind) && decide (f.kind ≤ 4)
theorem fbox_cells (w : World) (f : Ft) (ty : TypeId) : (w.alloc (.cells #[.int .i64 f.kind, .int .i64 f.ar, .string f.fn] ty)).cell? ⟨w.heap.size, 0, none⟩ = some (.int .i64 f.kind) ∧ (w.alloc (.cells #[.int .i64 f.kind, .int .i64 f.ar, .string f.fn] ty)).cell? ⟨w.heap.size, 1, none⟩ = some (.int .i64 f.ar) ∧ (w.alloc (.cells #[.int .i64 f.kind, .int .i64 f.ar, .string f.fn] ty)).cell? ⟨w.heap.size, 2, none⟩ = some (.string f.fn) := by
  have h := (MapKept.heap_alloc w (.cells #[.int .i64 f.kind, .int .i64 f.ar, .string f.fn] ty)).1
  exact ⟨cell_store (vs := fcs f) h rfl, cell_store (vs := fcs f) h rfl, cell_store (vs := fcs f) h rfl⟩

set_option maxHeartbeats 1000000 in
theorem known_any (f : Ft) (w : World) : Calls Try.prog 58 #[fval f] w fun e w' => e = .returned (.bool (knownB f)) ∧ Below w.heap.size w w' := by
  have hb := below_box w (.cells #[.int .i64 f.kind, .int .i64 f.ar, .string f.fn] 63)
  go_enter Try.func58, Try.ntmps58
  go_wp2
  all_goals go_ret
  all_goals refine ⟨ret_bool ?_, hb⟩
  all_goals unfold knownB
  all_goals first | (simp [*]; done) | (simp [*]; omega)
set_option maxHeartbeats 1000000 in
theorem rknown_any (f : Ft) (w : World) : Calls Try.prog 36 #[fval f] w fun e w' => e = .returned (.bool (knownB f)) ∧ Below w.heap.size w w' := by
  have hb := below_box w (.cells #[.int .i64 f.kind, .int .i64 f.ar, .string f.fn] 64)
  go_enter Try.func36, Try.ntmps36
  go_wp2
  all_goals go_ret
  all_goals refine ⟨ret_bool ?_, hb⟩
  all_goals unfold knownB
  all_goals first | (simp [*]; done) | (simp [*]; omega)

open Classical in
noncomputable def fteq (a b : Ft) : Bool := decide (a = b)
theorem fteq_mk (k r k' r' : Int) (s s' : ByteArray) : fteq ⟨k, r, s⟩ ⟨k', r', s'⟩ = ((k == k') && ((r == r') && decide (s = s'))) := by
  unfold fteq
  by_cases h1 : k = k' <;> by_cases h2 : r = r' <;> by_cases h3 : s = s' <;> simp [h1, h2, h3]
/-- A pattern's feature matches. -/
noncomputable def matB (p t : Ft) : Bool := if p.kind = 1 then fteq p t else if p.kind = 2 then decide (t.kind = 1) || decide (t.kind = 2) else if p.kind = 3 then knownB t else if p.kind = 4 then decide (t.kind = 4) else false
/-- Two features unify. -/
noncomputable def uniB (a b : Ft) : Bool := if knownB a = true ∧ knownB b = true then (if a.kind = 3 ∨ b.kind = 3 then true else if a.kind = 2 ∨ b.kind = 2 then decide (a.kind ≠ 4) && decide (b.kind ≠ 4) else if a.kind = 1 then fteq a b else decide (b.kind = 4)) else false

set_option maxRecDepth 100000 in
set_option maxHeartbeats 4000000 in
theorem matches_any (p q : Ft) (w : World) : Calls Try.prog 37 #[fval p, fval q] w fun e w' => e = .returned (.bool (matB p q)) ∧ Below w.heap.size w w' := by
  obtain ⟨k, r, s⟩ := p
  obtain ⟨k', r', s'⟩ := q
  obtain ⟨W1, h1⟩ : ∃ X, w.alloc (.cells #[.int .i64 k, .int .i64 r, .string s] 63) = X := ⟨_, rfl⟩
  obtain ⟨W2, h2⟩ : ∃ X, W1.alloc (.cells #[.int .i64 k', .int .i64 r', .string s'] 63) = X := ⟨_, rfl⟩
  have b1 : Below w.heap.size w W1 := by rw [← h1]; exact below_box _ _
  have b2 : Below W1.heap.size W1 W2 := by rw [← h2]; exact below_box _ _
  have s1 : W1.heap.size = w.heap.size + 1 := by rw [← h1]; simp
  have HB : Hid (Below w.heap.size w W2) := b1.trans (b2.mono b1.size)
  obtain ⟨x0, x1, x2⟩ := fbox_cells w ⟨k, r, s⟩ 63
  obtain ⟨y0, y1, y2⟩ := fbox_cells W1 ⟨k', r', s'⟩ 63
  simp only [h1, h2, s1] at x0 x1 x2 y0 y1 y2
  replace x0 := kc b2 (by omega) x0
  replace x1 := kc b2 (by omega) x1
  replace x2 := kc b2 (by omega) x2
  have hkn := known_any ⟨k', r', s'⟩ W2
  have HM : Hid (matB ⟨k, r, s⟩ ⟨k', r', s'⟩ = if k = 1 then fteq ⟨k, r, s⟩ ⟨k', r', s'⟩ else if k = 2 then decide (k' = 1) || decide (k' = 2) else if k = 3 then knownB ⟨k', r', s'⟩ else if k = 4 then decide (k' = 4) else false) := rfl
  clear b1 b2
  by_cases c1 : k = 1
  · subst c1
    clear hkn
    go_enter Try.func37, Try.ntmps37
    try rw [h1]
    try rw [s1]
    try rw [h2]
    clear HM
    go_wp2
    all_goals go_ret
    all_goals refine ⟨ret_bool ?_, HB.out⟩
    all_goals first | (simp_all [matB, fteq, ba_toList_inj]; done) | skip
  have d1 : (k == 1) = false := by simpa using c1
  by_cases c2 : k = 2
  · subst c2
    clear hkn
    go_enter Try.func37, Try.ntmps37
    try rw [h1]
    try rw [s1]
    try rw [h2]
    go_wp2
    all_goals go_ret
    all_goals refine ⟨ret_bool ?_, HB.out⟩
    all_goals (clear HM; rw [Bool.eq_iff_iff]; simp_all [matB])
  have d2 : (k == 2) = false := by simpa using c2
  by_cases c3 : k = 3
  · subst c3
    go_enter Try.func37, Try.ntmps37
    try rw [h1]
    try rw [s1]
    try rw [h2]
    go_wp2_with fail
    try rw [h1]
    try rw [s1]
    try rw [h2]
    refine hkn.mono ?_
    rintro e W3 ⟨rfl, b3⟩
    go_wp2
    go_ret
    refine ⟨ret_bool ?_, HB.out.trans (b3.mono HB.out.size)⟩
    rw [HM.out]
    simp
  have d3 : (k == 3) = false := by simpa using c3
  clear hkn
  by_cases c4 : k = 4
  · subst c4
    go_enter Try.func37, Try.ntmps37
    try rw [h1]
    try rw [s1]
    try rw [h2]
    go_wp2
    all_goals go_ret
    all_goals refine ⟨ret_bool ?_, HB.out⟩
    all_goals (clear HM; rw [Bool.eq_iff_iff]; simp_all [matB])
  have d4 : (k == 4) = false := by simpa using c4
  go_enter Try.func37, Try.ntmps37
  try rw [h1]
  try rw [s1]
  try rw [h2]
  go_wp2
  go_ret
  refine ⟨ret_bool ?_, HB.out⟩
  rw [HM.out]
  simp [c1, c2, c3, c4]

set_option maxRecDepth 100000 in
set_option maxHeartbeats 8000000 in
theorem unifies_any (p q : Ft) (w : World) : Calls Try.prog 35 #[fval p, fval q] w fun e w' => e = .returned (.bool (uniB p q)) ∧ Below w.heap.size w w' := by
  obtain ⟨k, r, s⟩ := p
  obtain ⟨k', r', s'⟩ := q
  obtain ⟨W1, h1⟩ : ∃ X, w.alloc (.cells #[.int .i64 k, .int .i64 r, .string s] 63) = X := ⟨_, rfl⟩
  obtain ⟨W2, h2⟩ : ∃ X, W1.alloc (.cells #[.int .i64 k', .int .i64 r', .string s'] 63) = X := ⟨_, rfl⟩
  have b1 : Below w.heap.size w W1 := by rw [← h1]; exact below_box _ _
  have b2 : Below W1.heap.size W1 W2 := by rw [← h2]; exact below_box _ _
  have s1 : W1.heap.size = w.heap.size + 1 := by rw [← h1]; simp
  have s2 : W2.heap.size = w.heap.size + 2 := by rw [← h2]; simp [s1]
  have HB : Hid (Below w.heap.size w W2) := b1.trans (b2.mono b1.size)
  obtain ⟨x0, x1, x2⟩ := fbox_cells w ⟨k, r, s⟩ 63
  obtain ⟨y0, y1, y2⟩ := fbox_cells W1 ⟨k', r', s'⟩ 63
  simp only [h1, h2, s1] at x0 x1 x2 y0 y1 y2
  replace x0 := kc b2 (by omega) x0
  replace x1 := kc b2 (by omega) x1
  replace x2 := kc b2 (by omega) x2
  have HC : Hid (∀ Z, Below W2.heap.size W2 Z → (Z.cell? ⟨w.heap.size, 0, none⟩ = some (.int .i64 k) ∧ Z.cell? ⟨w.heap.size, 1, none⟩ = some (.int .i64 r) ∧ Z.cell? ⟨w.heap.size, 2, none⟩ = some (.string s)) ∧ Z.cell? ⟨w.heap.size + 1, 0, none⟩ = some (.int .i64 k') ∧ Z.cell? ⟨w.heap.size + 1, 1, none⟩ = some (.int .i64 r') ∧ Z.cell? ⟨w.heap.size + 1, 2, none⟩ = some (.string s')) := fun Z hZ =>
    ⟨⟨kc hZ (by omega) x0, kc hZ (by omega) x1, kc hZ (by omega) x2⟩, kc hZ (by omega) y0, kc hZ (by omega) y1, kc hZ (by omega) y2⟩
  have hk1 := known_any ⟨k, r, s⟩ W2
  have hk2 : ∀ Z, _ := fun Z => known_any ⟨k', r', s'⟩ Z
  have HU : Hid (uniB ⟨k, r, s⟩ ⟨k', r', s'⟩ = if knownB ⟨k, r, s⟩ = true ∧ knownB ⟨k', r', s'⟩ = true then (if k = 3 ∨ k' = 3 then true else if k = 2 ∨ k' = 2 then decide (k ≠ 4) && decide (k' ≠ 4) else if k = 1 then fteq ⟨k, r, s⟩ ⟨k', r', s'⟩ else decide (k' = 4)) else false) := rfl
  clear b1 b2 s2
  cases e1 : knownB ⟨k, r, s⟩
  · rw [e1] at hk1
    have HV : Hid (uniB ⟨k, r, s⟩ ⟨k', r', s'⟩ = false) := by show _ = _; rw [HU.out, e1]; simp
    clear HU e1 hk2
    go_enter Try.func35, Try.ntmps35
    try rw [h1]
    try rw [s1]
    try rw [h2]
    go_wp2_with fail
    try rw [h1]
    try rw [s1]
    try rw [h2]
    refine hk1.mono ?_
    rintro e W3 ⟨rfl, b3⟩
    go_wp2
    go_ret
    exact ⟨ret_bool HV.out.symm, HB.out.trans (b3.mono HB.out.size)⟩
  rw [e1] at hk1
  have e1k : 1 ≤ k ∧ k ≤ 4 := by simpa [knownB] using e1
  cases e2 : knownB ⟨k', r', s'⟩
  · have hk3 : ∀ Z, Calls Try.prog 58 #[fval ⟨k', r', s'⟩] Z fun e w' => e = .returned (.bool false) ∧ Below Z.heap.size Z w' := fun Z => by have := hk2 Z; rw [e2] at this; exact this
    have HV : Hid (uniB ⟨k, r, s⟩ ⟨k', r', s'⟩ = false) := by show _ = _; rw [HU.out, e2]; simp
    clear HU e1 e2 hk2 e1k
    go_enter Try.func35, Try.ntmps35
    try rw [h1]
    try rw [s1]
    try rw [h2]
    go_wp2_with fail
    try rw [h1]
    try rw [s1]
    try rw [h2]
    refine hk1.mono ?_
    rintro e W3 ⟨rfl, b3⟩
    obtain ⟨⟨u0, u1, u2⟩, v0, v1, v2⟩ := HC.out W3 b3
    go_wp2_with fail
    refine (hk3 W3).mono ?_
    rintro e W4 ⟨rfl, b4⟩
    go_wp2
    go_ret
    have b := HB.out.trans (b3.mono HB.out.size)
    exact ⟨ret_bool HV.out.symm, b.trans (b4.mono b.size)⟩
  have hk3 : ∀ Z, Calls Try.prog 58 #[fval ⟨k', r', s'⟩] Z fun e w' => e = .returned (.bool true) ∧ Below Z.heap.size Z w' := fun Z => by have := hk2 Z; rw [e2] at this; exact this
  have e2k : 1 ≤ k' ∧ k' ≤ 4 := by simpa [knownB] using e2
  have HV : Hid (uniB ⟨k, r, s⟩ ⟨k', r', s'⟩ = (if k = 3 ∨ k' = 3 then true else if k = 2 ∨ k' = 2 then decide (k ≠ 4) && decide (k' ≠ 4) else if k = 1 then fteq ⟨k, r, s⟩ ⟨k', r', s'⟩ else decide (k' = 4))) := by show _ = _; rw [HU.out, if_pos ⟨e1, e2⟩]
  obtain ⟨z, hz⟩ : ∃ z, uniB ⟨k, r, s⟩ ⟨k', r', s'⟩ = z := ⟨_, rfl⟩
  rw [hz] at HV ⊢
  clear HU e1 e2 hk2 hz
  go_enter Try.func35, Try.ntmps35
  try rw [h1]
  try rw [s1]
  try rw [h2]
  go_wp2_with fail
  try rw [h1]
  try rw [s1]
  try rw [h2]
  refine hk1.mono ?_
  rintro e W3 ⟨rfl, b3⟩
  obtain ⟨⟨u0, u1, u2⟩, v0, v1, v2⟩ := HC.out W3 b3
  go_wp2_with fail
  refine (hk3 W3).mono ?_
  rintro e W4 ⟨rfl, b4⟩
  have b24 : Below W2.heap.size W2 W4 := b3.trans (b4.mono b3.size)
  have HB4 : Hid (Below w.heap.size w W4) := HB.out.trans (b24.mono HB.out.size)
  obtain ⟨⟨t0, t1, t2⟩, q0, q1, q2⟩ := HC.out W4 b24
  clear x0 x1 x2 y0 y1 y2 u0 u1 u2 v0 v1 v2 hk1 hk3 b3 b4 b24 HC h1 h2 s1
  have hkk : (k = 1 ∨ k = 2 ∨ k = 3 ∨ k = 4) ∧ (k' = 1 ∨ k' = 2 ∨ k' = 3 ∨ k' = 4) := by omega
  clear e1k e2k
  obtain ⟨rfl | rfl | rfl | rfl, rfl | rfl | rfl | rfl⟩ := hkk
  all_goals go_wp2
  all_goals go_ret
  all_goals refine ⟨ret_bool ?_, HB4.out⟩
  all_goals (rw [HV.out]; simp_all [fteq, ba_toList_inj])

end Go.Proofs.Ytiklbkkimmgbcaa
