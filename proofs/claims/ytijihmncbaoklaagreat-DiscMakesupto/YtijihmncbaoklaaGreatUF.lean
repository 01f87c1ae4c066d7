import Derived.Test.YtijihmncbaoklaaGreatUC
import Derived.Deep.Cut

/-
  reach, where the child has to be made.
-/
namespace Go.Proofs.YtijihmncbaoklaaGreat
open Go.RowKit Go.Maps

theorem hid {p : Prop} (h : p) : Hid p := h
theorem World.grownBy_setCell_any (W : World) (b i : Nat) (v : Value) : W.grownBy (W.setCell ⟨b, i, none⟩ v) (some b) := by
  exact ⟨rfl, rfl, rfl, by simp, fun k _ hk => Below.heap_setCell _ _ _ k (fun e => hk (by rw [e]))⟩
theorem map_some56 (b : Nat) (w : World) : (binOp .eql 76 (.map (some b)) (.map none)).run Tryz.prog w = .ok (.bool false) w := by kernel_rfl
theorem map_none56 (w : World) : (binOp .eql 76 (.map none) (.map none)).run Tryz.prog w = .ok (.bool true) w := by kernel_rfl

section
variable {W : World} {P : List Path} {num : Path → List Int} {y : Lay} {B : List Nat}

set_option maxRecDepth 100000 in
set_option maxHeartbeats 4000000 in
theorem reach_new1 (h : Trie W P num y B) (hB : ∀ r ∈ B, r < W.heap.size) {p : Path} (hp : p ∈ P) {s : Sym} (hs : p ++ [s] ∉ P) (hnum : num (p ++ [s]) = []) (hok : Sym.ok s) (hl : P.length ≤ 1000000) {b : Nat} (hb : y.ca p = some b) :
    Calls Tryz.prog 54 #[.pointer (some ⟨y.na p, 0, none⟩), symv s] W fun e W' => ∃ b N, e = .returned (.tuple #[.pointer (some ⟨N, 0, none⟩), .bool true]) ∧ Trie W' (P ++ [p ++ [s]]) num (y.grow p s b N) (N :: b :: B) ∧ Only B W W' ∧ W.heap.size ≤ N ∧ (b ∈ B ∨ W.heap.size ≤ b) ∧ N < W'.heap.size ∧ b < W'.heap.size := by
  obtain ⟨kl, hkl⟩ := sym_key hok
  have hcl := h.cells p hp
  rw [hb] at hcl
  obtain ⟨W1, h1⟩ : ∃ X, W.alloc (.cells #[.string s.1, .int .i64 (s.2 : Nat)] 75) = X := ⟨_, rfl⟩
  have b1 : Below W.heap.size W W1 := by rw [← h1]; exact below_box _ _
  have s1 : W1.heap.size = W.heap.size + 1 := by rw [← h1]; simp
  have z1 : W1.heap[W.heap.size]? = some (.cells [Value.string s.1, .int .i64 (s.2 : Nat)].toArray 75 (0, 0)) := by rw [← h1]; exact (MapKept.heap_alloc _ _).1
  have hlt : y.na p < W.heap.size := (h.lt hp).1
  have hM := h.kid p hp
  rw [hb] at hM
  have hM : MapIs W 75 b (kidM P y.na p) (kidN P p) := hM
  have HM := hid hM
  have hlk : ∀ pf, (Instr.lookup 76 (.map (some b)) (symv s) false).run Tryz.prog (far W1 pf) = .ok (.pointer none) (far W1 pf) := fun pf => ((((hM.same (b1.block b hM.lt)).same ((below_far W1 pf).block b (by have := hM.lt; omega))).look keyed55 Tryz.underlying76 (zero42 _) hkl).2 (kidM_none hs)).2
  have c3 : W1.cell? ⟨y.na p, 3, none⟩ = some (.map (some b)) := kc b1 hlt (cell_store (vs := [_, _, _, _, _]) hcl rfl)
  clear hM
  have F0 := cell_far (by omega) c3
  have F1 := cell_far (w := W1) (b := W.heap.size) (by omega) (cell_store z1 (i := 0) rfl)
  have F2 := cell_far (w := W1) (b := W.heap.size) (by omega) (cell_store z1 (i := 1) rfl)
  have H1 : Hid (Below W.heap.size W W1 ∧ W1.heap[W.heap.size]? = some (.cells [Value.string s.1, .int .i64 (s.2 : Nat)].toArray 75 (0, 0))) := ⟨b1, z1⟩
  have HT : Hid (Trie W P num y B ∧ (∀ r ∈ B, r < W.heap.size) ∧ p ∈ P ∧ p ++ [s] ∉ P ∧ num (p ++ [s]) = [] ∧ Sym.ok s ∧ P.length ≤ 1000000) := ⟨h, hB, hp, hs, hnum, hok, hl⟩
  have HC := hid hcl
  clear h hB hnum hl hcl c3 z1 b1
  go_enter Tryz.func54, Tryz.ntmps54
  try rw [h1]
  go_wp2
  try rw [h1]
  refine wp_region_far (by kernel_rfl) ?_
  repeat (first | go_big_quiet_step (fail) | quiet_step (fail))
  refine wpQuiet_nil ?_
  intro _ hw'
  obtain ⟨pf, rfl⟩ := hw'
  obtain ⟨W2, hW2⟩ : ∃ X, far W1 pf = X := ⟨_, rfl⟩
  have b12 : Below W1.heap.size W1 W2 := by rw [← hW2]; exact below_far W1 pf
  rw [hW2]
  have b02 : Below W.heap.size W W2 := H1.out.1.trans (b12.mono H1.out.1.size)
  have z2 : W2.heap[W.heap.size]? = some (.cells [Value.string s.1, .int .i64 (s.2 : Nat)].toArray 75 (0, 0)) := (b12.block _ (by omega)).trans H1.out.2
  have hs2 : W.heap.size + 1 ≤ W2.heap.size := by have := b12.size; omega
  clear hlk F0 F1 F2 hW2
  have c3 : W2.cell? ⟨y.na p, 3, none⟩ = some (.map (some b)) := kc b02 hlt (cell_store (vs := [_, _, _, _, _]) HC.out rfl)
  have c0 : W2.cell? ⟨W.heap.size, 0, none⟩ = some (.string s.1) := cell_store z2 rfl
  have c1 : W2.cell? ⟨W.heap.size, 1, none⟩ = some (.int .i64 (s.2 : Nat)) := cell_store z2 rfl
  obtain ⟨N, hN⟩ : ∃ n, W2.heap.size = n := ⟨_, rfl⟩
  obtain ⟨W5, h5⟩ : ∃ X, W2.alloc (.cells #[.string s.1, .int .i64 (s.2 : Nat), .pointer (some ⟨y.na p, 0, none⟩), .map none, .map none] 79) = X := ⟨_, rfl⟩
  have b5 : Below W2.heap.size W2 W5 := by rw [← h5]; exact below_box _ _
  have n5 : W5.heap[N]? = some (.cells #[.string s.1, .int .i64 (s.2 : Nat), .pointer (some ⟨y.na p, 0, none⟩), .map none, .map none] 79 (0, 0)) := by rw [← hN, ← h5]; exact (MapKept.heap_alloc _ _).1
  obtain ⟨Wd, hWd⟩ : ∃ X, W5.drew = X := ⟨_, rfl⟩
  have hd : Below W5.heap.size W5 Wd := by rw [← hWd]; exact (Below.refl _ W5).drew
  have b2d : Below W2.heap.size W2 Wd := b5.trans (hd.mono b5.size)
  have b0d : Below W.heap.size W Wd := b02.trans (b2d.mono b02.size)
  have hO : Only [y.na p] W Wd := Only.of_below b0d
  have hn := (b0d.block _ hlt).trans HC.out
  have hm := HM.out.same (b0d.block b HM.out.lt)
  have hNd := (hd.block N (Array.getElem?_eq_some_iff.1 n5).1).trans n5
  have zd := (b2d.block W.heap.size (by omega)).trans z2
  have hNl : W.heap.size ≤ N := by omega
  have hbb : y.ca p = some b ∨ W.heap.size ≤ b := .inl hb
  have HR : Hid (∀ Z, Only [b] Wd Z → Z.cell? ⟨y.na p, 3, none⟩ = some (.map (some b)) ∧ Z.cell? ⟨W.heap.size, 0, none⟩ = some (.string s.1) ∧ Z.cell? ⟨W.heap.size, 1, none⟩ = some (.int .i64 (s.2 : Nat))) := fun Z hZ => by
    have e1 := (hZ.block _ (Array.getElem?_eq_some_iff.1 hn).1 (by simpa using cells_ne_map hn hm)).trans hn
    have e2 := (hZ.block _ (Array.getElem?_eq_some_iff.1 zd).1 (by simpa using cells_ne_map zd hm)).trans zd
    exact ⟨cell_store (vs := [_, _, _, _, _]) e1 rfl, cell_store e2 rfl, cell_store e2 rfl⟩
  obtain ⟨W6, hrun, hon, hF⟩ := reach_fin HT.out.1 HT.out.2.1 HT.out.2.2.1 HT.out.2.2.2.1 HT.out.2.2.2.2.1 HT.out.2.2.2.2.2.1 HT.out.2.2.2.2.2.2 hO hn hm hNd hNl hbb
  have HF := hid hF
  have HOn := hid hon
  clear hF hon hO hn hm hNd zd hNl hbb b0d b2d hd n5 b5 z2 b02 hs2 HC HM HT H1 b12 hb hkl
  have hme := map_some56 b W2
  go_upto_region 7 with fail
  try rw [h5]
  try rw [hN]
  clear c0 c1 c3 hme
  refine wp_region_held_drew (S := fun Z => Only [b] Wd Z) (by kernel_rfl) (by rw [hWd]; exact Only.refl _ _) (fun hHeld => ?_)
  rw [hWd] at hHeld ⊢
  refine take_mk 0 (.pointer (some ⟨y.na p, 0, none⟩)) rfl (by kernel_rfl) (by kernel_rfl) (by kernel_rfl) (fun _ _ _ h => h) (Or.inl ⟨by rfl, fun Z hZ => by go_simp⟩) (by assumption) ?_
  try simp only [Act.put, List.setIfInBounds_toArray, List.set_cons_zero, List.set_cons_succ]
  refine take_mk 1 (.pointer (some ⟨y.na p, 0, none⟩)) rfl (by kernel_rfl) (by kernel_rfl) (by kernel_rfl) (fun _ _ _ h => h) (Or.inl ⟨by rfl, fun Z hZ => by go_simp⟩) (by assumption) ?_
  try simp only [Act.put, List.setIfInBounds_toArray, List.set_cons_zero, List.set_cons_succ]
  refine take_mk 2 (.pointer (some ⟨y.na p, 3, none⟩)) rfl (by kernel_rfl) (by kernel_rfl) (by kernel_rfl) (fun _ _ _ h => h) (Or.inl ⟨by rfl, fun Z hZ => by go_simp⟩) (by assumption) ?_
  try simp only [Act.put, List.setIfInBounds_toArray, List.set_cons_zero, List.set_cons_succ]
  refine take_mk 3 (.map (some b)) rfl (by kernel_rfl) (by kernel_rfl) (by kernel_rfl) (fun _ _ _ h => h) (Or.inl ⟨by rfl, fun Z hZ => by obtain ⟨z0, z1, z2⟩ := HR.out Z hZ; go_simp⟩) (by assumption) ?_
  try simp only [Act.put, List.setIfInBounds_toArray, List.set_cons_zero, List.set_cons_succ]
  refine take_mk 4 (symv s) rfl (by kernel_rfl) (by kernel_rfl) (by kernel_rfl) (fun _ _ _ h => h) (Or.inl ⟨by rfl, fun Z hZ => by obtain ⟨z0, z1, z2⟩ := HR.out Z hZ; go_simp⟩) (by assumption) ?_
  try simp only [Act.put, List.setIfInBounds_toArray, List.set_cons_zero, List.set_cons_succ]
  refine take_mk 5 (.pointer (some ⟨N, 0, none⟩)) rfl (by kernel_rfl) (by kernel_rfl) (by kernel_rfl) (fun _ _ _ h => h) (Or.inl ⟨by rfl, fun Z hZ => by go_simp⟩) (by assumption) ?_
  try simp only [Act.put, List.setIfInBounds_toArray, List.set_cons_zero, List.set_cons_succ]
  refine wpAnyH_ready (rs := [6]) (by kernel_rfl) (by simp) (AllReadyH.cons (o := ⟨_, _, _, _, _, _⟩) rfl (fun K hK => ?_) AllReadyH.nil)
  rw [if_pos (by rfl)]
  refine wp_mapUpdate_run 76 _ _ _ rfl (.map (some b)) (symv s) (.pointer (some ⟨N, 0, none⟩)) rfl rfl rfl hrun ?_
  refine hK.out _ _ HOn.out (fun _ => ?_)
  clear hK K
  refine wpAnyH_done (by kernel_rfl) ?_ _
  try simp only [Act.put]
  clear hrun hHeld
  go_wp2
  go_ret2
  exact ⟨b, N, rfl, HF.out⟩

set_option maxRecDepth 100000 in
set_option maxHeartbeats 4000000 in
theorem reach_new0 (h : Trie W P num y B) (hB : ∀ r ∈ B, r < W.heap.size) {p : Path} (hp : p ∈ P) {s : Sym} (hs : p ++ [s] ∉ P) (hnum : num (p ++ [s]) = []) (hok : Sym.ok s) (hl : P.length ≤ 1000000) (hb : y.ca p = none) :
    Calls Tryz.prog 54 #[.pointer (some ⟨y.na p, 0, none⟩), symv s] W fun e W' => ∃ b N, e = .returned (.tuple #[.pointer (some ⟨N, 0, none⟩), .bool true]) ∧ Trie W' (P ++ [p ++ [s]]) num (y.grow p s b N) (N :: b :: B) ∧ Only B W W' ∧ W.heap.size ≤ N ∧ (b ∈ B ∨ W.heap.size ≤ b) ∧ N < W'.heap.size ∧ b < W'.heap.size := by
  obtain ⟨kl, hkl⟩ := sym_key hok
  have hcl := h.cells p hp
  rw [hb] at hcl
  obtain ⟨W1, h1⟩ : ∃ X, W.alloc (.cells #[.string s.1, .int .i64 (s.2 : Nat)] 75) = X := ⟨_, rfl⟩
  have b1 : Below W.heap.size W W1 := by rw [← h1]; exact below_box _ _
  have s1 : W1.heap.size = W.heap.size + 1 := by rw [← h1]; simp
  have z1 : W1.heap[W.heap.size]? = some (.cells [Value.string s.1, .int .i64 (s.2 : Nat)].toArray 75 (0, 0)) := by rw [← h1]; exact (MapKept.heap_alloc _ _).1
  have hlt : y.na p < W.heap.size := (h.lt hp).1
  have hk0 := h.kid p hp
  rw [hb] at hk0
  have HK0 : Hid (kidN P p = 0) := hk0
  clear hk0
  have hlk : ∀ pf, (Instr.lookup 76 (.map none) (symv s) false).run Tryz.prog (far W1 pf) = .ok (.pointer none) (far W1 pf) := fun pf => nil_look _ kl hkl _
  have c3 : W1.cell? ⟨y.na p, 3, none⟩ = some (.map none) := kc b1 hlt (cell_store (vs := [_, _, _, _, _]) hcl rfl)
  have F0 := cell_far (by omega) c3
  have F1 := cell_far (w := W1) (b := W.heap.size) (by omega) (cell_store z1 (i := 0) rfl)
  have F2 := cell_far (w := W1) (b := W.heap.size) (by omega) (cell_store z1 (i := 1) rfl)
  have H1 : Hid (Below W.heap.size W W1 ∧ W1.heap[W.heap.size]? = some (.cells [Value.string s.1, .int .i64 (s.2 : Nat)].toArray 75 (0, 0))) := ⟨b1, z1⟩
  have HT : Hid (Trie W P num y B ∧ (∀ r ∈ B, r < W.heap.size) ∧ p ∈ P ∧ p ++ [s] ∉ P ∧ num (p ++ [s]) = [] ∧ Sym.ok s ∧ P.length ≤ 1000000) := ⟨h, hB, hp, hs, hnum, hok, hl⟩
  have HC := hid hcl
  clear h hB hnum hl hcl c3 z1 b1
  go_enter Tryz.func54, Tryz.ntmps54
  try rw [h1]
  go_wp2
  try rw [h1]
  refine wp_region_far (by kernel_rfl) ?_
  repeat (first | go_big_quiet_step (fail) | quiet_step (fail))
  refine wpQuiet_nil ?_
  intro _ hw'
  obtain ⟨pf, rfl⟩ := hw'
  obtain ⟨W2, hW2⟩ : ∃ X, far W1 pf = X := ⟨_, rfl⟩
  have b12 : Below W1.heap.size W1 W2 := by rw [← hW2]; exact below_far W1 pf
  rw [hW2]
  have b02 : Below W.heap.size W W2 := H1.out.1.trans (b12.mono H1.out.1.size)
  have z2 : W2.heap[W.heap.size]? = some (.cells [Value.string s.1, .int .i64 (s.2 : Nat)].toArray 75 (0, 0)) := (b12.block _ (by omega)).trans H1.out.2
  have hs2 : W.heap.size + 1 ≤ W2.heap.size := by have := b12.size; omega
  clear hlk F0 F1 F2 hW2
  have c3 : W2.cell? ⟨y.na p, 3, none⟩ = some (.map none) := kc b02 hlt (cell_store (vs := [_, _, _, _, _]) HC.out rfl)
  obtain ⟨b, hbv⟩ : ∃ n, W2.heap.size = n := ⟨_, rfl⟩
  obtain ⟨W3, h3⟩ : ∃ X, W2.alloc (.map #[] 0) = X := ⟨_, rfl⟩
  have b3 : Below W2.heap.size W2 W3 := by rw [← h3]; exact below_box _ _
  have s3 : W3.heap.size = b + 1 := by rw [← h3, ← hbv]; simp
  have m3 : MapIs W3 75 b (fun _ => none) 0 := by rw [← h3, ← hbv]; exact MapIs.made W2 75
  have b03 : Below W.heap.size W W3 := b02.trans (b3.mono b02.size)
  have n3 := (b03.block _ hlt).trans HC.out
  have fz : W3.frozen? ⟨y.na p, 3, none⟩ = false := by simp [World.frozen?, n3]
  have c33 : W3.cell? ⟨y.na p, 3, none⟩ = some (.map none) := cell_store (vs := [_, _, _, _, _]) n3 rfl
  obtain ⟨W4, h4⟩ : ∃ X, W3.setCell ⟨y.na p, 3, none⟩ (.map (some b)) = X := ⟨_, rfl⟩
  have n4 : W4.heap[y.na p]? = some (.cells #[.string (lastS p).1, .int .i64 ((lastS p).2 : Nat), parV y.na p, .map (some b), .map (y.ua p)] 79 (0, 0)) := by rw [← h4]; exact set_any (cs := [_, _, _, _, _]) (i := 3) n3
  have o4 : Only [y.na p] W3 W4 := by rw [← h4]; exact Only.of_grown (World.grownBy_setCell_any W3 (y.na p) 3 _) (fun r e => by cases e; simp)
  have s4 : W4.heap.size = b + 1 := by rw [← h4]; simp [s3]
  have z4 : W4.heap[W.heap.size]? = some (.cells [Value.string s.1, .int .i64 (s.2 : Nat)].toArray 75 (0, 0)) := (o4.block _ (by omega) (by simp; omega)).trans ((b3.block _ (by omega)).trans z2)
  have m4 : MapIs W4 75 b (fun _ => none) 0 := m3.same (o4.block b (by omega) (by simp; omega))
  have c0 : W4.cell? ⟨W.heap.size, 0, none⟩ = some (.string s.1) := cell_store z4 rfl
  have c1 : W4.cell? ⟨W.heap.size, 1, none⟩ = some (.int .i64 (s.2 : Nat)) := cell_store z4 rfl
  obtain ⟨N, hN⟩ : ∃ n, W4.heap.size = n := ⟨_, rfl⟩
  obtain ⟨W5, h5⟩ : ∃ X, W4.alloc (.cells #[.string s.1, .int .i64 (s.2 : Nat), .pointer (some ⟨y.na p, 0, none⟩), .map none, .map none] 79) = X := ⟨_, rfl⟩
  have b5 : Below W4.heap.size W4 W5 := by rw [← h5]; exact below_box _ _
  have n5 : W5.heap[N]? = some (.cells #[.string s.1, .int .i64 (s.2 : Nat), .pointer (some ⟨y.na p, 0, none⟩), .map none, .map none] 79 (0, 0)) := by rw [← hN, ← h5]; exact (MapKept.heap_alloc _ _).1
  obtain ⟨Wd, hWd⟩ : ∃ X, W5.drew = X := ⟨_, rfl⟩
  have hd : Below W5.heap.size W5 Wd := by rw [← hWd]; exact (Below.refl _ W5).drew
  have b4d : Below W4.heap.size W4 Wd := b5.trans (hd.mono b5.size)
  have hO : Only [y.na p] W Wd := ((Only.of_below (B := [y.na p]) b03).trans o4 (fun r hr => .inl hr)).trans (Only.of_below (B := []) b4d) (by simp)
  have hn := (b4d.block _ (by omega)).trans n4
  have hm : MapIs Wd 75 b (kidM P y.na p) (kidN P p) := by rw [kidM_empty HK0.out, HK0.out]; exact m4.same (b4d.block b (by omega))
  have hNd := (hd.block N (Array.getElem?_eq_some_iff.1 n5).1).trans n5
  have zd := (b4d.block W.heap.size (by omega)).trans z4
  have hNl : W.heap.size ≤ N := by omega
  have hbb : y.ca p = some b ∨ W.heap.size ≤ b := .inr (by omega)
  have hmk := fun X => run_makeMap0 76 X
  have HR : Hid (∀ Z, Only [b] Wd Z → Z.cell? ⟨y.na p, 3, none⟩ = some (.map (some b)) ∧ Z.cell? ⟨W.heap.size, 0, none⟩ = some (.string s.1) ∧ Z.cell? ⟨W.heap.size, 1, none⟩ = some (.int .i64 (s.2 : Nat))) := fun Z hZ => by
    have e1 := (hZ.block _ (Array.getElem?_eq_some_iff.1 hn).1 (by simpa using cells_ne_map hn hm)).trans hn
    have e2 := (hZ.block _ (Array.getElem?_eq_some_iff.1 zd).1 (by simpa using cells_ne_map zd hm)).trans zd
    exact ⟨cell_store (vs := [_, _, _, _, _]) e1 rfl, cell_store e2 rfl, cell_store e2 rfl⟩
  obtain ⟨W6, hrun, hon, hF⟩ := reach_fin HT.out.1 HT.out.2.1 HT.out.2.2.1 HT.out.2.2.2.1 HT.out.2.2.2.2.1 HT.out.2.2.2.2.2.1 HT.out.2.2.2.2.2.2 hO hn hm hNd hNl hbb
  have HF := hid hF
  have HOn := hid hon
  clear hF hon hO hn hm hNd zd hNl hbb b4d hd n5 b5 z4 m4 s4 o4 n4 n3 b03 m3 b3 z2 b02 hs2 HC HT H1 b12 hb hkl
  have hme := map_none56 W2
  go_upto_region 6 with fail
  try rw [h3]
  try rw [hbv]
  try rw [h4]
  clear c3 c33 fz s3 hme
  go_upto_region 7 with fail
  try rw [h5]
  try rw [hN]
  clear c0 c1
  refine wp_region_held_drew (S := fun Z => Only [b] Wd Z) (by kernel_rfl) (by rw [hWd]; exact Only.refl _ _) (fun hHeld => ?_)
  rw [hWd] at hHeld ⊢
  refine take_mk 0 (.pointer (some ⟨y.na p, 0, none⟩)) rfl (by kernel_rfl) (by kernel_rfl) (by kernel_rfl) (fun _ _ _ h => h) (Or.inl ⟨by rfl, fun Z hZ => by go_simp⟩) (by assumption) ?_
  try simp only [Act.put, List.setIfInBounds_toArray, List.set_cons_zero, List.set_cons_succ]
  refine take_mk 1 (.pointer (some ⟨y.na p, 0, none⟩)) rfl (by kernel_rfl) (by kernel_rfl) (by kernel_rfl) (fun _ _ _ h => h) (Or.inl ⟨by rfl, fun Z hZ => by go_simp⟩) (by assumption) ?_
  try simp only [Act.put, List.setIfInBounds_toArray, List.set_cons_zero, List.set_cons_succ]
  refine take_mk 2 (.pointer (some ⟨y.na p, 3, none⟩)) rfl (by kernel_rfl) (by kernel_rfl) (by kernel_rfl) (fun _ _ _ h => h) (Or.inl ⟨by rfl, fun Z hZ => by go_simp⟩) (by assumption) ?_
  try simp only [Act.put, List.setIfInBounds_toArray, List.set_cons_zero, List.set_cons_succ]
  refine take_mk 3 (.map (some b)) rfl (by kernel_rfl) (by kernel_rfl) (by kernel_rfl) (fun _ _ _ h => h) (Or.inl ⟨by rfl, fun Z hZ => by obtain ⟨z0, z1, z2⟩ := HR.out Z hZ; go_simp⟩) (by assumption) ?_
  try simp only [Act.put, List.setIfInBounds_toArray, List.set_cons_zero, List.set_cons_succ]
  refine take_mk 4 (symv s) rfl (by kernel_rfl) (by kernel_rfl) (by kernel_rfl) (fun _ _ _ h => h) (Or.inl ⟨by rfl, fun Z hZ => by obtain ⟨z0, z1, z2⟩ := HR.out Z hZ; go_simp⟩) (by assumption) ?_
  try simp only [Act.put, List.setIfInBounds_toArray, List.set_cons_zero, List.set_cons_succ]
  refine take_mk 5 (.pointer (some ⟨N, 0, none⟩)) rfl (by kernel_rfl) (by kernel_rfl) (by kernel_rfl) (fun _ _ _ h => h) (Or.inl ⟨by rfl, fun Z hZ => by go_simp⟩) (by assumption) ?_
  try simp only [Act.put, List.setIfInBounds_toArray, List.set_cons_zero, List.set_cons_succ]
  refine wpAnyH_ready (rs := [6]) (by kernel_rfl) (by simp) (AllReadyH.cons (o := ⟨_, _, _, _, _, _⟩) rfl (fun K hK => ?_) AllReadyH.nil)
  rw [if_pos (by rfl)]
  refine wp_mapUpdate_run 76 _ _ _ rfl (.map (some b)) (symv s) (.pointer (some ⟨N, 0, none⟩)) rfl rfl rfl hrun ?_
  refine hK.out _ _ HOn.out (fun _ => ?_)
  clear hK K
  refine wpAnyH_done (by kernel_rfl) ?_ _
  try simp only [Act.put]
  clear hrun hHeld
  go_wp2
  go_ret2
  exact ⟨b, N, rfl, HF.out⟩

theorem reach_new (h : Trie W P num y B) (hB : ∀ r ∈ B, r < W.heap.size) {p : Path} (hp : p ∈ P) {s : Sym} (hs : p ++ [s] ∉ P) (hnum : num (p ++ [s]) = []) (hok : Sym.ok s) (hl : P.length ≤ 1000000) :
    Calls Tryz.prog 54 #[.pointer (some ⟨y.na p, 0, none⟩), symv s] W fun e W' => ∃ b N, e = .returned (.tuple #[.pointer (some ⟨N, 0, none⟩), .bool true]) ∧ Trie W' (P ++ [p ++ [s]]) num (y.grow p s b N) (N :: b :: B) ∧ Only B W W' ∧ W.heap.size ≤ N ∧ (b ∈ B ∨ W.heap.size ≤ b) ∧ N < W'.heap.size ∧ b < W'.heap.size := by
  cases hc : y.ca p with
  | none => exact reach_new0 h hB hp hs hnum hok hl hc
  | some b => exact reach_new1 h hB hp hs hnum hok hl hc

end

end Go.Proofs.YtijihmncbaoklaaGreat

/-
  hold: a number more at a node.
-/
namespace Go.Proofs.YtijihmncbaoklaaGreat
open Go.RowKit Go.Maps

open Classical in
noncomputable def putN (num : Path → List Int) (p : Path) (l : List Int) : Path → List Int := fun r => if r = p then l else num r
theorem putN_same (num : Path → List Int) (p : Path) (l : List Int) : putN num p l p = l := by unfold putN; rw [if_pos rfl]
theorem putN_other (num : Path → List Int) {p r : Path} (l : List Int) (h : r ≠ p) : putN num p l r = num r := by unfold putN; rw [if_neg h]
open Classical in
noncomputable def Lay.putU (y : Lay) (p : Path) (b : Nat) : Lay := { y with ua := fun r => if r = p then some b else y.ua r }
theorem Lay.putU_same (y : Lay) (p : Path) (b : Nat) : (y.putU p b).ua p = some b := by unfold Lay.putU; simp
theorem Lay.putU_other (y : Lay) {p r : Path} (b : Nat) (h : r ≠ p) : (y.putU p b).ua r = y.ua r := by unfold Lay.putU; simp only; rw [if_neg h]

section
variable {W W' : World} {P : List Path} {num : Path → List Int} {y : Lay} {B : List Nat}

/-- A node's numbers are others. -/
theorem Trie.putU (h : Trie W P num y B) {p : Path} (hp : p ∈ P) {b : Nat} {l : List Int}
    (hW : ∀ r ∈ B, r ≠ y.na p → y.ua p ≠ some r → W'.heap[r]? = W.heap[r]?)
    (hn : W'.heap[y.na p]? = some (.cells #[.string (lastS p).1, .int .i64 ((lastS p).2 : Nat), parV y.na p, .map (y.ca p), .map (some b)] 79 (0, 0)))
    (hb : MapIs W' 3 b (numM l) l.length) (hbB : y.ua p = some b ∨ b ∉ B) : Trie W' P (putN num p l) (y.putU p b) (b :: B) := by
  have huaB : ∀ {r : Path}, r ∈ P → r ≠ p → ∀ b', y.ua r = some b' → b' ≠ b := fun {r} hr hrp b' hb' e => by
    subst e
    rcases hbB with h1 | h1
    · exact hrp (h.ua_inj r hr p hp _ hb' h1)
    · exact h1 ((h.own r hr).2.2 _ hb')
  have hcaB : ∀ {r : Path}, r ∈ P → ∀ b', y.ca r = some b' → b' ≠ b := fun {r} hr b' hb' e => by
    subst e
    rcases hbB with h1 | h1
    · exact h.cu_ne r hr p hp _ hb' h1
    · exact h1 ((h.own r hr).2.1 _ hb')
  have keepB : ∀ {r : Path}, r ∈ P → ∀ b', y.ca r = some b' ∨ (y.ua r = some b' ∧ r ≠ p) → W'.heap[b']? = W.heap[b']? := fun {r} hr b' hb' => by
    rcases hb' with h1 | ⟨h1, h2⟩
    · exact hW b' ((h.own r hr).2.1 b' h1) (fun e => h.na_ca hp hr h1 e.symm) (fun e => h.cu_ne r hr p hp b' h1 e)
    · exact hW b' ((h.own r hr).2.2 b' h1) (fun e => h.na_ua hp hr h1 e.symm) (fun e => h2 (h.ua_inj r hr p hp b' h1 e))
  refine { nod := h.nod, root := h.root, clo := h.clo, cells := fun r hr => ?_, kid := fun r hr => ?_, nums := fun r hr => ?_, na_inj := h.na_inj, ca_inj := h.ca_inj, ua_inj := fun r hr q hq b' h1 h2 => ?_, cu_ne := fun r hr q hq b' h1 h2 => ?_, own := fun r hr => ?_ }
  · by_cases e : r = p
    · subst e; rw [Lay.putU_same]; exact hn
    · rw [Lay.putU_other y b e]
      show W'.heap[y.na r]? = _
      rw [hW _ (h.own r hr).1 (fun e' => e (h.na_inj r hr p hp e')) (fun e' => h.na_ua hr hp e' rfl)]
      exact h.cells r hr
  · have h1 := h.kid r hr
    show KidAt W' P y.na r (y.ca r)
    cases hc : y.ca r with
    | none => rw [hc] at h1; exact h1
    | some b' => rw [hc] at h1; exact MapIs.same h1 (keepB hr b' (.inl hc))
  · by_cases e : r = p
    · subst e; rw [Lay.putU_same, putN_same]; exact hb
    · rw [Lay.putU_other y b e, putN_other num l e]
      have h1 := h.nums r hr
      cases hc : y.ua r with
      | none => rw [hc] at h1; exact h1
      | some b' => rw [hc] at h1; exact MapIs.same h1 (keepB hr b' (.inr ⟨hc, e⟩))
  · by_cases e : r = p
    · by_cases e2 : q = p
      · rw [e, e2]
      · rw [e, Lay.putU_same] at h1
        rw [Lay.putU_other y b e2] at h2
        exact absurd (Option.some.inj h1).symm (huaB hq e2 b' h2)
    · rw [Lay.putU_other y b e] at h1
      by_cases e2 : q = p
      · rw [e2, Lay.putU_same] at h2
        exact absurd (Option.some.inj h2).symm (huaB hr e b' h1)
      · rw [Lay.putU_other y b e2] at h2
        exact h.ua_inj r hr q hq b' h1 h2
  · have h1 : y.ca r = some b' := h1
    by_cases e2 : q = p
    · rw [e2, Lay.putU_same] at h2
      exact hcaB hr b' h1 (Option.some.inj h2).symm
    · rw [Lay.putU_other y b e2] at h2
      exact h.cu_ne r hr q hq b' h1 h2
  · refine ⟨List.mem_cons_of_mem _ (h.own r hr).1, fun b' hb' => List.mem_cons_of_mem _ ((h.own r hr).2.1 b' hb'), fun b' hb' => ?_⟩
    by_cases e : r = p
    · rw [e, Lay.putU_same] at hb'; cases hb'; simp
    · rw [Lay.putU_other y b e] at hb'; exact List.mem_cons_of_mem _ ((h.own r hr).2.2 b' hb')

theorem wpList_mapUpdate_run' {ops : Array Oper} {rest : List Oper} {op : Oper} {a : Act} {w w' : World} {Q : Exit → Act → World → Prop} (hgd : op.guard = none) (t : TypeId) (m x v : Operand) (ho : op.op = .mapUpdate t m x v) (mv kv vv : Value) (hm : a.eval m = mv) (hx : a.eval x = kv) (hv : a.eval v = vv)
    (hrun : (Instr.mapUpdate t mv kv vv).run Tryz.prog w = .ok () w') (h : wpList Tryz.prog ops Q rest (a.put op.dst undef) w') : wpList Tryz.prog ops Q (op :: rest) a w := by
  refine wpList_plain hgd fun _ hK => ?_
  unfold Oper.wp execOp
  simp only [ho, hm, hx, hv, Sem.run_bind, hrun, Result.andThen_ok, Sem.run_pure]
  exact hK _ _ h
theorem map_some57 (b : Nat) (w : World) : (binOp .eql 77 (.map (some b)) (.map none)).run Tryz.prog w = .ok (.bool false) w := by kernel_rfl
theorem map_none57 (w : World) : (binOp .eql 77 (.map none) (.map none)).run Tryz.prog w = .ok (.bool true) w := by kernel_rfl

/-- Behind what hold stores. -/
theorem hold_fin (h : Trie W P num y B) (hB : ∀ r ∈ B, r < W.heap.size) {p : Path} (hp : p ∈ P) {id : Int} (hid : Fit64 id) (hno : id ∉ num p) (hl : (num p).length ≤ 1000000) {b : Nat} {Wd : World} (hO : Only [y.na p] W Wd)
    (hn : Wd.heap[y.na p]? = some (.cells #[.string (lastS p).1, .int .i64 ((lastS p).2 : Nat), parV y.na p, .map (y.ca p), .map (some b)] 79 (0, 0)))
    (hm : MapIs Wd 3 b (numM (num p)) (num p).length) (hb : y.ua p = some b ∨ W.heap.size ≤ b) :
    ∃ W6, (Instr.mapUpdate 77 (.map (some b)) (.int .i64 id) (.agg #[])).run Tryz.prog Wd = .ok () W6 ∧
      (Trie W6 P (putN num p (num p ++ [id])) (y.putU p b) (b :: B) ∧ Only B W W6 ∧ (b ∈ B ∨ W.heap.size ≤ b) ∧ b < W6.heap.size) := by
  have hkl := keyOf_int_mk Tryz.underlying3 (wf_of hid)
  obtain ⟨W6, hrun, hM6, hg⟩ := hm.put keyed3 Tryz.underlying77 (by unfold maxLen; omega) hkl (.agg #[])
  have hnone : numM (num p) (.int .i64 id) = none := by simp [numM, hno]
  rw [hnone, ← numM_snoc] at hM6
  have on6 : Only [b] Wd W6 := Only.of_grown hg (fun r e => by cases e; simp)
  have hbn : b ≠ y.na p := (cells_ne_map hn hm).symm
  have hbd : b < Wd.heap.size := hm.lt
  have hnd : y.na p < Wd.heap.size := (Array.getElem?_eq_some_iff.1 hn).1
  have hbB : b ∈ B ∨ W.heap.size ≤ b := hb.imp (fun e => (h.own p hp).2.2 b e) (fun e => e)
  refine ⟨W6, hrun, h.putU hp (fun r hr h1 h2 => ?_) ?_ (by rw [List.length_append]; exact hM6) (hb.imp (fun e => e) (fun e hm' => by have := hB b hm'; omega)), ?_, hbB, Nat.lt_of_lt_of_le hbd on6.size⟩
  · have hrl := hB r hr
    rw [on6.block r (Nat.lt_of_lt_of_le hrl hO.size) (fun hm' => ?_), hO.block r hrl (by simpa using h1)]
    obtain rfl := List.mem_singleton.1 hm'
    rcases hb with e | e
    · exact h2 e
    · omega
  · rw [on6.block _ hnd (by simpa using fun e => hbn e.symm)]; exact hn
  · have hO' : Only B W Wd := ⟨hO.os, hO.tape, hO.output, hO.size, fun k hk hn' => hO.block k hk (fun hm' => hn' (by rw [List.mem_singleton.1 hm']; exact (h.own p hp).1))⟩
    exact hO'.trans on6 (fun r hr => by obtain rfl := List.mem_singleton.1 hr; exact hbB)

set_option maxRecDepth 100000 in
set_option maxHeartbeats 4000000 in
theorem hold_any (h : Trie W P num y B) (hB : ∀ r ∈ B, r < W.heap.size) {p : Path} (hp : p ∈ P) {id : Int} (hid' : Fit64 id) (hno : id ∉ num p) (hl : (num p).length ≤ 1000000) :
    Calls Tryz.prog 30 #[.pointer (some ⟨y.na p, 0, none⟩), .int .i64 id] W fun e W' => e = .returned (.tuple #[]) ∧ ∃ b, Trie W' P (putN num p (num p ++ [id])) (y.putU p b) (b :: B) ∧ Only B W W' ∧ (b ∈ B ∨ W.heap.size ≤ b) ∧ b < W'.heap.size := by
  have hcl := h.cells p hp
  have hM := h.nums p hp
  have hlt : y.na p < W.heap.size := (h.lt hp).1
  cases hu : y.ua p with
  | some b =>
    rw [hu] at hcl hM
    obtain ⟨W6, hrun, hF⟩ := hold_fin h hB hp hid' hno hl (Only.refl _ W) hcl hM (.inl hu)
    have HF := hid hF
    have c4 : W.cell? ⟨y.na p, 4, none⟩ = some (.map (some b)) := cell_store (vs := [_, _, _, _, _]) hcl rfl
    have hme := map_some57 b W
    clear h hB hcl hM hF hlt
    go_enter Tryz.func30, Tryz.ntmps30
    go_wp2_with (refine wpList_mapUpdate_run' rfl 77 _ _ _ rfl (.map (some b)) (.int .i64 id) (.agg #[]) rfl rfl rfl hrun ?_)
    refine bodyPost_end (results_none rfl _ _ _) rfl ?_
    exact ⟨rfl, b, HF.out⟩
  | none =>
    rw [hu] at hcl hM
    have hM : num p = [] := hM
    obtain ⟨b, hbv⟩ : ∃ n, W.heap.size = n := ⟨_, rfl⟩
    obtain ⟨W3, h3⟩ : ∃ X, W.alloc (.map #[] 0) = X := ⟨_, rfl⟩
    have b3 : Below W.heap.size W W3 := by rw [← h3]; exact below_box _ _
    have s3 : W3.heap.size = b + 1 := by rw [← h3, ← hbv]; simp
    have m3 : MapIs W3 3 b (fun _ => none) 0 := by rw [← h3, ← hbv]; exact MapIs.made W 3
    have n3 := (b3.block _ hlt).trans hcl
    have fz : W3.frozen? ⟨y.na p, 4, none⟩ = false := by simp [World.frozen?, n3]
    have c33 : W3.cell? ⟨y.na p, 4, none⟩ = some (.map none) := cell_store (vs := [_, _, _, _, _]) n3 rfl
    obtain ⟨W4, h4⟩ : ∃ X, W3.setCell ⟨y.na p, 4, none⟩ (.map (some b)) = X := ⟨_, rfl⟩
    have n4 : W4.heap[y.na p]? = some (.cells #[.string (lastS p).1, .int .i64 ((lastS p).2 : Nat), parV y.na p, .map (y.ca p), .map (some b)] 79 (0, 0)) := by rw [← h4]; exact set_any (cs := [_, _, _, _, _]) (i := 4) n3
    have o4 : Only [y.na p] W3 W4 := by rw [← h4]; exact Only.of_grown (World.grownBy_setCell_any W3 (y.na p) 4 _) (fun r e => by cases e; simp)
    have m4 : MapIs W4 3 b (fun _ => none) 0 := m3.same (o4.block b (by omega) (by simp; omega))
    have hO : Only [y.na p] W W4 := (Only.of_below (B := [y.na p]) b3).trans o4 (fun r hr => .inl hr)
    have e0 : numM (num p) = fun _ => none := by funext v; rw [hM]; unfold numM; cases v with | int k x => cases k <;> simp | _ => rfl
    obtain ⟨W6, hrun, hF⟩ := hold_fin h hB hp hid' hno hl hO n4 (by rw [e0, hM]; exact m4) (.inr (by omega))
    have HF := hid hF
    have c4 : W.cell? ⟨y.na p, 4, none⟩ = some (.map none) := cell_store (vs := [_, _, _, _, _]) hcl rfl
    have d4 : W4.cell? ⟨y.na p, 4, none⟩ = some (.map (some b)) := cell_store (vs := [_, _, _, _, _]) n4 rfl
    have hme := map_none57 W
    have hmk := fun X => run_makeMap0 77 X
    clear h hB hcl hM hF hlt n3 n4 o4 m4 hO e0 m3 b3 s3
    go_enter Tryz.func30, Tryz.ntmps30
    go_upto_region 2 with fail
    try rw [h3]
    try rw [hbv]
    try rw [h4]
    clear c4 c33 fz hme
    go_wp2_with (refine wpList_mapUpdate_run' rfl 77 _ _ _ rfl (.map (some b)) (.int .i64 id) (.agg #[]) rfl rfl rfl hrun ?_)
    refine bodyPost_end (results_none rfl _ _ _) rfl ?_
    exact ⟨rfl, b, HF.out.1, HF.out.2.1, .inr (Nat.le_refl _), HF.out.2.2.2⟩

end

end Go.Proofs.YtijihmncbaoklaaGreat

/-
  grow: what its loop keeps.
-/
namespace Go.Proofs.YtijihmncbaoklaaGreat
open Go.RowKit Go.Maps Go.Shelf

/-- What grow's loop keeps. -/
structure GIs (w : World) (D : Nat → Prop) (x Bv Bn : Nat) (tmv : Value) (P0 : List Path) (y0 : Lay) (B0 : List Nat) (num : Path → List Int) (P : List Path) (y : Lay) (B : List Nat) (E : List Nat) (pre : List T) (W : World) : Prop where
  tri : Trie W P num y B
  blt : ∀ r ∈ B, r < W.heap.size
  bnw : ∀ r ∈ B, r ∈ B0 ∨ w.heap.size ≤ r
  box : W.heap[x]? = some (.cells #[.pointer (some ⟨y.na [], 0, none⟩), tmv, .int .i64 (P.length : Nat)] 63 (0, 0))
  xv : W.heap[Bv]? = some (.cells #[.pointer (some ⟨x, 0, none⟩)] 24 (0, 0))
  nv : W.heap[Bn]? = some (.cells #[.pointer (some ⟨y.na (pre.map T.sym), 0, none⟩)] 60 (0, 0))
  cur : pre.map T.sym ∈ P
  mem : ∀ q, q ∈ P ↔ q ∈ P0 ∨ q <+: pre.map T.sym
  old : ∀ q ∈ P0, y.na q = y0.na q
  low : x < w.heap.size ∧ Bv < w.heap.size ∧ Bn < w.heap.size ∧ x ∉ B0 ∧ Bv ∉ B0 ∧ Bn ∉ B0 ∧ x ≠ Bv ∧ x ≠ Bn ∧ Bv ≠ Bn
  dis : ∀ b, D b → b < w.heap.size ∧ b ∉ B0 ∧ b ≠ x ∧ b ≠ Bn
  els : ∀ r ∈ E, r ∉ B ∧ w.heap.size ≤ r ∧ r < W.heap.size
  only : Only (x :: Bn :: B0) w W
  plen : P.length ≤ P0.length + pre.length
  zer : ∀ q, q ∉ P0 → num q = []

def GI (w : World) (D : Nat → Prop) (x Bv Bn : Nat) (tmv : Value) (P0 : List Path) (y0 : Lay) (B0 : List Nat) (num : Path → List Int) (E : List Nat) (pre : List T) (W : World) : Prop :=
  ∃ P y B, GIs w D x Bv Bn tmv P0 y0 B0 num P y B E pre W

section
variable {w : World} {D : Nat → Prop} {x Bv Bn : Nat} {tmv : Value} {P0 : List Path} {y0 : Lay} {B0 : List Nat} {num : Path → List Int} {P : List Path} {y : Lay} {B E : List Nat} {pre : List T} {W W' : World}

theorem GIs.nB (h : GIs w D x Bv Bn tmv P0 y0 B0 num P y B E pre W) {b : Nat} (h1 : b < w.heap.size) (h2 : b ∉ B0) : b ∉ B := fun hm => by
  rcases h.bnw b hm with e | e
  · exact h2 e
  · omega

theorem GI.abide : Abide (GI w D x Bv Bn tmv P0 y0 B0 num) := by
  rintro E E' s W W' row ⟨P, y, B, h⟩ hg hr hE
  have hsz := h.only.size
  have hrow : ∀ b, b < w.heap.size → W'.heap[b]? = W.heap[b]? := fun b hb => hg.block b (by omega) (fun e => by have := (h.els b (hr b e.symm)).2.1; omega)
  obtain ⟨l1, l2, l3, _⟩ := h.low
  refine ⟨P, y, B, { tri := h.tri.keep (fun r hr' => hg.block r (h.blt r hr') (fun e => (h.els r (hr r e.symm)).1 hr')), blt := fun r hr' => Nat.lt_of_lt_of_le (h.blt r hr') hg.size, bnw := h.bnw, box := (hrow x l1).trans h.box, xv := (hrow Bv l2).trans h.xv, nv := (hrow Bn l3).trans h.nv, cur := h.cur, mem := h.mem, old := h.old, low := h.low, dis := h.dis, els := fun r hr' => ?_, only := ?_, plen := h.plen, zer := h.zer }⟩
  · rcases hE r hr' with e | ⟨e1, e2⟩
    · obtain ⟨q1, q2, q3⟩ := h.els r e
      exact ⟨q1, q2, Nat.lt_of_lt_of_le q3 hg.size⟩
    · exact ⟨fun hm => by have := h.blt r hm; omega, by omega, e2⟩
  · exact h.only.trans (Only.of_grown (B := row.toList) hg (fun r e => by simp [e])) (fun r hr' => .inr (h.els r (hr r (by simpa using hr'))).2.1)

theorem prefix_one (q a : Path) (s : Sym) : q <+: a ++ [s] ↔ q = a ++ [s] ∨ q <+: a := List.prefix_concat_iff

theorem clo_prefix {P : List Path} (clo : ∀ p s, p ++ [s] ∈ P → p ∈ P) : ∀ (r p : Path), p ++ r ∈ P → p ∈ P
  | [], p, h => by simpa using h
  | s :: r, p, h => clo p s (clo_prefix clo r (p ++ [s]) (by simpa using h))

theorem GIs.step_old (h : GIs w D x Bv Bn tmv P0 y0 B0 num P y B E pre W) (p : T) (hq : pre.map T.sym ++ [p.sym] ∈ P) (hb : Below W.heap.size W W') :
    KeptD D E W (W'.setCell ⟨Bn, 0, none⟩ (.pointer (some ⟨y.na (pre.map T.sym ++ [p.sym]), 0, none⟩))) ∧ GI w D x Bv Bn tmv P0 y0 B0 num E (pre ++ [p]) (W'.setCell ⟨Bn, 0, none⟩ (.pointer (some ⟨y.na (pre.map T.sym ++ [p.sym]), 0, none⟩))) := by
  have hsz := h.only.size
  obtain ⟨l1, l2, l3, l4, l5, l6, l7, l8, l9⟩ := h.low
  obtain ⟨v, hv⟩ : ∃ v, v = Value.pointer (some ⟨y.na (pre.map T.sym ++ [p.sym]), 0, none⟩) := ⟨_, rfl⟩
  rw [← hv]
  have hk : ∀ b, b < W.heap.size → b ≠ Bn → (W'.setCell ⟨Bn, 0, none⟩ v).heap[b]? = W.heap[b]? := fun b h1 h2 => (Below.heap_setCell _ _ _ b h2).trans (hb.block b h1)
  have hmap : (pre ++ [p]).map T.sym = pre.map T.sym ++ [p.sym] := by simp
  refine ⟨⟨by simpa using hb.size, fun b hb' => hk b (by have := h.dis b hb'; omega) (h.dis b hb').2.2.2, fun r hr => hk r (h.els r hr).2.2 (fun e => by have := (h.els r hr).2.1; omega)⟩, P, y, B, { tri := h.tri.keep (fun r hr => hk r (h.blt r hr) (fun e => h.nB l3 l6 (e ▸ hr))), blt := fun r hr => by have := h.blt r hr; have := hb.size; simp; omega, bnw := h.bnw, box := (hk x (by omega) l8).trans h.box, xv := (hk Bv (by omega) l9).trans h.xv, nv := ?_, cur := by rw [hmap]; exact hq, mem := fun q => ?_, old := h.old, low := h.low, dis := h.dis, els := fun r hr => ?_, only := ?_, plen := by have := h.plen; simp; omega, zer := h.zer }⟩
  · rw [hmap, ← hv]
    exact set_any (cs := [_]) (i := 0) ((hb.block Bn (by omega)).trans h.nv)
  · rw [hmap, prefix_one, h.mem]
    constructor
    · rintro (e | e)
      · exact .inl e
      · exact .inr (.inr e)
    · rintro (e | rfl | e)
      · exact .inl e
      · exact (h.mem _).1 hq
      · exact .inr e
  · obtain ⟨q1, q2, q3⟩ := h.els r hr
    exact ⟨q1, q2, by have := hb.size; simp; omega⟩
  · exact (h.only.trans (Only.of_below (B := []) hb) (by simp)).trans (Only.of_grown (B := [Bn]) (World.grownBy_setCell_any W' Bn 0 _) (fun r e => by cases e; simp)) (fun r hr => .inl (by simp at hr; simp [hr]))

theorem GIs.step_new (h : GIs w D x Bv Bn tmv P0 y0 B0 num P y B E pre W) (p : T) (hq : pre.map T.sym ++ [p.sym] ∉ P) {b N : Nat} (hT : Trie W' (P ++ [pre.map T.sym ++ [p.sym]]) num (y.grow (pre.map T.sym) p.sym b N) (N :: b :: B)) (hO : Only B W W') (hN : W.heap.size ≤ N) (hbb : b ∈ B ∨ W.heap.size ≤ b) (hN' : N < W'.heap.size) (hb' : b < W'.heap.size) :
    KeptD D E W ((W'.setCell ⟨x, 2, none⟩ (.int .i64 (P.length + 1 : Nat))).setCell ⟨Bn, 0, none⟩ (.pointer (some ⟨N, 0, none⟩))) ∧ GI w D x Bv Bn tmv P0 y0 B0 num E (pre ++ [p]) ((W'.setCell ⟨x, 2, none⟩ (.int .i64 (P.length + 1 : Nat))).setCell ⟨Bn, 0, none⟩ (.pointer (some ⟨N, 0, none⟩))) := by
  have hsz := h.only.size
  obtain ⟨l1, l2, l3, l4, l5, l6, l7, l8, l9⟩ := h.low
  have hxB := h.nB l1 l4
  have hvB := h.nB l2 l5
  have hnB := h.nB l3 l6
  have hk : ∀ r, r < W'.heap.size → r ≠ Bn → r ≠ x → ((W'.setCell ⟨x, 2, none⟩ (.int .i64 (P.length + 1 : Nat))).setCell ⟨Bn, 0, none⟩ (.pointer (some ⟨N, 0, none⟩))).heap[r]? = W'.heap[r]? := fun r _ h2 h3 => (Below.heap_setCell _ _ _ r h2).trans (Below.heap_setCell _ _ _ r h3)
  have hk0 : ∀ r, r < W.heap.size → r ≠ Bn → r ≠ x → r ∉ B → ((W'.setCell ⟨x, 2, none⟩ (.int .i64 (P.length + 1 : Nat))).setCell ⟨Bn, 0, none⟩ (.pointer (some ⟨N, 0, none⟩))).heap[r]? = W.heap[r]? := fun r h1 h2 h3 h4 => (hk r (Nat.lt_of_lt_of_le h1 hO.size) h2 h3).trans (hO.block r h1 h4)
  have hmap : (pre ++ [p]).map T.sym = pre.map T.sym ++ [p.sym] := by simp
  have hroot : ([] : Path) ≠ pre.map T.sym ++ [p.sym] := by simp
  have hss : ((W'.setCell ⟨x, 2, none⟩ (.int .i64 (P.length + 1 : Nat))).setCell ⟨Bn, 0, none⟩ (.pointer (some ⟨N, 0, none⟩))).heap.size = W'.heap.size := by simp
  have hx1 := (hO.block x (by omega) hxB).trans h.box
  have hx2 := set_any (cs := [_, _, _]) (i := 2) (v := .int .i64 (P.length + 1 : Nat)) hx1
  have hn1 := (hO.block Bn (by omega) hnB).trans h.nv
  have hnew : ∀ r ∈ N :: b :: B, r ∈ B ∨ W.heap.size ≤ r := fun r hr => by
    rcases List.mem_cons.1 hr with rfl | hr
    · exact .inr hN
    · rcases List.mem_cons.1 hr with rfl | hr
      · exact hbb
      · exact .inl hr
  have hnlt : ∀ r ∈ N :: b :: B, r < W'.heap.size := fun r hr => by
    rcases List.mem_cons.1 hr with rfl | hr
    · exact hN'
    · rcases List.mem_cons.1 hr with rfl | hr
      · exact hb'
      · exact Nat.lt_of_lt_of_le (h.blt r hr) hO.size
  have hne : ∀ r ∈ N :: b :: B, ∀ c, c < W.heap.size → c ∉ B → r ≠ c := fun r hr c h1 h2 e => by
    rcases hnew r hr with e' | e'
    · exact h2 (e ▸ e')
    · omega
  refine ⟨⟨by rw [hss]; exact hO.size, fun c hc => hk0 c (by have := h.dis c hc; omega) (h.dis c hc).2.2.2 (h.dis c hc).2.2.1 (h.nB (h.dis c hc).1 (h.dis c hc).2.1), fun r hr => hk0 r (h.els r hr).2.2 (fun e => by have := (h.els r hr).2.1; omega) (fun e => by have := (h.els r hr).2.1; omega) (h.els r hr).1⟩, _, _, _, { tri := hT.keep (fun r hr => hk r (hnlt r hr) (hne r hr Bn (by omega) hnB) (hne r hr x (by omega) hxB)), blt := fun r hr => by rw [hss]; exact hnlt r hr, bnw := fun r hr => ?_, box := ?_, xv := (hk0 Bv (by omega) l9 (fun e => l7 e.symm) hvB).trans h.xv, nv := ?_, cur := by rw [hmap]; simp, mem := fun q => ?_, old := fun q hq0 => ?_, low := h.low, dis := h.dis, els := fun r hr => ?_, only := ?_, plen := by have := h.plen; simp only [List.length_append, List.length_cons, List.length_nil]; omega, zer := h.zer }⟩
  · rcases hnew r hr with e | e
    · exact h.bnw r e
    · exact .inr (by omega)
  · rw [Below.heap_setCell _ _ _ x (by exact l8)]
    have e1 : (y.grow (pre.map T.sym) p.sym b N).na [] = y.na [] := by simp only [Lay.grow]; rw [if_neg hroot]
    rw [e1, List.length_append]
    exact hx2
  · have e1 : (y.grow (pre.map T.sym) p.sym b N).na ((pre ++ [p]).map T.sym) = N := by rw [hmap]; simp [Lay.grow]
    rw [e1]
    exact set_any (cs := [_]) (i := 0) ((Below.heap_setCell _ _ _ Bn (by exact fun e => l8 e.symm)).trans hn1)
  · rw [hmap, prefix_one, List.mem_append, h.mem, List.mem_singleton]
    constructor
    · rintro ((e | e) | e)
      · exact .inl e
      · exact .inr (.inr e)
      · exact .inr (.inl e)
    · rintro (e | e | e)
      · exact .inl (.inl e)
      · exact .inr e
      · exact .inl (.inr e)
  · have hqP : q ∈ P := (h.mem q).2 (.inl hq0)
    have e1 : (y.grow (pre.map T.sym) p.sym b N).na q = y.na q := by simp only [Lay.grow]; rw [if_neg (fun (e : q = pre.map T.sym ++ [p.sym]) => hq (by rw [← e]; exact hqP))]
    rw [e1]
    exact h.old q hq0
  · obtain ⟨q1, q2, q3⟩ := h.els r hr
    refine ⟨fun hm => ?_, q2, by rw [hss]; exact Nat.lt_of_lt_of_le q3 hO.size⟩
    rcases hnew r hm with e | e
    · exact q1 e
    · omega
  · refine ((h.only.trans hO (fun r hr => ?_)).trans (Only.of_grown (B := [x]) (World.grownBy_setCell_any W' x 2 _) (fun r e => by cases e; simp)) (fun r hr => .inl (by simp at hr; simp [hr]))).trans (Only.of_grown (B := [Bn]) (World.grownBy_setCell_any _ Bn 0 _) (fun r e => by cases e; simp)) (fun r hr => .inl (by simp at hr; simp [hr]))
    rcases h.bnw r hr with e | e
    · exact .inl (by simp [e])
    · exact .inr e

end

end Go.Proofs.YtijihmncbaoklaaGreat
