/-
  Insert, into any index; Len.
-/
import Derived.Test.YtiklbkkimmgbcaaGG
namespace Go.Proofs.Ytiklbkkimmgbcaa
open Go.RowKit Go.Maps

/-- Behind both stores. -/
theorem Mid.done {w W W5 W6 : World} {bx m1 m2 K : Nat} {L M : List (Int × Fp)} {γ : Fp → Nat × Nat} {p : Fp} {id : Int} (h : Mid w bx m1 m2 K L M γ p W) (hadd : Add L M id p) (hid : Fit64 id) (hpo : p.ok)
    (M5 : MapIs W5 3 (γ p).2 (upd (nmap L p) (.int .i64 id) (.agg #[])) (cntF L p + 1)) (on5 : Only [(γ p).2] W W5) (M6 : MapIs W6 3 m2 (upd (hmap L γ) (.int .i64 id) (gptr γ p)) (L.length + 1)) (on6 : Only [m2] W5 W6) : Ixs w bx m1 m2 (K + 1) M γ W6 := by
  have hpM : p ∈ fps M := (add_fps hadd p).2 (.inr rfl)
  have hgl := h.glow p hpM
  obtain ⟨n, hn, hg⟩ := h.gr
  have lx := (Array.getElem?_eq_some_iff.1 h.box).1
  have l1 := hg.lt
  have l2 := h.ho.lt
  have lgp := (Array.getElem?_eq_some_iff.1 h.gb).1
  have lmp := h.nu.lt
  have s5 := on5.size
  have hlow := h.low
  have hne := h.ne
  have bl5 : Below w.heap.size w W5 := h.bel.trans (on5.below h.bel.size (by simp; omega))
  have keep : ∀ k, k < W.heap.size → k ≠ (γ p).2 → k ≠ m2 → W6.heap[k]? = W.heap[k]? := fun k hk h1 h2 => (on6.block k (by omega) (by simpa using h2)).trans (on5.block k hk (by simpa using h1))
  refine ⟨bl5.trans (on6.below bl5.size (by simp; omega)), h.low, h.ne, hadd.ids, fun e he => ?_, (keep bx lx (by omega) (by omega)).trans h.box, ⟨n, hn, hg.same (keep m1 l1 (by omega) (by omega))⟩, ?_, fun q hq => ?_, h.glow, h.gne⟩
  · rcases (hadd.mem e).1 he with he | rfl
    · exact h.fit e he
    · exact ⟨hid, hpo⟩
  · rw [← add_hmap hadd h.ids, hadd.len]; exact M6
  · by_cases hqp : q = p
    · subst hqp
      refine ⟨(keep _ lgp (by omega) (by omega)).trans h.gb, ?_⟩
      have hc : cntF M q = cntF L q + 1 := by rw [hadd.cnt]; simp [cntF]
      rw [← add_nmap hadd h.ids, hc]
      exact M5.same (on6.block _ (by omega) (by simp; omega))
    · have hqL : q ∈ fps L := ((add_fps hadd q).1 hq).resolve_right hqp
      have hG := h.oth q hqL hqp
      have hn1 := h.gne q hq p hpM hqp
      have hgq := h.glow q hq
      have lq1 := (Array.getElem?_eq_some_iff.1 hG.gb).1
      have lq2 := hG.nu.lt
      refine ⟨(keep _ lq1 (by omega) (by omega)).trans hG.gb, ?_⟩
      have hc : cntF M q = cntF L q := by rw [hadd.cnt]; simp [cntF]; exact fun e => hqp e.symm
      rw [← add_nmap_ne hadd h.ids hqp, hc]
      exact hG.nu.same (keep _ lq2 (by omega) (by omega))

set_option maxHeartbeats 2000000 in
theorem insert_wrong (bx : Nat) (id : Int) (t : T) (s : Value) (W : World) (hr : t.rightW ≠ 0) (hsh : Short t) (ha : ArgsAt W s t.args) : Calls Try.prog 18 #[.pointer (some ⟨bx, 0, none⟩), .int .i64 id, tval t s] W fun e W' => e = .returned (.int .i64 1) ∧ Below W.heap.size W W' := by
  obtain ⟨W1, h1⟩ : ∃ X, W.alloc (tbox t s) = X := ⟨_, rfl⟩
  have b1 : Below W.heap.size W W1 := by rw [← h1]; exact below_box _ _
  obtain ⟨x0, x1, x2⟩ := tbox_cells W t s
  rw [h1] at x0 x1 x2
  have hc39 := tright_any t s W1 (ArgsAt.keep b1 (Nat.le_refl _) ha) hsh
  have hz : (t.rightW != 0) = true := by simpa using hr
  obtain ⟨z, hzz⟩ : ∃ z, t.rightW = z := ⟨_, rfl⟩
  rw [hzz] at hc39 hz
  obtain ⟨sa, sc, rfl, _, _⟩ := ha.slice
  have HB : Hid (Below W.heap.size W W1) := b1
  clear ha hr hsh hzz b1
  go_enter Try.func18, Try.ntmps18
  try rw [h1]
  go_wp2_with fail
  try rw [h1]
  refine hc39.mono ?_
  rintro e W2 ⟨rfl, b2⟩
  have HB2 : Hid (Below W.heap.size W W2) := HB.out.trans (b2.mono HB.out.size)
  clear b2
  go_wp2
  go_ret
  exact ⟨rfl, HB2.out⟩

set_option maxRecDepth 100000 in
set_option maxHeartbeats 4000000 in
theorem insert_twice (w : World) (bx m1 m2 K : Nat) (L : List (Int × Fp)) (γ : Fp → Nat × Nat) (id : Int) (hid : Fit64 id) (q : Fp) (hq : look L id = some q) (t : T) (s : Value) (hr : t.rightW = 0) (hsh : Short t) (W : World) (hI : Ixs w bx m1 m2 K L γ W) (ha : ArgsAt W s t.args) :
    Calls Try.prog 18 #[.pointer (some ⟨bx, 0, none⟩), .int .i64 id, tval t s] W fun e W' => e = .returned (.int .i64 43) ∧ Below W.heap.size W W' := by
  obtain ⟨W1, h1⟩ : ∃ X, W.alloc (tbox t s) = X := ⟨_, rfl⟩
  have b1 : Below W.heap.size W W1 := by rw [← h1]; exact below_box _ _
  have s1 : W1.heap.size = W.heap.size + 1 := by rw [← h1]; simp
  obtain ⟨x0, x1, x2⟩ := tbox_cells W t s
  rw [h1] at x0 x1 x2
  have hc39 := tright_any t s W1 (ArgsAt.keep b1 (Nat.le_refl _) ha) hsh
  rw [hr] at hc39
  have hsome : hmap L γ (.int .i64 id) = some (.pointer (some ⟨(γ q).1, 0, none⟩)) := by simp [hmap, hq, gptr]
  obtain ⟨gg, hgg⟩ : ∃ g, (γ q).1 = g := ⟨_, rfl⟩
  rw [hgg] at hsome
  have HA : Hid (∀ Z, Below W1.heap.size W1 Z → (Instr.lookup 73 (.map (some m2)) (.int .i64 id) false).run Try.prog Z = .ok (.pointer (some ⟨gg, 0, none⟩)) Z ∧ Z.cell? ⟨bx, 1, none⟩ = some (.map (some m2))) := fun Z hZ => by
    have hIz := (hI.keep b1).keep hZ
    exact ⟨((hIz.ho.look keyed3 Try.underlying73 (zero77 _) (key3 hid)).1 _ hsome).2, hIz.cells.2⟩
  obtain ⟨sa, sc, rfl, _, _⟩ := ha.slice
  have HB : Hid (Below W.heap.size W W1) := b1
  clear ha hr hsh b1 hI hsome hgg
  go_enter Try.func18, Try.ntmps18
  try rw [h1]
  go_wp2_with fail
  try rw [h1]
  refine hc39.mono ?_
  rintro e W2 ⟨rfl, b2⟩
  have HB2 : Hid (Below W.heap.size W W2) := HB.out.trans (b2.mono HB.out.size)
  obtain ⟨hlk, c1⟩ := HA.out W2 b2
  clear b2
  go_wp2
  go_ret
  exact ⟨rfl, HB2.out⟩

set_option maxRecDepth 100000 in
set_option maxHeartbeats 8000000 in
theorem insert_ok (w : World) (bx m1 m2 K : Nat) (hKb : K ≤ 1048576) (L M : List (Int × Fp)) (γ : Fp → Nat × Nat) (id : Int) (hid : Fit64 id) (t : T) (hadd : Add L M id (fpOf t)) (hLb : L.length ≤ 1048576) (s : Value) (hr : t.rightW = 0) (hsh : Short t) (W : World) (hI : Ixs w bx m1 m2 K L γ W) (ha : ArgsAt W s t.args) :
    Calls Try.prog 18 #[.pointer (some ⟨bx, 0, none⟩), .int .i64 id, tval t s] W fun e W' => ∃ γ', e = .returned (.int .i64 0) ∧ Ixs w bx m1 m2 (K + 1) M γ' W' ∧ (∀ k < W.heap.size, Apart bx m1 m2 (fps L) γ k → W'.heap[k]? = W.heap[k]? ∧ Apart bx m1 m2 (fps M) γ' k) := by
  have hpo := fpOf_ok hr
  have HG : Hid (∀ Z, Ixs w bx m1 m2 K L γ Z → Calls Try.prog 40 #[.pointer (some ⟨bx, 0, none⟩), kv (fpOf t)] Z fun e W' => ∃ γ', e = .returned (gptr γ' (fpOf t)) ∧ Mid w bx m1 m2 K L M γ' (fpOf t) W' ∧ (∀ k < Z.heap.size, Apart bx m1 m2 (fps L) γ k → W'.heap[k]? = Z.heap[k]? ∧ Apart bx m1 m2 (fps M) γ' k)) := fun Z hZ => by
    by_cases hp : fpOf t ∈ fps L
    · exact groupOf_old w bx m1 m2 K L M γ id (fpOf t) hadd hpo hp Z hZ
    · exact groupOf_fresh w bx m1 m2 K L M γ id (fpOf t) hadd hpo hp hKb Z hZ
  obtain ⟨W1, h1⟩ : ∃ X, W.alloc (tbox t s) = X := ⟨_, rfl⟩
  have b1 : Below W.heap.size W W1 := by rw [← h1]; exact below_box _ _
  have s1 : W1.heap.size = W.heap.size + 1 := by rw [← h1]; simp
  obtain ⟨x0, x1, x2⟩ := tbox_cells W t s
  rw [h1] at x0 x1 x2
  have hc39 := tright_any t s W1 (ArgsAt.keep b1 (Nat.le_refl _) ha) hsh
  rw [hr] at hc39
  have hnone : hmap L γ (.int .i64 id) = none := by simp [hmap, hadd.new]
  have HA : Hid (∀ Z, Below W1.heap.size W1 Z → ArgsAt Z s t.args ∧ Ixs w bx m1 m2 K L γ Z) := fun Z hZ => ⟨ArgsAt.keep (b1.trans (hZ.mono b1.size)) (Nat.le_refl _) ha, (hI.keep b1).keep hZ⟩
  have HX : Hid (∀ Z, Below W1.heap.size W1 Z → Z.cell? ⟨W.heap.size, 0, none⟩ = some (.int .i64 t.v) ∧ Z.cell? ⟨W.heap.size, 1, none⟩ = some (.string t.fn) ∧ Z.cell? ⟨W.heap.size, 2, none⟩ = some s) := fun Z hZ => ⟨kc hZ (by omega) x0, kc hZ (by omega) x1, kc hZ (by omega) x2⟩
  have HD : Hid (Fit64 id ∧ Add L M id (fpOf t) ∧ (fpOf t).ok ∧ L.length ≤ 1048576) := ⟨hid, hadd, hpo, hLb⟩
  have HN : Hid (hmap L γ (.int .i64 id) = none) := hnone
  obtain ⟨sa, sc, rfl, _, _⟩ := ha.slice
  have HB1 : Hid (Below W.heap.size W W1) := b1
  clear b1 ha hI hr hsh hid hadd hpo hnone hLb
  go_enter Try.func18, Try.ntmps18
  try rw [h1]
  go_wp2_with fail
  try rw [h1]
  refine hc39.mono ?_
  rintro e W2 ⟨rfl, b2⟩
  obtain ⟨hA2, hI2⟩ := HA.out W2 b2
  obtain ⟨u0, u1, u2⟩ := HX.out W2 b2
  obtain ⟨c0, c1⟩ := hI2.cells
  have hlk := ((hI2.ho.look keyed3 Try.underlying73 (zero77 _) (key3 HD.out.1)).2 HN.out).2
  have hc32 := fingerprintOf_any t _ W2 hA2
  have HB2 : Hid (Below W1.heap.size W1 W2) := b2
  clear hA2 hI2 b2 x0 x1 x2 hc39
  go_wp2_with fail
  refine hc32.mono ?_
  rintro e W3 ⟨rfl, b3⟩
  have b13 : Below W1.heap.size W1 W3 := HB2.out.trans (b3.mono HB2.out.size)
  have hc40 := HG.out W3 (HA.out W3 b13).2
  have HB13 : Hid (Below W.heap.size W W3) := HB1.out.trans (b13.mono HB1.out.size)
  clear b3 b13 hc32 hlk u0 u1 u2 c0 c1
  go_wp2_with fail
  refine hc40.mono ?_
  rintro e W4 ⟨γ', rfl, hI4, hA4⟩
  have hnn : nmap L (fpOf t) (.int .i64 id) = none := by simp [nmap, HD.out.2.1.new]
  have hcl := cntF_le L (fpOf t)
  have hLb := HD.out.2.2.2
  obtain ⟨W5, hrun5, M5, hg5⟩ := hI4.nu.put keyed3 Try.underlying80 (by unfold maxLen; omega) (key3 HD.out.1) (.agg #[])
  rw [hnn] at M5
  simp only at M5
  have on5 : Only [(γ' (fpOf t)).2] W4 W5 := Only.of_grown hg5 (fun r e => by cases e; simp)
  have hpM : fpOf t ∈ fps M := (add_fps HD.out.2.1 _).2 (.inr rfl)
  have hgl := hI4.glow _ hpM
  have O5 := hI4.ho.same (on5.block _ hI4.ho.lt (by simp; omega))
  have hn2 : hmap L γ' (.int .i64 id) = none := by simp [hmap, HD.out.2.1.new]
  obtain ⟨W6, hrun6, M6, hg6⟩ := O5.put keyed3 Try.underlying73 (by unfold maxLen; omega) (key3 HD.out.1) (gptr γ' (fpOf t))
  rw [hn2] at M6
  simp only at M6
  have on6 : Only [m2] W5 W6 := Only.of_grown hg6 (fun r e => by cases e; simp)
  have HF : Hid (Ixs w bx m1 m2 (K + 1) M γ' W6) := hI4.done HD.out.2.1 HD.out.1 HD.out.2.2.1 M5 on5 M6 on6
  have HA : Hid (∀ k < W.heap.size, Apart bx m1 m2 (fps L) γ k → W6.heap[k]? = W.heap[k]? ∧ Apart bx m1 m2 (fps M) γ' k) := fun k hk hA => by
    have z3 := HB13.out.size
    obtain ⟨q1, q2⟩ := hA4 k (by omega) hA
    have hs4 : k < W4.heap.size := by
      have h3 : k < W3.heap.size := by omega
      rcases Nat.lt_or_ge k W4.heap.size with h | h
      · exact h
      · rw [Array.getElem?_eq_none h, Array.getElem?_eq_getElem h3] at q1; cases q1
    have s5 := on5.size
    refine ⟨(on6.block k (by omega) (by simp; exact q2.2.2.1)).trans ((on5.block k hs4 (by simp; exact (q2.2.2.2 _ hpM).2)).trans (q1.trans (HB13.out.block k hk))), q2⟩
  have d0 : W4.cell? ⟨(γ' (fpOf t)).1, 12, none⟩ = some (.map (some (γ' (fpOf t)).2)) := cell_store hI4.gb rfl
  have B5 : W5.heap[bx]? = some (.cells #[.map (some m1), .map (some m2)] 75 (0, 0)) := (on5.block _ (Array.getElem?_eq_some_iff.1 hI4.box).1 (by simp; omega)).trans hI4.box
  have d1 : W5.cell? ⟨bx, 1, none⟩ = some (.map (some m2)) := by simp [World.cell?, B5]
  obtain ⟨g, hg⟩ : ∃ g, (γ' (fpOf t)).1 = g := ⟨_, rfl⟩
  obtain ⟨m3, hm3⟩ : ∃ g, (γ' (fpOf t)).2 = g := ⟨_, rfl⟩
  simp only [gptr, hg, hm3] at hrun5 hrun6 d0 ⊢
  clear hA4 hI4 M5 hg5 on5 B5 O5 M6 hg6 on6 hc40 hgl hpM hn2 hnn hcl hg hm3
  go_wp2_with (first | (refine wpList_mapUpdate_run rfl 80 _ _ _ rfl (.map (some m3)) (.int .i64 id) (.agg #[]) rfl rfl rfl hrun5 ?_) | (refine wpList_mapUpdate_run rfl 73 _ _ _ rfl (.map (some m2)) (.int .i64 id) (.pointer (some ⟨g, 0, none⟩)) rfl rfl rfl hrun6 ?_))
  go_ret
  exact ⟨γ', rfl, HF.out, HA.out⟩

set_option maxHeartbeats 1000000 in
theorem len_any (w : World) (bx m1 m2 K : Nat) (L : List (Int × Fp)) (γ : Fp → Nat × Nat) (W : World) (hI : Ixs w bx m1 m2 K L γ W) : Calls Try.prog 22 #[.pointer (some ⟨bx, 0, none⟩)] W fun e W' => e = .returned (.int .i64 (L.length : Int)) ∧ Below W.heap.size W W' := by
  have c1 := hI.cells.2
  have hl := fun ty => hI.ho.len Try.underlying73 ty
  clear hI
  go_enter Try.func22, Try.ntmps22
  go_wp2
  go_ret
  exact ⟨rfl, Below.refl _ _⟩

end Go.Proofs.Ytiklbkkimmgbcaa
