/-
  Remove, of any index.
-/
import Derived.Test.YtiklbkkimmgbcaaGH
namespace Go.Proofs.Ytiklbkkimmgbcaa
open Go.RowKit Go.Maps

theorem wp_delete_run {op : Oper} {a : Act} {w w' : World} {K : Act → World → Prop} {Q : Exit → Act → World → Prop} (m x : Operand) (t k : TypeId) (ho : op.op = Op.call { callee := Callee.builtin Builtin.delete, args := #[m, x], argTypes := #[t, k] }) (mv kv : Value) (hm : a.eval m = mv) (hx : a.eval x = kv)
    (hrun : (Builtin.delete_ #[t, k] op.type #[mv, kv]).run Try.prog w = .ok (.tuple #[]) w') (h : K (a.put op.dst (.tuple #[])) w') : Oper.wp Try.prog op a w K Q := by
  unfold Oper.wp
  simp [execOp, ho, resolve, invoke, builtin, hm, hx, hrun, Result.andThen]
  exact h
theorem wpList_delete_run {ops : Array Oper} {rest : List Oper} {op : Oper} {a : Act} {w w' : World} {Q : Exit → Act → World → Prop} (hgd : op.guard = none) (m x : Operand) (t k : TypeId) (ho : op.op = Op.call { callee := Callee.builtin Builtin.delete, args := #[m, x], argTypes := #[t, k] }) (mv kv : Value) (hm : a.eval m = mv) (hx : a.eval x = kv)
    (hrun : (Builtin.delete_ #[t, k] op.type #[mv, kv]).run Try.prog w = .ok (.tuple #[]) w') (h : wpList Try.prog ops Q rest (a.put op.dst (.tuple #[])) w') : wpList Try.prog ops Q (op :: rest) a w :=
  wpList_plain hgd fun _ hK => wp_delete_run m x t k ho mv kv hm hx hrun (hK _ _ h)

theorem del_hmap {L M : List (Int × Fp)} {z : Int} {p : Fp} (h : Add M L z p) (hd : Ids M) (γ : Fp → Nat × Nat) : del (hmap L γ) (.int .i64 z) = hmap M γ := by
  funext v
  unfold del
  by_cases e : v = .int .i64 z
  · subst e
    rw [if_pos rfl]
    simp [hmap, h.new]
  · rw [if_neg e]
    unfold hmap
    split
    · rename_i x
      have hx : x ≠ z := fun q => e (by rw [q])
      rw [add_look h hd, if_neg hx]
    · rfl
theorem del_nmap {L M : List (Int × Fp)} {z : Int} {p : Fp} (h : Add M L z p) (hd : Ids M) : del (nmap L p) (.int .i64 z) = nmap M p := by
  funext v
  unfold del
  by_cases e : v = .int .i64 z
  · subst e
    rw [if_pos rfl]
    simp [nmap, h.new]
  · rw [if_neg e]
    unfold nmap
    split
    · rename_i x
      have hx : x ≠ z := fun q => e (by rw [q])
      rw [add_look h hd, if_neg hx]
    · rfl
theorem del_gmap {L M : List (Int × Fp)} {z : Int} {p : Fp} (h : Add M L z p) (hp : p ∉ fps M) (γ : Fp → Nat × Nat) : del (gmap L γ) (kv p) = gmap M γ := by
  funext v
  unfold del
  by_cases e : v = kv p
  · subst e
    rw [if_pos rfl, gmap_out hp]
  · rw [if_neg e]
    by_cases hv : ∃ q, q ∈ fps M ∧ v = kv q
    · obtain ⟨q, hq, rfl⟩ := hv
      rw [gmap_in hq, gmap_in ((add_fps h q).2 (.inl hq))]
    · have h1 : gmap M γ v = none := by unfold gmap; rw [dif_neg hv]
      have h2 : gmap L γ v = none := by
        unfold gmap
        rw [dif_neg]
        rintro ⟨q, hq, rfl⟩
        rcases (add_fps h q).1 hq with hq | rfl
        · exact hv ⟨q, hq, rfl⟩
        · exact e rfl
      rw [h1, h2]
/-- What a taking away leaves. -/
theorem Ixs.taken {w W W5 W6 W7 : World} {bx m1 m2 K n : Nat} {L M : List (Int × Fp)} {γ : Fp → Nat × Nat} {p : Fp} {id : Int} (h : Ixs w bx m1 m2 K L γ W) (hadd : Add M L id p) (hM : Ids M)
    (M5 : MapIs W5 3 m2 (hmap M γ) M.length) (on5 : Only [m2] W W5) (M6 : MapIs W6 3 (γ p).2 (nmap M p) (cntF M p)) (on6 : Only [(γ p).2] W5 W6) (hn : n ≤ K) (M7 : MapIs W7 66 m1 (gmap M γ) n) (on7 : Only [m1] W6 W7) : Ixs w bx m1 m2 K M γ W7 := by
  have hpL : p ∈ fps L := (add_fps hadd p).2 (.inr rfl)
  have hsub : ∀ q ∈ fps M, q ∈ fps L := fun q hq => (add_fps hadd q).2 (.inl hq)
  have hgl := h.glow p hpL
  have lx := (Array.getElem?_eq_some_iff.1 h.box).1
  have l2 := h.ho.lt
  have hGp := h.grp p hpL
  have lgp := (Array.getElem?_eq_some_iff.1 hGp.gb).1
  have lmp := hGp.nu.lt
  have s5 := on5.size
  have s6 := on6.size
  have hlow := h.low
  have hne := h.ne
  have bl5 : Below w.heap.size w W5 := h.bel.trans (on5.below h.bel.size (by simp; omega))
  have bl6 : Below w.heap.size w W6 := bl5.trans (on6.below bl5.size (by simp; omega))
  have keep : ∀ k, k < W.heap.size → k ≠ (γ p).2 → k ≠ m2 → k ≠ m1 → W7.heap[k]? = W.heap[k]? := fun k hk h1 h2 h3 => (on7.block k (by omega) (by simpa using h3)).trans ((on6.block k (by omega) (by simpa using h1)).trans (on5.block k hk (by simpa using h2)))
  refine ⟨bl6.trans (on7.below bl6.size (by simp; omega)), h.low, h.ne, hM, fun e he => h.fit e ((hadd.mem e).2 (.inl he)), (keep bx lx (by omega) (by omega) (by omega)).trans h.box, ⟨n, hn, M7⟩, M5.same ((on7.block m2 (by omega) (by simp; omega)).trans (on6.block m2 (by omega) (by simp; omega))), fun q hq => ?_, fun q hq => h.glow q (hsub q hq), fun q hq r hr => h.gne q (hsub q hq) r (hsub r hr)⟩
  by_cases hqp : q = p
  · subst hqp
    exact ⟨(keep _ lgp (by omega) (by omega) (by omega)).trans hGp.gb, M6.same (on7.block _ (by omega) (by simp; omega))⟩
  · have hqL := hsub q hq
    have hG := h.grp q hqL
    have hn1 := h.gne q hqL p hpL hqp
    have hgq := h.glow q hqL
    have lq1 := (Array.getElem?_eq_some_iff.1 hG.gb).1
    have lq2 := hG.nu.lt
    refine ⟨(keep _ lq1 (by omega) (by omega) (by omega)).trans hG.gb, ?_⟩
    have hc : cntF L q = cntF M q := by rw [hadd.cnt]; simp [cntF]; exact fun e => hqp e.symm
    rw [add_nmap_ne hadd hM hqp, ← hc]
    exact hG.nu.same (keep _ lq2 (by omega) (by omega) (by omega))

set_option maxHeartbeats 2000000 in
theorem remove_gone (w : World) (bx m1 m2 K : Nat) (L : List (Int × Fp)) (γ : Fp → Nat × Nat) (id : Int) (hid : Fit64 id) (hn : look L id = none) (W : World) (hI : Ixs w bx m1 m2 K L γ W) :
    Calls Try.prog 20 #[.pointer (some ⟨bx, 0, none⟩), .int .i64 id] W fun e W' => e = .returned (.int .i64 4) ∧ Below W.heap.size W W' := by
  have hnone : hmap L γ (.int .i64 id) = none := by simp [hmap, hn]
  have c1 := hI.cells.2
  have hlk := ((hI.ho.look keyed3 Try.underlying73 (zero77 _) (key3 hid)).2 hnone).2
  clear hI hn hnone hid
  go_enter Try.func20, Try.ntmps20
  go_wp2
  go_ret
  exact ⟨rfl, Below.refl _ _⟩

set_option maxRecDepth 100000 in
set_option maxHeartbeats 8000000 in
theorem remove_ok (w : World) (bx m1 m2 K : Nat) (L M : List (Int × Fp)) (γ : Fp → Nat × Nat) (id : Int) (hid : Fit64 id) (p : Fp) (hadd : Add M L id p) (hM : Ids M) (W : World) (hI : Ixs w bx m1 m2 K L γ W) :
    Calls Try.prog 20 #[.pointer (some ⟨bx, 0, none⟩), .int .i64 id] W fun e W' => ∃ m1' m2', e = .returned (.int .i64 0) ∧ Ixs w bx m1' m2' K M γ W' ∧ (∀ k < W.heap.size, Apart bx m1 m2 (fps L) γ k → W'.heap[k]? = W.heap[k]? ∧ Apart bx m1' m2' (fps M) γ k) := by
  have hpL : p ∈ fps L := (add_fps hadd p).2 (.inr rfl)
  have hlook : look L id = some p := by rw [add_look hadd hM, if_pos rfl]
  have hsome : hmap L γ (.int .i64 id) = some (gptr γ p) := by simp [hmap, hlook]
  have hnsome : nmap L p (.int .i64 id) = some (.agg #[]) := by simp [nmap, hlook]
  have hgl := hI.glow p hpL
  have hGp := hI.grp p hpL
  have c1 := hI.cells.2
  have hlk := ((hI.ho.look keyed3 Try.underlying73 (zero77 _) (key3 hid)).1 _ hsome).2
  obtain ⟨W5, hrun5, M5, hg5⟩ := hI.ho.drop keyed3 Try.underlying73 (key3 hid) 0
  rw [hsome, del_hmap hadd hM] at M5
  simp only at M5
  rw [show L.length - 1 = M.length by rw [hadd.len]; omega] at M5
  have on5 : Only [m2] W W5 := Only.of_grown hg5 (fun r e => by cases e; simp)
  have G5 := (on5.block _ (Array.getElem?_eq_some_iff.1 hGp.gb).1 (by simp; omega)).trans hGp.gb
  have N5 := hGp.nu.same (on5.block _ hGp.nu.lt (by simp; omega))
  obtain ⟨W6, hrun6, M6, hg6⟩ := N5.drop keyed3 Try.underlying80 (key3 hid) 0
  have hc : cntF L p = cntF M p + 1 := by rw [hadd.cnt]; simp [cntF]
  rw [hnsome, del_nmap hadd hM] at M6
  simp only at M6
  rw [show cntF L p - 1 = cntF M p by omega] at M6
  have on6 : Only [(γ p).2] W5 W6 := Only.of_grown hg6 (fun r e => by cases e; simp)
  have s5 := on5.size
  have s6 := on6.size
  have l1 := (Array.getElem?_eq_some_iff.1 hGp.gb).1
  have lx := (Array.getElem?_eq_some_iff.1 hI.box).1
  have G6 := (on6.block _ (by omega) (by simp; omega)).trans G5
  have B6 : W6.heap[bx]? = some (.cells #[.map (some m1), .map (some m2)] 75 (0, 0)) := (on6.block _ (by have := hI.ne; omega) (by simp; omega)).trans ((on5.block _ lx (by have := hI.ne; simp; omega)).trans hI.box)
  obtain ⟨n, hn, hgr⟩ := hI.gr
  have R6 := hgr.same ((on6.block _ (by have := hgr.lt; omega) (by simp; omega)).trans (on5.block _ hgr.lt (by have := hI.ne; simp; omega)))
  have d0 : W5.cell? ⟨(γ p).1, 12, none⟩ = some (.map (some (γ p).2)) := cell_store G5 rfl
  have d6 : W6.cell? ⟨(γ p).1, 12, none⟩ = some (.map (some (γ p).2)) := cell_store G6 rfl
  have hl6 := fun ty => M6.len Try.underlying80 ty
  -- behind the index's own maps
  have HLen : Hid (∀ Z, Ixs w bx m1 m2 K M γ Z → Calls Try.prog 22 #[.pointer (some ⟨bx, 0, none⟩)] Z fun e W' => e = .returned (.int .i64 (M.length : Int)) ∧ Below Z.heap.size Z W') := fun Z hZ => len_any w bx m1 m2 K M γ Z hZ
  have HEnd : Hid (∀ Z W1, Ixs w bx m1 m2 K M γ Z → M.length = 0 → Below Z.heap.size Z W1 → MapIs W1 66 (Z.heap.size + 1) (fun _ => none) 0 → MapIs W1 3 (Z.heap.size + 2) (fun _ => none) 0 → ∃ W4, (Instr.storeAt 75 (.pointer (some ⟨bx, 0, none⟩)) (.agg #[.map (some (Z.heap.size + 1)), .map (some (Z.heap.size + 2))])).run Try.prog W1 = .ok () W4 ∧ Ixs w bx (Z.heap.size + 1) (Z.heap.size + 2) K M γ W4 ∧ ∀ k < Z.heap.size, Apart bx m1 m2 (fps M) γ k → W4.heap[k]? = Z.heap[k]? ∧ Apart bx (Z.heap.size + 1) (Z.heap.size + 2) (fps M) γ k) := fun Z W1 hZ h0 b1 m66 m3 => by
    have hzx := (Array.getElem?_eq_some_iff.1 hZ.box).1
    have hzz : W1.heap[bx]? = some (.cells #[.map (some m1), .map (some m2)] 75 (0, 0)) := (b1.block _ hzx).trans hZ.box
    obtain ⟨W4, hrun, hx4, hon⟩ := agg_store 75 W1 bx _ [.map (some (Z.heap.size + 1)), .map (some (Z.heap.size + 2))] hzz rfl Try.info75z (by intro z hz; simp only [List.mem_cons, List.not_mem_nil, or_false] at hz; rcases hz with rfl | rfl <;> rfl)
    have e0 : M = [] := List.length_eq_zero_iff.1 h0
    have bz : Below w.heap.size w W1 := hZ.bel.trans (b1.mono hZ.bel.size)
    have l1 := m66.lt
    have l2 := m3.lt
    have lz := hZ.bel.size
    refine ⟨W4, hrun, ?_, fun k hk hA => ⟨(hon.block k (by have := b1.size; omega) (by simp; exact hA.1)).trans (b1.block k hk), hA.1, by omega, by omega, hA.2.2.2⟩⟩
    rw [e0]
    refine Ixs.of_new ⟨bz.trans (hon.below bz.size (by simp; exact hZ.low.1)), ⟨hZ.low.1, by omega, by omega⟩, by omega, hx4, m66.same (hon.block _ l1 (by simp; omega)), m3.same (hon.block _ l2 (by simp; omega))⟩ γ K
  have HFr : Hid (∀ W7, Only [m1] W6 W7 → W.heap.size ≤ W7.heap.size ∧ ∀ k < W.heap.size, Apart bx m1 m2 (fps L) γ k → W7.heap[k]? = W.heap[k]? ∧ Apart bx m1 m2 (fps M) γ k) := fun W7 on7 => ⟨by have := on7.size; omega, fun k hk hA =>
    ⟨(on7.block k (by omega) (by simp; exact hA.2.1)).trans ((on6.block k (by omega) (by simp; exact (hA.2.2.2 p hpL).2)).trans (on5.block k hk (by simp; exact hA.2.2.1))), hA.1, hA.2.1, hA.2.2.1, fun q hq => hA.2.2.2 q ((add_fps hadd q).2 (.inl hq))⟩⟩
  have HTk : Hid (∀ n7 W7, n7 ≤ K → MapIs W7 66 m1 (gmap M γ) n7 → Only [m1] W6 W7 → Ixs w bx m1 m2 K M γ W7) := fun n7 W7 h1 h2 h3 => hI.taken hadd hM M5 on5 M6 on6 h1 h2 h3
  have HF : Hid (n ≤ K ∧ Add M L id p ∧ p.ok ∧ m1 ≠ (γ p).1 ∧ bx ≠ m1) := ⟨hn, hadd, (hI.fit _ (look_mem hlook)).2, fun e => hgl.2.2.2.1.2.1 e, hI.ne.1⟩
  have HR6 : Hid (MapIs W6 66 m1 (gmap L γ) n ∧ W6.heap[bx]? = some (.cells #[.map (some m1), .map (some m2)] 75 (0, 0)) ∧ W6.heap[(γ p).1]? = some (.cells (fcells p.a p.b p.c p.d ++ [Value.map (some (γ p).2)]).toArray 82 (0, 0))) := ⟨R6, B6, G6⟩
  simp only [gptr] at hlk
  obtain ⟨g, hgq⟩ : ∃ g, (γ p).1 = g := ⟨_, rfl⟩
  obtain ⟨m3, hm3⟩ : ∃ g, (γ p).2 = g := ⟨_, rfl⟩
  simp only [hgq, hm3] at hlk hrun6 d0 d6 hl6 HF HR6
  clear hI hadd hM hpL hlook hsome hnsome hgl hGp M5 hg5 on5 G5 N5 M6 hg6 on6 s5 s6 l1 lx G6 B6 hn hgr R6 hc hid hm3
  by_cases hz : cntF M p = 0
  · have hpM : p ∉ fps M := fun h => by have := cntF_pos.2 h; omega
    rw [hz] at hl6
    obtain ⟨Wd, hWd⟩ : ∃ X, W6.drew = X := ⟨_, rfl⟩
    have hdd : Below W6.heap.size W6 Wd := by rw [← hWd]; exact (Below.refl _ W6).drew
    have Rd := HR6.out.1.same (hdd.block _ HR6.out.1.lt)
    have Bd := (hdd.block _ (Array.getElem?_eq_some_iff.1 HR6.out.2.1).1).trans HR6.out.2.1
    have Gd := (hdd.block _ (Array.getElem?_eq_some_iff.1 HR6.out.2.2).1).trans HR6.out.2.2
    obtain ⟨kl, hk⟩ := fp_key HF.out.2.2.1
    obtain ⟨W7, hrun7, M7, hg7⟩ := Rd.drop keyed66 Try.underlying72 hk 0
    rw [gmap_in ((add_fps HF.out.2.1 p).2 (.inr rfl)), del_gmap HF.out.2.1 hpM] at M7
    simp only at M7
    have on7 : Only [m1] Wd W7 := Only.of_grown hg7 (fun r e => by cases e; simp)
    have on67 : Only [m1] W6 W7 := by
      have h0 : Only [m1] W6 Wd := Only.of_below hdd
      exact h0.trans on7 (fun r hr => .inl hr)
    have HA7 : Hid (W.heap.size ≤ W7.heap.size ∧ ∀ k < W.heap.size, Apart bx m1 m2 (fps L) γ k → W7.heap[k]? = W.heap[k]? ∧ Apart bx m1 m2 (fps M) γ k) := HFr.out W7 on67
    have HI7 : Hid (Ixs w bx m1 m2 K M γ W7) := HTk.out _ W7 (by have := HF.out.1; omega) M7 on67
    have hc22 := HLen.out W7 HI7.out
    have HR : Hid (∀ Z, Only [m1] Wd Z → Z.cell? ⟨bx, 0, none⟩ = some (.map (some m1)) ∧ Z.cell? ⟨g, 0, none⟩ = some (.int .i64 p.a.kind) ∧ Z.cell? ⟨g, 1, none⟩ = some (.int .i64 p.a.ar) ∧ Z.cell? ⟨g, 2, none⟩ = some (.string p.a.fn) ∧ Z.cell? ⟨g, 3, none⟩ = some (.int .i64 p.b.kind) ∧ Z.cell? ⟨g, 4, none⟩ = some (.int .i64 p.b.ar) ∧ Z.cell? ⟨g, 5, none⟩ = some (.string p.b.fn) ∧ Z.cell? ⟨g, 6, none⟩ = some (.int .i64 p.c.kind) ∧ Z.cell? ⟨g, 7, none⟩ = some (.int .i64 p.c.ar) ∧ Z.cell? ⟨g, 8, none⟩ = some (.string p.c.fn) ∧ Z.cell? ⟨g, 9, none⟩ = some (.int .i64 p.d.kind) ∧ Z.cell? ⟨g, 10, none⟩ = some (.int .i64 p.d.ar) ∧ Z.cell? ⟨g, 11, none⟩ = some (.string p.d.fn)) := fun Z hZ => by
      have z1 := (hZ.block _ (Array.getElem?_eq_some_iff.1 Bd).1 (by simp; exact HF.out.2.2.2.2)).trans Bd
      have z2 := (hZ.block _ (Array.getElem?_eq_some_iff.1 Gd).1 (by simp; exact fun e => HF.out.2.2.2.1 e.symm)).trans Gd
      refine ⟨by simp [World.cell?, z1], cell_store z2 (i := 0) rfl, cell_store z2 (i := 1) rfl, cell_store z2 (i := 2) rfl, cell_store z2 (i := 3) rfl, cell_store z2 (i := 4) rfl, cell_store z2 (i := 5) rfl, cell_store z2 (i := 6) rfl, cell_store z2 (i := 7) rfl, cell_store z2 (i := 8) rfl, cell_store z2 (i := 9) rfl, cell_store z2 (i := 10) rfl, cell_store z2 (i := 11) rfl⟩
    have HOn : Hid (Only [m1] Wd W7) := on7
    clear hdd Rd Bd Gd M7 hg7 on7 on67 hk hpM HR6 HF
    go_enter Try.func20, Try.ntmps20
    go_wp2_with (first | (refine wpList_delete_run rfl _ _ 73 3 rfl (.map (some m2)) (.int .i64 id) rfl rfl hrun5 ?_) | (refine wpList_delete_run rfl _ _ 80 3 rfl (.map (some m3)) (.int .i64 id) rfl rfl hrun6 ?_))
    clear hlk hrun5 hrun6 d0 d6 hl6 c1
    refine wp_region_held_drew (S := fun Z => Only [m1] Wd Z) (by kernel_rfl) (by rw [hWd]; exact Only.refl _ _) (fun hHeld => ?_)
    rw [hWd] at hHeld ⊢
    refine take_mk 0 (.pointer (some ⟨bx, 0, none⟩)) rfl (by kernel_rfl) (by kernel_rfl) (by kernel_rfl) (fun _ _ _ h => h) (Or.inl ⟨by rfl, fun Z hZ => by go_simp⟩) (by assumption) ?_
    try simp only [Act.put, List.setIfInBounds_toArray, List.set_cons_zero, List.set_cons_succ]
    refine take_mk 1 (.pointer (some ⟨bx, 0, none⟩)) rfl (by kernel_rfl) (by kernel_rfl) (by kernel_rfl) (fun _ _ _ h => h) (Or.inl ⟨by rfl, fun Z hZ => by go_simp⟩) (by assumption) ?_
    try simp only [Act.put, List.setIfInBounds_toArray, List.set_cons_zero, List.set_cons_succ]
    refine take_mk 2 (.pointer (some ⟨bx, 0, none⟩)) rfl (by kernel_rfl) (by kernel_rfl) (by kernel_rfl) (fun _ _ _ h => h) (Or.inl ⟨by rfl, fun Z hZ => by go_simp⟩) (by assumption) ?_
    try simp only [Act.put, List.setIfInBounds_toArray, List.set_cons_zero, List.set_cons_succ]
    refine take_mk 3 (.map (some m1)) rfl (by kernel_rfl) (by kernel_rfl) (by kernel_rfl) (fun _ _ _ h => h) (Or.inl ⟨by rfl, fun Z hZ => by obtain ⟨u, v0, v1, v2, v3, v4, v5, v6, v7, v8, v9, v10, v11⟩ := HR.out Z hZ; go_simp⟩) (by assumption) ?_
    try simp only [Act.put, List.setIfInBounds_toArray, List.set_cons_zero, List.set_cons_succ]
    refine take_mk 4 (.pointer (some ⟨g, 0, none⟩)) rfl (by kernel_rfl) (by kernel_rfl) (by kernel_rfl) (fun _ _ _ h => h) (Or.inl ⟨by rfl, fun Z hZ => by go_simp⟩) (by assumption) ?_
    try simp only [Act.put, List.setIfInBounds_toArray, List.set_cons_zero, List.set_cons_succ]
    refine take_mk 5 (.pointer (some ⟨g, 0, none⟩)) rfl (by kernel_rfl) (by kernel_rfl) (by kernel_rfl) (fun _ _ _ h => h) (Or.inl ⟨by rfl, fun Z hZ => by go_simp⟩) (by assumption) ?_
    try simp only [Act.put, List.setIfInBounds_toArray, List.set_cons_zero, List.set_cons_succ]
    refine take_mk 6 (.pointer (some ⟨g, 0, none⟩)) rfl (by kernel_rfl) (by kernel_rfl) (by kernel_rfl) (fun _ _ _ h => h) (Or.inl ⟨by rfl, fun Z hZ => by go_simp⟩) (by assumption) ?_
    try simp only [Act.put, List.setIfInBounds_toArray, List.set_cons_zero, List.set_cons_succ]
    refine take_mk 7 (.agg (fcells p.a p.b p.c p.d).toArray) rfl (by kernel_rfl) (by kernel_rfl) (by kernel_rfl) (fun _ _ _ h => h) (Or.inl ⟨by rfl, fun Z hZ => by obtain ⟨u, v0, v1, v2, v3, v4, v5, v6, v7, v8, v9, v10, v11⟩ := HR.out Z hZ; go_simp⟩) (by assumption) ?_
    try simp only [Act.put, List.setIfInBounds_toArray, List.set_cons_zero, List.set_cons_succ]
    refine wpAnyH_ready (rs := [8]) (by kernel_rfl) (by simp) (AllReadyH.cons (o := ⟨_, _, _, _, _, _⟩) rfl (fun KK hK => ?_) AllReadyH.nil)
    rw [if_pos (by rfl)]
    refine wp_delete_run _ _ 72 66 rfl (.map (some m1)) (.agg (fcells p.a p.b p.c p.d).toArray) rfl rfl hrun7 ?_
    refine hK.out _ _ HOn.out (fun _ => ?_)
    clear hK
    refine wpAnyH_done (by kernel_rfl) ?_ _
    try simp only [Act.put]
    clear hrun7 hHeld HR HOn
    go_wp2_with fail
    refine hc22.mono ?_
    rintro e W8 ⟨rfl, b8⟩
    have HI8 : Hid (Ixs w bx m1 m2 K M γ W8) := HI7.out.keep b8
    have HA8 : Hid (W.heap.size ≤ W8.heap.size ∧ ∀ k < W.heap.size, Apart bx m1 m2 (fps L) γ k → W8.heap[k]? = W.heap[k]? ∧ Apart bx m1 m2 (fps M) γ k) := ⟨by have := b8.size; have := HA7.out.1; omega, fun k hk hA => ⟨(b8.block k (by have := HA7.out.1; omega)).trans (HA7.out.2 k hk hA).1, (HA7.out.2 k hk hA).2⟩⟩
    clear b8 hc22
    by_cases h0 : M.length = 0
    · have hc38 := empty_any W8
      have h0i : (M.length : Int) = 0 := by omega
      go_wp2_with fail
      refine hc38.mono ?_
      rintro e W9 ⟨rfl, b9, m66, m3'⟩
      obtain ⟨W4, hrun4, HI4, hA4⟩ := HEnd.out W8 W9 HI8.out h0 b9 m66 m3'
      have HA9 : Hid (∀ k < W.heap.size, Apart bx m1 m2 (fps L) γ k → W4.heap[k]? = W.heap[k]? ∧ Apart bx (W8.heap.size + 1) (W8.heap.size + 2) (fps M) γ k) := fun k hk hA => by
        obtain ⟨q1, q2⟩ := hA4 k (by have := HA8.out.1; omega) (HA8.out.2 k hk hA).2
        exact ⟨q1.trans (HA8.out.2 k hk hA).1, q2⟩
      have HI4' : Hid (Ixs w bx (W8.heap.size + 1) (W8.heap.size + 2) K M γ W4) := HI4
      clear b9 m66 m3' HI4 hc38 hA4
      go_wp2_with (first | (refine wpList_store_run rfl 75 _ _ rfl (.pointer (some ⟨bx, 0, none⟩)) (.agg #[.map (some (W8.heap.size + 1)), .map (some (W8.heap.size + 2))]) rfl rfl hrun4 ?_))
      go_ret
      exact ⟨_, _, rfl, HI4'.out, HA9.out⟩
    · have h0i : ¬ (M.length : Int) = 0 := by omega
      go_wp2
      go_ret
      exact ⟨_, _, rfl, HI8.out, HA8.out.2⟩
  · have hpM : p ∈ fps M := cntF_pos.1 (by omega)
    have hfm : ∀ q, q ∈ fps L ↔ q ∈ fps M := fun q => by
      rw [add_fps HF.out.2.1]
      exact ⟨fun h => h.elim (fun h => h) (fun h => h ▸ hpM), .inl⟩
    have R6 := HR6.out.1
    rw [gmap_same hfm] at R6
    have HA7 : Hid (W.heap.size ≤ W6.heap.size ∧ ∀ k < W.heap.size, Apart bx m1 m2 (fps L) γ k → W6.heap[k]? = W.heap[k]? ∧ Apart bx m1 m2 (fps M) γ k) := HFr.out W6 (Only.refl _ _)
    have HI7 : Hid (Ixs w bx m1 m2 K M γ W6) := HTk.out _ W6 HF.out.1 R6 (Only.refl _ _)
    have hc22 := HLen.out W6 HI7.out
    obtain ⟨cn, hcn⟩ : ∃ c, cntF M p = c := ⟨_, rfl⟩
    rw [hcn] at hl6 hz
    have hzi : ¬ (cn : Int) = 0 := by omega
    clear R6 hfm hpM HR6 HF hcn
    go_enter Try.func20, Try.ntmps20
    go_wp2_with (first | (refine wpList_delete_run rfl _ _ 73 3 rfl (.map (some m2)) (.int .i64 id) rfl rfl hrun5 ?_) | (refine wpList_delete_run rfl _ _ 80 3 rfl (.map (some m3)) (.int .i64 id) rfl rfl hrun6 ?_))
    refine hc22.mono ?_
    rintro e W8 ⟨rfl, b8⟩
    have HI8 : Hid (Ixs w bx m1 m2 K M γ W8) := HI7.out.keep b8
    have HA8 : Hid (W.heap.size ≤ W8.heap.size ∧ ∀ k < W.heap.size, Apart bx m1 m2 (fps L) γ k → W8.heap[k]? = W.heap[k]? ∧ Apart bx m1 m2 (fps M) γ k) := ⟨by have := b8.size; have := HA7.out.1; omega, fun k hk hA => ⟨(b8.block k (by have := HA7.out.1; omega)).trans (HA7.out.2 k hk hA).1, (HA7.out.2 k hk hA).2⟩⟩
    clear b8 hc22
    by_cases h0 : M.length = 0
    · have hc38 := empty_any W8
      have h0i : (M.length : Int) = 0 := by omega
      go_wp2_with fail
      refine hc38.mono ?_
      rintro e W9 ⟨rfl, b9, m66, m3'⟩
      obtain ⟨W4, hrun4, HI4, hA4⟩ := HEnd.out W8 W9 HI8.out h0 b9 m66 m3'
      have HA9 : Hid (∀ k < W.heap.size, Apart bx m1 m2 (fps L) γ k → W4.heap[k]? = W.heap[k]? ∧ Apart bx (W8.heap.size + 1) (W8.heap.size + 2) (fps M) γ k) := fun k hk hA => by
        obtain ⟨q1, q2⟩ := hA4 k (by have := HA8.out.1; omega) (HA8.out.2 k hk hA).2
        exact ⟨q1.trans (HA8.out.2 k hk hA).1, q2⟩
      have HI4' : Hid (Ixs w bx (W8.heap.size + 1) (W8.heap.size + 2) K M γ W4) := HI4
      clear b9 m66 m3' HI4 hc38 hA4
      go_wp2_with (first | (refine wpList_store_run rfl 75 _ _ rfl (.pointer (some ⟨bx, 0, none⟩)) (.agg #[.map (some (W8.heap.size + 1)), .map (some (W8.heap.size + 2))]) rfl rfl hrun4 ?_))
      go_ret
      exact ⟨_, _, rfl, HI4'.out, HA9.out⟩
    · have h0i : ¬ (M.length : Int) = 0 := by omega
      go_wp2
      go_ret
      exact ⟨_, _, rfl, HI8.out, HA8.out.2⟩

end Go.Proofs.Ytiklbkkimmgbcaa
