/-
  Joining two nodes.
-/
import Derived.Test.YtiklbkkimmgbcaaHC
namespace Go.Proofs.Ytiklbkkimmgbcaa
open Go.RowKit

theorem Try.info101z : (Try.prog.info? 101).map (·.size) = some 4 := by kernel_rfl

/-- A node's cells. -/
def ncs (v : Int) (f : ByteArray) (s : Value) (u : Nat) : List Value := [.int .i64 v, .string f, s, .int .i64 (u : Nat)]
abbrev nval (v : Int) (f : ByteArray) (s : Value) (u : Nat) : Value := .agg #[.int .i64 v, .string f, s, .int .i64 (u : Nat)]
theorem ones4 (v : Int) (f : ByteArray) (a : Option Addr) (n c u : Nat) : ∀ x ∈ ncs v f (.slice a n c) u, x.oneCell' = true := by
  intro x hx
  simp only [ncs, List.mem_cons, List.not_mem_nil, or_false] at hx
  rcases hx with rfl | rfl | rfl | rfl <;> rfl

theorem ko {B : List Nat} {W Z : World} (h : Only B W Z) {b o : Nat} {v : Value} (hb : b < W.heap.size) (hn : b ∉ B) (hc : W.cell? ⟨b, o, none⟩ = some v) : Z.cell? ⟨b, o, none⟩ = some v := by
  rw [← hc]
  simp [World.cell?, h.block b hb hn]
theorem cell_at {W : World} {b o : Nat} {l : Array Value} {ty : TypeId} {v : Value} (h : W.heap[b]? = some (.cells l ty (0, 0))) (hv : l[o]? = some v) : W.cell? ⟨b, o, none⟩ = some v := by
  simp [World.cell?, h, hv]

theorem Net.arg {W : World} {B g c : Nat} {N : List Nd} {up : Nat → Nat} {av : Nat → Value} (h : Net W B g c N up av) {i : Nat} {d : Nd} (hi : N[i]? = some d) : ∃ a cc, av i = .slice a d.args.length cc ∧ d.args.length ≤ 9223372036854775807 ∧ ∀ k (hk : k < d.args.length), ∃ bb o, a = some ⟨bb, o, none⟩ ∧ bb < W.heap.size ∧ bb ≠ g ∧ bb ≠ B ∧ W.cell? ⟨bb, o + k, none⟩ = some (.int .i64 (d.args[k] : Nat)) := by
  obtain ⟨hl, rfl⟩ := List.getElem?_eq_some_iff.1 hi
  have ha := h.args i hl
  obtain ⟨a, cc, e⟩ := ha.slice
  rw [List.length_map] at e
  have hlen : N[i].args.length ≤ 9223372036854775807 := by
    obtain ⟨_, c2, _, h1, h2, _⟩ := ha
    rw [List.length_map] at h1
    omega
  refine ⟨a, cc, e, hlen, fun k hk => ?_⟩
  rw [e] at ha
  obtain ⟨bb, o, h1, h2, h3, h4⟩ := ha.nth (i := k) (by simpa using hk)
  exact ⟨bb, o, h1, h2, h3.1, h3.2, by rw [h4, List.getElem_map]; rfl⟩

theorem Net.kept {W W' : World} {B g c : Nat} {N : List Nd} {up : Nat → Nat} {av : Nat → Value} (h : Net W B g c N up av) {n : Nat} (hb : Below n W W') (hn : W.heap.size ≤ n) : Net W' B g c N up av := h.keep (hb.mono hn)

/-- What joining gives. -/
def JoinP (W : World) (B g c : Nat) (N : List Nd) (ρ : Nat → Nat) (av : Nat → Value) (a b : Nat) (e : Ending) (W' : World) : Prop :=
  ∃ (z : Bool) (up' ρ' r' : Nat → Nat) (K' : Nat), e = .returned (.bool z) ∧ Net W' B g c N up' av ∧ Up N.length up' ρ' r' K' ∧ Tp N ρ' ∧ Only [g] W W' ∧ tops ρ' N.length ≤ tops ρ N.length ∧
    (z = true → (∀ P, Jn N ρ ((a, b) :: P) → Jn N ρ' P) ∧ (∀ i j, ρ i = ρ j → ρ' i = ρ' j) ∧ ρ' a = ρ' b)

theorem joinP_no {W W' : World} {B g c : Nat} {N : List Nd} {up ρ r : Nat → Nat} {K : Nat} {av : Nat → Value} {a b : Nat} (hN : Net W' B g c N up av) (hU : Up N.length up ρ r K) (hT : Tp N ρ) (hO : Only [g] W W') : JoinP W B g c N ρ av a b (.returned (.bool false)) W' :=
  ⟨false, up, ρ, r, K, rfl, hN, hU, hT, hO, Nat.le_refl _, fun h => by cases h⟩

theorem joinP_same {W W' : World} {B g c : Nat} {N : List Nd} {up ρ r : Nat → Nat} {K : Nat} {av : Nat → Value} {a b : Nat} (hN : Net W' B g c N up av) (hU : Up N.length up ρ r K) (hT : Tp N ρ) (hO : Only [g] W W') (hs : ρ a = ρ b) : JoinP W B g c N ρ av a b (.returned (.bool true)) W' :=
  ⟨true, up, ρ, r, K, rfl, hN, hU, hT, hO, Nat.le_refl _, fun _ => ⟨fun _ h => h.done hs, fun _ _ h => h, hs⟩⟩

/-- Class q, without functions, goes under p. -/
theorem joinP_var {W W' : World} {B g c : Nat} {N : List Nd} {up ρ r : Nat → Nat} {K : Nat} {av : Nat → Value} {a b p q : Nat} (hN : Net W' B g c N up av) (hU : Up N.length up ρ r K) (hT : Tp N ρ) (hO : Only [g] W W') (hp : ρ a = p ∧ ρ b = q ∨ ρ a = q ∧ ρ b = p) (hpp : ρ p = p) (hqq : ρ q = q) (hpl : p < N.length) (hql : q < N.length) (hne : p ≠ q) (hq : ¬ Fn N q) : JoinP W B g c N ρ av a b (.returned (.bool true)) (W'.setCell ⟨g, q * 4 + 3, none⟩ (.int .i64 (p : Nat))) := by
  obtain ⟨r', hU'⟩ := hU.link hpl hql hpp hqq hne (fun i _ => hT.idem i)
  refine ⟨true, upd1 up q p, lk ρ q p, r', K + 1, rfl, hN.set hql p, hU', lk_top hT hpp hpl (fun h => absurd h hq), hO.trans (only_setCell _ _ _ _) (fun r hr => .inl hr), Nat.le_of_lt (lk_tops hqq hql hne hpp), fun _ => ⟨fun P h => h.var hT hp hpp hq, fun i j h => lk_same h, ?_⟩⟩
  rcases hp with ⟨h1, h2⟩ | ⟨h1, h2⟩
  · exact lk_pair h1 h2
  · exact (lk_pair h2 h1).symm

theorem not_fn {N : List Nd} {i : Nat} {d : Nd} (h : N[i]? = some d) (h0 : d.fn.size = 0) : ¬ Fn N i := by
  rintro ⟨d', h', hf⟩
  rw [h] at h'
  cases h'
  exact hf h0

/-- What the loop over the arguments keeps. -/
def JoinL (W W' : World) (B g c : Nat) (N : List Nd) (ρ : Nat → Nat) (av : Nat → Value) (a b m : Nat) (zs : List (Nat × Nat)) : Prop :=
  ∃ (up' ρ' r' : Nat → Nat) (K' : Nat), Net W' B g c N up' av ∧ Up N.length up' ρ' r' K' ∧ Tp N ρ' ∧ Only [g] W W' ∧ tops ρ' N.length < m ∧ tops ρ' N.length ≤ tops ρ N.length ∧
    (∀ P, Jn N ρ ((a, b) :: P) → Jn N ρ' (zs ++ P)) ∧ (∀ i j, ρ i = ρ j → ρ' i = ρ' j) ∧ ρ' a = ρ' b

theorem joinL_first {W W' : World} {B g c : Nat} {N : List Nd} {up ρ r : Nat → Nat} {K : Nat} {av : Nat → Value} {a b p q m : Nat} (hN : Net W' B g c N up av) (hU : Up N.length up ρ r K) (hT : Tp N ρ) (hO : Only [g] W W') (h1 : ρ a = p) (h2 : ρ b = q) (hpp : ρ p = p) (hqq : ρ q = q) (hpl : p < N.length) (hql : q < N.length) (hne : p ≠ q) {dp dq : Nd} (hp : N[p]? = some dp) (hq : N[q]? = some dq) (hfp : dp.fn.size ≠ 0) (hfq : dq.fn.size ≠ 0) (hfn : dp.fn = dq.fn) (hl : dp.args.length = dq.args.length) (hm : tops ρ N.length < m + 1) : JoinL W (W'.setCell ⟨g, q * 4 + 3, none⟩ (.int .i64 (p : Nat))) B g c N ρ av a b m (dp.args.zip dq.args) := by
  obtain ⟨r', hU'⟩ := hU.link hpl hql hpp hqq hne (fun i _ => hT.idem i)
  have ht := lk_tops (ρ := ρ) hqq hql hne hpp
  exact ⟨upd1 up q p, lk ρ q p, r', K + 1, hN.set hql p, hU', lk_top hT hpp hpl (fun _ => ⟨dp, hp, hfp⟩), hO.trans (only_setCell _ _ _ _) (fun r hr => .inl hr), by omega, Nat.le_of_lt ht, fun P h => h.fns h1 h2 hpp hqq hp hq hfp hfq hfn hl, fun i j h => lk_same h, lk_pair h1 h2⟩

theorem joinL_next {W W1 W' : World} {B g c : Nat} {N : List Nd} {ρ ρ1 : Nat → Nat} {av : Nat → Value} {a b m x y : Nat} {zs : List (Nat × Nat)} (hO : Only [g] W W1) (ht : tops ρ1 N.length < m) (ht2 : tops ρ1 N.length ≤ tops ρ N.length) (hJ : ∀ P, Jn N ρ ((a, b) :: P) → Jn N ρ1 ((x, y) :: zs ++ P)) (hS : ∀ i j, ρ i = ρ j → ρ1 i = ρ1 j) (hab : ρ1 a = ρ1 b) (h : JoinP W1 B g c N ρ1 av x y (.returned (.bool true)) W') : JoinL W W' B g c N ρ av a b m zs := by
  obtain ⟨z, up', ρ', r', K', e, hN, hU, hT, hO', ht', hz⟩ := h
  cases e
  obtain ⟨j1, j2, j3⟩ := hz rfl
  exact ⟨up', ρ', r', K', hN, hU, hT, hO.trans hO' (fun r hr => .inl hr), by omega, by omega, fun P h => j1 _ (hJ P h), fun i j h => j2 i j (hS i j h), j2 _ _ hab⟩

theorem joinL_out {W W1 W' : World} {B g c : Nat} {N : List Nd} {ρ ρ1 : Nat → Nat} {av : Nat → Value} {a b x y : Nat} (hO : Only [g] W W1) (ht2 : tops ρ1 N.length ≤ tops ρ N.length) (h : JoinP W1 B g c N ρ1 av x y (.returned (.bool false)) W') : JoinP W B g c N ρ av a b (.returned (.bool false)) W' := by
  obtain ⟨z, up', ρ', r', K', e, hN, hU, hT, hO', ht', hz⟩ := h
  cases e
  exact ⟨false, up', ρ', r', K', rfl, hN, hU, hT, hO.trans hO' (fun r hr => .inl hr), by omega, fun h => by cases h⟩

theorem joinL_done {W W' : World} {B g c : Nat} {N : List Nd} {ρ : Nat → Nat} {av : Nat → Value} {a b m : Nat} (h : JoinL W W' B g c N ρ av a b m []) : JoinP W B g c N ρ av a b (.returned (.bool true)) W' := by
  obtain ⟨up', ρ', r', K', hN, hU, hT, hO, _, ht, hJ, hS, hab⟩ := h
  exact ⟨true, up', ρ', r', K', rfl, hN, hU, hT, hO, ht, fun _ => ⟨hJ, hS, hab⟩⟩

theorem JoinP.bool {W W' : World} {B g c : Nat} {N : List Nd} {ρ : Nat → Nat} {av : Nat → Value} {a b : Nat} {e : Ending} (h : JoinP W B g c N ρ av a b e W') : ∃ z : Bool, e = .returned (.bool z) ∧ Only [g] W W' := by
  obtain ⟨z, _, _, _, _, e, _, _, _, hO, _⟩ := h
  exact ⟨z, e, hO⟩

set_option maxRecDepth 100000 in
set_option maxHeartbeats 16000000 in
theorem join_any {B g c : Nat} {N : List Nd} {av : Nat → Value} : ∀ (m : Nat) (up ρ r : Nat → Nat) (K : Nat) (W : World) (a b : Nat), tops ρ N.length < m → Net W B g c N up av → Up N.length up ρ r K → Tp N ρ → a < N.length → b < N.length →
    Calls Try.prog 50 #[.pointer (some ⟨B, 0, none⟩), .int .i64 (a : Nat), .int .i64 (b : Nat)] W (JoinP W B g c N ρ av a b) := by
  intro m
  induction m with
  | zero => intro up ρ r K W a b hm; exact absurd hm (Nat.not_lt_zero _)
  | succ m ih =>
  intro up ρ r K W a b hm hN hU hT ha hb
  have h52 := top_any W hN hU a ha
  have HM : Hid (tops ρ N.length < m + 1) := hm
  have HU : Hid (Up N.length up ρ r K) := hU
  have HT : Hid (Tp N ρ) := hT
  have HN : Hid (∀ Z, Below W.heap.size W Z → Net Z B g c N up av) := fun Z hZ => hN.keep hZ
  have HL0 : Hid (a < N.length ∧ b < N.length) := ⟨ha, hb⟩
  clear hm hN hU hT ha hb
  go_enter Try.func50, Try.ntmps50
  go_wp2_with fail
  refine h52.mono ?_
  rintro e W1 ⟨rfl, b1⟩
  have h53 := top_any W1 (HN.out W1 b1) HU.out b HL0.out.2
  clear h52
  go_wp2_with fail
  refine h53.mono ?_
  rintro e W2 ⟨rfl, b2⟩
  have HB2 : Hid (Below W.heap.size W W2) := b1.trans (b2.mono b1.size)
  have HN2 : Hid (Net W2 B g c N up av) := HN.out W2 HB2.out
  obtain ⟨p, hp⟩ : ∃ p, ρ a = p := ⟨_, rfl⟩
  obtain ⟨q, hq⟩ : ∃ q, ρ b = q := ⟨_, rfl⟩
  have HP : Hid (ρ a = p ∧ ρ b = q ∧ ρ p = p ∧ ρ q = q ∧ p < N.length ∧ q < N.length ∧ True) := by
    refine ⟨hp, hq, ?_, ?_, ?_, ?_, trivial⟩
    · rw [← hp]; exact HT.out.idem a
    · rw [← hq]; exact HT.out.idem b
    · rw [← hp]; exact HT.out.lt a HL0.out.1
    · rw [← hq]; exact HT.out.lt b HL0.out.2
  rw [hp, hq]
  clear b1 b2 h53 hp hq HN
  by_cases hne : p = q
  · subst hne
    go_wp2
    refine bodyPost_ret (v := .bool true) (by simp [results, Try.results50, go_sem]) rfl ?_
    exact joinP_same HN2.out HU.out HT.out (Only.of_below HB2.out) (HP.out.1.trans HP.out.2.1.symm)
  have hneI : ¬ ((p : Int) = (q : Int)) := by omega
  have hpI : (p : Int) < (N.length : Int) := by have := HP.out.2.2.2.2.1; omega
  have hqI : (q : Int) < (N.length : Int) := by have := HP.out.2.2.2.2.2.1; omega
  have hp0 : (0 : Int) ≤ (p : Int) := by omega
  have hq0 : (0 : Int) ≤ (q : Int) := by omega
  obtain ⟨dp, hdp⟩ : ∃ d, N[p]? = some d := ⟨_, List.getElem?_eq_getElem HP.out.2.2.2.2.1⟩
  obtain ⟨dq, hdq⟩ : ∃ d, N[q]? = some d := ⟨_, List.getElem?_eq_getElem HP.out.2.2.2.2.2.1⟩
  have HD : Hid (N[p]? = some dp ∧ N[q]? = some dq) := ⟨hdp, hdq⟩
  obtain ⟨pa, pc, epa, hpm, _⟩ := HN2.out.arg hdp
  obtain ⟨qa, qc, eqa, hqm, _⟩ := HN2.out.arg hdq
  have HV : Hid (av p = .slice pa dp.args.length pc ∧ av q = .slice qa dq.args.length qc) := ⟨epa, eqa⟩
  have ep : N[p]'HP.out.2.2.2.2.1 = dp := (List.getElem?_eq_some_iff.1 hdp).2
  have eq : N[q]'HP.out.2.2.2.2.2.1 = dq := (List.getElem?_eq_some_iff.1 hdq).2
  have HB : Hid ((∀ k (hk : k < dp.args.length), dp.args[k] < N.length) ∧ (∀ k (hk : k < dq.args.length), dq.args[k] < N.length)) := by
    refine ⟨fun k hk => ?_, fun k hk => ?_⟩
    · exact HN2.out.below p HP.out.2.2.2.2.1 _ (by rw [ep]; exact List.getElem_mem hk)
    · exact HN2.out.below q HP.out.2.2.2.2.2.1 _ (by rw [eq]; exact List.getElem_mem hk)
  obtain ⟨u1, hu1⟩ : ∃ u, up p = u := ⟨_, rfl⟩
  obtain ⟨u2, hu2⟩ : ∃ u, up q = u := ⟨_, rfl⟩
  have HX : Hid (∀ Z, Below W2.heap.size W2 Z → Z.cell? ⟨B, 0, none⟩ = some (.slice (some ⟨g, 0, none⟩) N.length c) ∧ (Z.cell? ⟨g, p * 4, none⟩ = some (.int .i64 dp.v) ∧ Z.cell? ⟨g, p * 4 + 1, none⟩ = some (.string dp.fn) ∧ Z.cell? ⟨g, p * 4 + 2, none⟩ = some (.slice pa dp.args.length pc) ∧ Z.cell? ⟨g, p * 4 + 3, none⟩ = some (.int .i64 (u1 : Nat))) ∧ Z.cell? ⟨g, q * 4, none⟩ = some (.int .i64 dq.v) ∧ Z.cell? ⟨g, q * 4 + 1, none⟩ = some (.string dq.fn) ∧ Z.cell? ⟨g, q * 4 + 2, none⟩ = some (.slice qa dq.args.length qc) ∧ Z.cell? ⟨g, q * 4 + 3, none⟩ = some (.int .i64 (u2 : Nat))) := fun Z hZ => by
    have hn := HN2.out.keep hZ
    obtain ⟨k0, k1, k2, k3, _⟩ := hn.cells HP.out.2.2.2.2.1
    obtain ⟨l0, l1, l2, l3, _⟩ := hn.cells HP.out.2.2.2.2.2.1
    rw [ep] at k0 k1
    rw [eq] at l0 l1
    rw [epa] at k2
    rw [eqa] at l2
    rw [hu1] at k3
    rw [hu2] at l3
    exact ⟨hn.bcell.1, ⟨k0, k1, k2, k3⟩, l0, l1, l2, l3⟩
  obtain ⟨Wd, hWd⟩ : ∃ X, W2.drew = X := ⟨_, rfl⟩
  have hd : Below W2.heap.size W2 Wd := by rw [← hWd]; exact (Below.refl _ W2).drew
  have HDw : Hid (Below W2.heap.size W2 Wd) := hd
  clear epa eqa ep eq hu1 hu2 hdp hdq hd
  go_wp2
  refine wp_region_held_drew (S := fun Z => Below W2.heap.size W2 Z) (by kernel_rfl) (by rw [hWd]; exact HDw.out) (fun hHeld => ?_)
  rw [hWd] at hHeld ⊢
  refine take_mk 0 (.pointer (some ⟨B, 0, none⟩)) rfl (by kernel_rfl) (by kernel_rfl) (by kernel_rfl) (fun _ _ _ h => h) (Or.inl ⟨by rfl, fun Z hZ => by go_simp⟩) (by assumption) ?_
  try simp only [Act.put, List.setIfInBounds_toArray, List.set_cons_zero, List.set_cons_succ]
  refine take_mk 1 (.pointer (some ⟨B, 0, none⟩)) rfl (by kernel_rfl) (by kernel_rfl) (by kernel_rfl) (fun _ _ _ h => h) (Or.inl ⟨by rfl, fun Z hZ => by go_simp⟩) (by assumption) ?_
  try simp only [Act.put, List.setIfInBounds_toArray, List.set_cons_zero, List.set_cons_succ]
  refine take_mk 2 (.pointer (some ⟨B, 0, none⟩)) rfl (by kernel_rfl) (by kernel_rfl) (by kernel_rfl) (fun _ _ _ h => h) (Or.inl ⟨by rfl, fun Z hZ => by go_simp⟩) (by assumption) ?_
  try simp only [Act.put, List.setIfInBounds_toArray, List.set_cons_zero, List.set_cons_succ]
  refine take_mk 3 (.slice (some ⟨g, 0, none⟩) N.length c) rfl (by kernel_rfl) (by kernel_rfl) (by kernel_rfl) (fun _ _ _ h => h) (Or.inl ⟨by rfl, fun Z hZ => by obtain ⟨cb, ⟨y0, y1, y2, y3⟩, _⟩ := HX.out Z hZ; go_simp⟩) (by assumption) ?_
  try simp only [Act.put, List.setIfInBounds_toArray, List.set_cons_zero, List.set_cons_succ]
  refine take_mk 4 (.int .i64 (p : Nat)) rfl (by kernel_rfl) (by kernel_rfl) (by kernel_rfl) (fun _ _ _ h => h) (Or.inl ⟨by rfl, fun Z hZ => by go_simp⟩) (by assumption) ?_
  try simp only [Act.put, List.setIfInBounds_toArray, List.set_cons_zero, List.set_cons_succ]
  refine take_mk 5 (.pointer (some ⟨g, p * 4, none⟩)) rfl (by kernel_rfl) (by kernel_rfl) (by kernel_rfl) (fun _ _ _ h => h) (Or.inl ⟨by rfl, fun Z hZ => by go_simp⟩) (by assumption) ?_
  try simp only [Act.put, List.setIfInBounds_toArray, List.set_cons_zero, List.set_cons_succ]
  refine take_mk 6 (nval dp.v dp.fn (.slice pa dp.args.length pc) u1) rfl (by kernel_rfl) (by kernel_rfl) (by kernel_rfl) (fun _ _ _ h => h) (Or.inl ⟨by rfl, fun Z hZ => by obtain ⟨cb, ⟨y0, y1, y2, y3⟩, _⟩ := HX.out Z hZ; go_simp⟩) (by assumption) ?_
  try simp only [Act.put, List.setIfInBounds_toArray, List.set_cons_zero, List.set_cons_succ]
  refine take_mk 7 (.pointer (some ⟨B, 0, none⟩)) rfl (by kernel_rfl) (by kernel_rfl) (by kernel_rfl) (fun _ _ _ h => h) (Or.inl ⟨by rfl, fun Z hZ => by go_simp⟩) (by assumption) ?_
  try simp only [Act.put, List.setIfInBounds_toArray, List.set_cons_zero, List.set_cons_succ]
  refine take_mk 8 (.pointer (some ⟨B, 0, none⟩)) rfl (by kernel_rfl) (by kernel_rfl) (by kernel_rfl) (fun _ _ _ h => h) (Or.inl ⟨by rfl, fun Z hZ => by go_simp⟩) (by assumption) ?_
  try simp only [Act.put, List.setIfInBounds_toArray, List.set_cons_zero, List.set_cons_succ]
  refine take_mk 9 (.pointer (some ⟨B, 0, none⟩)) rfl (by kernel_rfl) (by kernel_rfl) (by kernel_rfl) (fun _ _ _ h => h) (Or.inl ⟨by rfl, fun Z hZ => by go_simp⟩) (by assumption) ?_
  try simp only [Act.put, List.setIfInBounds_toArray, List.set_cons_zero, List.set_cons_succ]
  refine take_mk 10 (.slice (some ⟨g, 0, none⟩) N.length c) rfl (by kernel_rfl) (by kernel_rfl) (by kernel_rfl) (fun _ _ _ h => h) (Or.inl ⟨by rfl, fun Z hZ => by obtain ⟨cb, _, y0, y1, y2, y3⟩ := HX.out Z hZ; go_simp⟩) (by assumption) ?_
  try simp only [Act.put, List.setIfInBounds_toArray, List.set_cons_zero, List.set_cons_succ]
  refine take_mk 11 (.int .i64 (q : Nat)) rfl (by kernel_rfl) (by kernel_rfl) (by kernel_rfl) (fun _ _ _ h => h) (Or.inl ⟨by rfl, fun Z hZ => by go_simp⟩) (by assumption) ?_
  try simp only [Act.put, List.setIfInBounds_toArray, List.set_cons_zero, List.set_cons_succ]
  refine take_mk 12 (.pointer (some ⟨g, q * 4, none⟩)) rfl (by kernel_rfl) (by kernel_rfl) (by kernel_rfl) (fun _ _ _ h => h) (Or.inl ⟨by rfl, fun Z hZ => by go_simp⟩) (by assumption) ?_
  try simp only [Act.put, List.setIfInBounds_toArray, List.set_cons_zero, List.set_cons_succ]
  refine take_mk 13 (nval dq.v dq.fn (.slice qa dq.args.length qc) u2) rfl (by kernel_rfl) (by kernel_rfl) (by kernel_rfl) (fun _ _ _ h => h) (Or.inl ⟨by rfl, fun Z hZ => by obtain ⟨cb, _, y0, y1, y2, y3⟩ := HX.out Z hZ; go_simp⟩) (by assumption) ?_
  try simp only [Act.put, List.setIfInBounds_toArray, List.set_cons_zero, List.set_cons_succ]
  obtain ⟨V1, hV1⟩ : ∃ X, Wd.alloc (.cells #[.int .i64 0, .string ⟨#[]⟩, .slice none 0 0, .int .i64 0] 101) = X := ⟨_, rfl⟩
  obtain ⟨V2, hV2⟩ : ∃ X, V1.alloc (.cells #[.int .i64 0, .string ⟨#[]⟩, .slice none 0 0, .int .i64 0] 101) = X := ⟨_, rfl⟩
  have q1 : Below Wd.heap.size Wd V1 := by rw [← hV1]; exact below_box _ _
  have q2 : Below V1.heap.size V1 V2 := by rw [← hV2]; exact below_box _ _
  obtain ⟨n0, hn0⟩ : ∃ n, Wd.heap.size = n := ⟨_, rfl⟩
  have hn1 : V1.heap.size = n0 + 1 := by rw [← hV1]; simp [hn0]
  have hn2 : V2.heap.size = n0 + 2 := by rw [← hV2]; simp [hn1]
  have B1 : Below W2.heap.size W2 V1 := HDw.out.trans (q1.mono HDw.out.size)
  have B2 : Below W2.heap.size W2 V2 := B1.trans (q2.mono B1.size)
  have hw0 : W2.heap.size ≤ n0 := by have := HDw.out.size; omega
  have Z0 : V2.heap[n0]? = some (.cells #[.int .i64 0, .string ⟨#[]⟩, .slice none 0 0, .int .i64 0] 101 (0, 0)) := by rw [q2.block _ (by omega), ← hV1, ← hn0]; exact (MapKept.heap_alloc _ _).1
  have Z1 : V2.heap[n0 + 1]? = some (.cells #[.int .i64 0, .string ⟨#[]⟩, .slice none 0 0, .int .i64 0] 101 (0, 0)) := by rw [← hV2, ← hn1]; exact (MapKept.heap_alloc _ _).1
  clear q1 q2
  refine wpAnyH_ready (rs := [14, 15]) (by kernel_rfl) (by simp) (AllReadyH.cons (o := ⟨_, _, _, _, _, _⟩) rfl (fun K hK => ?_) (AllReadyH.cons (o := ⟨_, _, _, _, _, _⟩) rfl (fun K hK => ?_) AllReadyH.nil))
  · rw [if_pos (by rfl)]
    go_simp
    try rw [hV1]
    refine hK.out _ _ B1 (fun _ => ?_)
    clear hK K
    try simp only [Act.put, List.setIfInBounds_toArray, List.set_cons_zero, List.set_cons_succ]
    refine wpAnyH_ready (rs := [15]) (by kernel_rfl) (by simp) (AllReadyH.cons (o := ⟨_, _, _, _, _, _⟩) rfl (fun K hK => ?_) AllReadyH.nil)
    rw [if_pos (by rfl)]
    go_simp
    try rw [hV2]
    refine hK.out _ _ B2 (fun _ => ?_)
    clear hK K
    try simp only [Act.put, List.setIfInBounds_toArray, List.set_cons_zero, List.set_cons_succ]
    try rw [hn0]
    try rw [hn1]
    obtain ⟨V3, hrun3, hx3, hon3⟩ := agg_store 101 V2 n0 #[.int .i64 0, .string ⟨#[]⟩, .slice none 0 0, .int .i64 0] (ncs dp.v dp.fn (.slice pa dp.args.length pc) u1) Z0 rfl Try.info101z (ones4 _ _ _ _ _ _)
    obtain ⟨W9, hrun4, hx4, hon4⟩ := agg_store 101 V3 (n0 + 1) #[.int .i64 0, .string ⟨#[]⟩, .slice none 0 0, .int .i64 0] (ncs dq.v dq.fn (.slice qa dq.args.length qc) u2) (by rw [hon3.block _ (by omega) (by simp)]; exact Z1) rfl Try.info101z (ones4 _ _ _ _ _ _)
    have B3 : Below W2.heap.size W2 V3 := B2.trans (hon3.below B2.size (by simp; omega))
    have B9 : Below W2.heap.size W2 W9 := B3.trans (hon4.below B3.size (by simp; omega))
    refine wpAnyH_ready (rs := [16]) (by kernel_rfl) (by simp) (AllReadyH.cons (o := ⟨_, _, _, _, _, _⟩) rfl (fun K hK => ?_) AllReadyH.nil)
    rw [if_pos (by rfl)]
    refine wp_store_run 101 _ _ rfl (.pointer (some ⟨n0, 0, none⟩)) (nval dp.v dp.fn (.slice pa dp.args.length pc) u1) rfl rfl hrun3 ?_
    refine hK.out _ _ B3 (fun _ => ?_)
    clear hK K
    refine wpAnyH_ready (rs := [17]) (by kernel_rfl) (by simp) (AllReadyH.cons (o := ⟨_, _, _, _, _, _⟩) rfl (fun K hK => ?_) AllReadyH.nil)
    rw [if_pos (by rfl)]
    refine wp_store_run 101 _ _ rfl (.pointer (some ⟨n0 + 1, 0, none⟩)) (nval dq.v dq.fn (.slice qa dq.args.length qc) u2) rfl rfl hrun4 ?_
    refine hK.out _ _ B9 (fun _ => ?_)
    clear hK K
    refine wpAnyH_done (by kernel_rfl) ?_ _
    try simp only [Act.put]
    have hx9 : W9.heap[n0]? = some (.cells (ncs dp.v dp.fn (.slice pa dp.args.length pc) u1).toArray 101 (0, 0)) := by rw [hon4.block _ (Array.getElem?_eq_some_iff.1 hx3).1 (by simp)]; exact hx3
    have lp := (Array.getElem?_eq_some_iff.1 hx9).1
    have lq := (Array.getElem?_eq_some_iff.1 hx4).1
    have n9 : Net W9 B g c N up av := HN2.out.keep B9
    have gp : n0 ≠ g := by have := HN2.out.blt.2; omega
    have gq : (n0 + 1) ≠ g := by have := HN2.out.blt.2; omega
    have HC : Hid (∀ Z, Only [g] W9 Z → Z.cell? ⟨B, 0, none⟩ = some (.slice (some ⟨g, 0, none⟩) N.length c) ∧ Z.frozen? ⟨B, 0, none⟩ = false ∧ (Z.cell? ⟨n0, 0, none⟩ = some (.int .i64 dp.v) ∧ Z.cell? ⟨n0, 1, none⟩ = some (.string dp.fn) ∧ Z.cell? ⟨n0, 2, none⟩ = some (.slice pa dp.args.length pc)) ∧ (Z.cell? ⟨(n0 + 1), 0, none⟩ = some (.int .i64 dq.v) ∧ Z.cell? ⟨(n0 + 1), 1, none⟩ = some (.string dq.fn) ∧ Z.cell? ⟨(n0 + 1), 2, none⟩ = some (.slice qa dq.args.length qc)) ∧ (Z = W9 → Z.frozen? ⟨g, p * 4 + 3, none⟩ = false ∧ Z.cell? ⟨g, p * 4 + 3, none⟩ = some (.int .i64 (up p : Nat))) ∧ (Z = W9 → Z.frozen? ⟨g, q * 4 + 3, none⟩ = false ∧ Z.cell? ⟨g, q * 4 + 3, none⟩ = some (.int .i64 (up q : Nat)))) := fun Z hZ => by
      have hBZ : Z.heap[B]? = W9.heap[B]? := hZ.block B n9.blt.1 (by simpa using n9.ne)
      refine ⟨?_, ?_, ⟨ko hZ lp (by simpa using gp) (cell_at hx9 rfl), ko hZ lp (by simpa using gp) (cell_at hx9 rfl), ko hZ lp (by simpa using gp) (cell_at hx9 rfl)⟩, ⟨ko hZ lq (by simpa using gq) (cell_at hx4 rfl), ko hZ lq (by simpa using gq) (cell_at hx4 rfl), ko hZ lq (by simpa using gq) (cell_at hx4 rfl)⟩, ?_, ?_⟩
      · simp [World.cell?, hBZ, n9.box]
      · simp [World.frozen?, hBZ, n9.box]
      · rintro rfl
        exact ⟨(n9.cells HP.out.2.2.2.2.1).2.2.2.2, (n9.cells HP.out.2.2.2.2.1).2.2.2.1⟩
      · rintro rfl
        exact ⟨(n9.cells HP.out.2.2.2.2.2.1).2.2.2.2, (n9.cells HP.out.2.2.2.2.2.1).2.2.2.1⟩
    have HN9 : Hid (Net W9 B g c N up av) := n9
    have HO9 : Hid (Only [g] W W9) := (Only.of_below (B := [g]) HB2.out).trans (Only.of_below (B := []) B9) (by simp)
    have HA : Hid ((∀ k (hk : k < dp.args.length), ∃ bb o, pa = some ⟨bb, o, none⟩ ∧ bb < W9.heap.size ∧ bb ≠ g ∧ bb ≠ B ∧ W9.cell? ⟨bb, o + k, none⟩ = some (.int .i64 (dp.args[k] : Nat))) ∧ (∀ k (hk : k < dq.args.length), ∃ bb o, qa = some ⟨bb, o, none⟩ ∧ bb < W9.heap.size ∧ bb ≠ g ∧ bb ≠ B ∧ W9.cell? ⟨bb, o + k, none⟩ = some (.int .i64 (dq.args[k] : Nat)))) := by
      obtain ⟨a5, c5, e5, _, h5⟩ := n9.arg HD.out.1
      obtain ⟨a6, c6, e6, _, h6⟩ := n9.arg HD.out.2
      rw [HV.out.1] at e5
      rw [HV.out.2] at e6
      cases e5
      cases e6
      exact ⟨h5, h6⟩
    clear B1 B2 B3 B9 hrun3 hrun4 hx3 hx4 hon3 hon4 hx9 lp lq Z0 Z1 hV1 hV2 hn0 hn1 hHeld HX n9 gp gq
    obtain ⟨cb, cf, ⟨x0, x1, x2⟩, ⟨y0, y1, y2⟩, fp, fq⟩ := HC.out W9 (Only.refl _ _)
    by_cases hx : dp.fn.size = 0
    · have hx0 : dp.fn.toList.isEmpty = true := by rw [ba_isEmpty, hx]; rfl
      by_cases hy : dq.fn.size = 0
      · have hy0 : dq.fn.toList.isEmpty = true := by rw [ba_isEmpty, hy]; rfl
        by_cases hv : dq.v < dp.v
        · go_wp2
          refine bodyPost_ret (v := .bool true) (by simp [results, Try.results50, go_sem]) rfl ?_
          exact joinP_var HN9.out HU.out HT.out HO9.out (.inr ⟨HP.out.1, HP.out.2.1⟩) HP.out.2.2.2.1 HP.out.2.2.1 HP.out.2.2.2.2.2.1 HP.out.2.2.2.2.1 (fun e => hne e.symm) (not_fn HD.out.1 hx)
        · go_wp2
          refine bodyPost_ret (v := .bool true) (by simp [results, Try.results50, go_sem]) rfl ?_
          exact joinP_var HN9.out HU.out HT.out HO9.out (.inl ⟨HP.out.1, HP.out.2.1⟩) HP.out.2.2.1 HP.out.2.2.2.1 HP.out.2.2.2.2.1 HP.out.2.2.2.2.2.1 hne (not_fn HD.out.2 hy)
      · have hy0 : dq.fn.toList.isEmpty = false := by rw [ba_isEmpty]; simpa using hy
        go_wp2
        refine bodyPost_ret (v := .bool true) (by simp [results, Try.results50, go_sem]) rfl ?_
        exact joinP_var HN9.out HU.out HT.out HO9.out (.inr ⟨HP.out.1, HP.out.2.1⟩) HP.out.2.2.2.1 HP.out.2.2.1 HP.out.2.2.2.2.2.1 HP.out.2.2.2.2.1 (fun e => hne e.symm) (not_fn HD.out.1 hx)
    · have hx0 : dp.fn.toList.isEmpty = false := by rw [ba_isEmpty]; simpa using hx
      by_cases hy : dq.fn.size = 0
      · have hy0 : dq.fn.toList.isEmpty = true := by rw [ba_isEmpty, hy]; rfl
        go_wp2
        refine bodyPost_ret (v := .bool true) (by simp [results, Try.results50, go_sem]) rfl ?_
        exact joinP_var HN9.out HU.out HT.out HO9.out (.inl ⟨HP.out.1, HP.out.2.1⟩) HP.out.2.2.1 HP.out.2.2.2.1 HP.out.2.2.2.2.1 HP.out.2.2.2.2.2.1 hne (not_fn HD.out.2 hy)
      · have hy0 : dq.fn.toList.isEmpty = false := by rw [ba_isEmpty]; simpa using hy
        by_cases hf : dp.fn = dq.fn
        · by_cases hl : dp.args.length = dq.args.length
          · have hlI : ((dp.args.length : Int) != (dq.args.length : Int)) = false := by rw [hl]; simp
            have hlJ : (dp.args.length : Int) = (dq.args.length : Int) := by rw [hl]
            have hf2 : dp.fn.toList = dq.fn.toList := by rw [hf]
            have HL : Hid (JoinL W (W9.setCell ⟨g, q * 4 + 3, none⟩ (.int .i64 (p : Nat))) B g c N ρ av a b m (dp.args.zip dq.args)) := joinL_first HN9.out HU.out HT.out HO9.out HP.out.1 HP.out.2.1 HP.out.2.2.1 HP.out.2.2.2.1 HP.out.2.2.2.2.1 HP.out.2.2.2.2.2.1 hne HD.out.1 HD.out.2 hx hy hf hl HM.out
            have HO10 : Hid (Only [g] W9 (W9.setCell ⟨g, q * 4 + 3, none⟩ (.int .i64 (p : Nat)))) := only_setCell _ _ _ _
            clear hne
            go_wp2
            obtain ⟨W10, hW10⟩ : ∃ X, W9.setCell ⟨g, q * 4 + 3, none⟩ (.int .i64 (p : Nat)) = X := ⟨_, rfl⟩
            rw [hW10] at HL HO10
            try rw [hW10]
            clear hW10 x0 x1 x2 y0 y1 y2 cb cf fp fq HN9 HO9
            go_loopw [9] (fun vi wr => ∃ i : Nat, vi = .int .i64 i ∧ i ≤ dp.args.length ∧ Hid (Only [g] W9 wr ∧ JoinL W wr B g c N ρ av a b m ((dp.args.zip dq.args).drop i))) (fun vi _ => dp.args.length - (intOf vi).toNat)
            case atStart => exact ⟨0, rfl, Nat.zero_le _, HO10.out, by simpa using HL.out⟩
            case round =>
              obtain ⟨i, rfl, hi, HI⟩ := hrel
              obtain ⟨cb, cf, ⟨x0, x1, x2⟩, ⟨y0, y1, y2⟩, _, _⟩ := HC.out wr HI.out.1
              by_cases hlt : i < dp.args.length
              · have hiI : (i : Int) < (dp.args.length : Int) := by omega
                have hlt2 : i < dq.args.length := by omega
                have hiJ : (i : Int) < (dq.args.length : Int) := by omega
                have hn0 : (0 : Int) ≤ (i : Int) := by omega
                obtain ⟨b1, o1, e1, hb1, hg1, _, z1⟩ := HA.out.1 i hlt
                obtain ⟨b2, o2, e2, hb2, hg2, _, z2⟩ := HA.out.2 i hlt2
                subst e1 e2
                obtain ⟨s, hs⟩ : ∃ s, dp.args[i] = s := ⟨_, rfl⟩
                obtain ⟨t, ht⟩ : ∃ t, dq.args[i] = t := ⟨_, rfl⟩
                rw [hs] at z1
                rw [ht] at z2
                obtain ⟨up1, ρ1, r1, K1, jN, jU, jT, jO, jt, jt2, jJ, jS, jab⟩ := HI.out.2
                have hz : (dp.args.zip dq.args).drop i = (s, t) :: (dp.args.zip dq.args).drop (i + 1) := by
                  have hzl : i < (dp.args.zip dq.args).length := by rw [List.length_zip]; omega
                  rw [List.drop_eq_getElem_cons hzl, List.getElem_zip, hs, ht]
                rw [hz] at jJ
                have hsl : s < N.length := hs ▸ HB.out.1 i hlt
                have htl : t < N.length := ht ▸ HB.out.2 i hlt2
                obtain ⟨Wd, hWd⟩ : ∃ X, wr.drew = X := ⟨_, rfl⟩
                have hd : Below wr.heap.size wr Wd := by rw [← hWd]; exact (Below.refl _ wr).drew
                have oD : Only [g] W9 Wd := HI.out.1.trans (Only.of_below (B := []) hd) (by simp)
                have oE : Only [g] W Wd := jO.trans (Only.of_below (B := []) hd) (by simp)
                have hcall := ih up1 ρ1 r1 K1 Wd s t jt (jN.keep hd) jU jT hsl htl
                have HX : Hid (∀ Z, Only [g] Wd Z → (Z.cell? ⟨n0, 2, none⟩ = some (.slice (some ⟨b1, o1, none⟩) dp.args.length pc) ∧ Z.cell? ⟨(n0 + 1), 2, none⟩ = some (.slice (some ⟨b2, o2, none⟩) dq.args.length qc)) ∧ Z.cell? ⟨b1, o1 + i, none⟩ = some (.int .i64 (s : Nat)) ∧ Z.cell? ⟨b2, o2 + i, none⟩ = some (.int .i64 (t : Nat))) := fun Z hZ => by
                  have oZ : Only [g] W9 Z := oD.trans hZ (fun r hr => .inl hr)
                  obtain ⟨_, _, ⟨_, _, k2⟩, ⟨_, _, l2⟩, _, _⟩ := HC.out Z oZ
                  exact ⟨⟨k2, l2⟩, ko oZ hb1 (by simpa using hg1) z1, ko oZ hb2 (by simpa using hg2) z2⟩
                have HJ : Hid (Only [g] W9 Wd ∧ Only [g] W Wd ∧ tops ρ1 N.length < m ∧ tops ρ1 N.length ≤ tops ρ N.length ∧ (∀ P, Jn N ρ ((a, b) :: P) → Jn N ρ1 ((s, t) :: (dp.args.zip dq.args).drop (i + 1) ++ P)) ∧ (∀ i j, ρ i = ρ j → ρ1 i = ρ1 j) ∧ ρ1 a = ρ1 b) := ⟨oD, oE, jt, jt2, jJ, jS, jab⟩
                have HLt : Hid (i < dp.args.length) := hlt
                clear oD oE jt jt2 jJ jS jab jN jU jT jO hd HI hz z1 z2 hs ht hb1 hb2 hg1 hg2
                go_wp2
                refine wp_region_held_drew (S := fun Z => Only [g] Wd Z) (by kernel_rfl) (by rw [hWd]; exact Only.refl _ _) (fun hHeld => ?_)
                rw [hWd] at hHeld ⊢
                refine take_mk 0 (.pointer (some ⟨B, 0, none⟩)) rfl (by kernel_rfl) (by kernel_rfl) (by kernel_rfl) (fun _ _ _ h => h) (Or.inl ⟨by rfl, fun Z hZ => by go_simp⟩) (by assumption) ?_
                try simp only [Act.put, List.setIfInBounds_toArray, List.set_cons_zero, List.set_cons_succ]
                refine take_mk 1 (.pointer (some ⟨n0, 2, none⟩)) rfl (by kernel_rfl) (by kernel_rfl) (by kernel_rfl) (fun _ _ _ h => h) (Or.inl ⟨by rfl, fun Z hZ => by go_simp⟩) (by assumption) ?_
                try simp only [Act.put, List.setIfInBounds_toArray, List.set_cons_zero, List.set_cons_succ]
                refine take_mk 2 (.slice (some ⟨b1, o1, none⟩) dp.args.length pc) rfl (by kernel_rfl) (by kernel_rfl) (by kernel_rfl) (fun _ _ _ h => h) (Or.inl ⟨by rfl, fun Z hZ => by obtain ⟨⟨k2, l2⟩, _⟩ := HX.out Z hZ; go_simp⟩) (by assumption) ?_
                try simp only [Act.put, List.setIfInBounds_toArray, List.set_cons_zero, List.set_cons_succ]
                refine take_mk 3 (.int .i64 (i : Nat)) rfl (by kernel_rfl) (by kernel_rfl) (by kernel_rfl) (fun _ _ _ h => h) (Or.inl ⟨by rfl, fun Z hZ => by go_simp⟩) (by assumption) ?_
                try simp only [Act.put, List.setIfInBounds_toArray, List.set_cons_zero, List.set_cons_succ]
                refine take_mk 4 (.pointer (some ⟨b1, o1 + i, none⟩)) rfl (by kernel_rfl) (by kernel_rfl) (by kernel_rfl) (fun _ _ _ h => h) (Or.inl ⟨by rfl, fun Z hZ => by go_simp⟩) (by assumption) ?_
                try simp only [Act.put, List.setIfInBounds_toArray, List.set_cons_zero, List.set_cons_succ]
                refine take_mk 5 (.int .i64 (s : Nat)) rfl (by kernel_rfl) (by kernel_rfl) (by kernel_rfl) (fun _ _ _ h => h) (Or.inl ⟨by rfl, fun Z hZ => by obtain ⟨_, k2, l2⟩ := HX.out Z hZ; go_simp⟩) (by assumption) ?_
                try simp only [Act.put, List.setIfInBounds_toArray, List.set_cons_zero, List.set_cons_succ]
                refine take_mk 6 (.pointer (some ⟨(n0 + 1), 2, none⟩)) rfl (by kernel_rfl) (by kernel_rfl) (by kernel_rfl) (fun _ _ _ h => h) (Or.inl ⟨by rfl, fun Z hZ => by go_simp⟩) (by assumption) ?_
                try simp only [Act.put, List.setIfInBounds_toArray, List.set_cons_zero, List.set_cons_succ]
                refine take_mk 7 (.slice (some ⟨b2, o2, none⟩) dq.args.length qc) rfl (by kernel_rfl) (by kernel_rfl) (by kernel_rfl) (fun _ _ _ h => h) (Or.inl ⟨by rfl, fun Z hZ => by obtain ⟨⟨k2, l2⟩, _⟩ := HX.out Z hZ; go_simp⟩) (by assumption) ?_
                try simp only [Act.put, List.setIfInBounds_toArray, List.set_cons_zero, List.set_cons_succ]
                refine take_mk 8 (.int .i64 (i : Nat)) rfl (by kernel_rfl) (by kernel_rfl) (by kernel_rfl) (fun _ _ _ h => h) (Or.inl ⟨by rfl, fun Z hZ => by go_simp⟩) (by assumption) ?_
                try simp only [Act.put, List.setIfInBounds_toArray, List.set_cons_zero, List.set_cons_succ]
                refine take_mk 9 (.pointer (some ⟨b2, o2 + i, none⟩)) rfl (by kernel_rfl) (by kernel_rfl) (by kernel_rfl) (fun _ _ _ h => h) (Or.inl ⟨by rfl, fun Z hZ => by go_simp⟩) (by assumption) ?_
                try simp only [Act.put, List.setIfInBounds_toArray, List.set_cons_zero, List.set_cons_succ]
                refine take_mk 10 (.int .i64 (t : Nat)) rfl (by kernel_rfl) (by kernel_rfl) (by kernel_rfl) (fun _ _ _ h => h) (Or.inl ⟨by rfl, fun Z hZ => by obtain ⟨_, k2, l2⟩ := HX.out Z hZ; go_simp⟩) (by assumption) ?_
                try simp only [Act.put, List.setIfInBounds_toArray, List.set_cons_zero, List.set_cons_succ]
                refine wpAnyH_ready (rs := [11]) (by kernel_rfl) (by simp) (AllReadyH.cons (o := ⟨_, _, _, _, _, _⟩) rfl (fun K hK => ?_) AllReadyH.nil)
                rw [if_pos (by rfl)]
                go_simp
                refine hcall.mono ?_
                intro e W11 hP
                obtain ⟨z, rfl, hO11⟩ := hP.bool
                refine hK.out _ _ hO11 (fun _ => ?_)
                clear hK K
                try simp only [Act.put, List.setIfInBounds_toArray, List.set_cons_zero, List.set_cons_succ]
                refine take_mk 12 (.bool (!z)) rfl (by kernel_rfl) (by kernel_rfl) (by kernel_rfl) (fun _ _ _ h => h) (Or.inl ⟨by rfl, fun Z hZ => by go_simp⟩) (by assumption) ?_
                try simp only [Act.put, List.setIfInBounds_toArray, List.set_cons_zero, List.set_cons_succ]
                refine wpAnyH_done (by kernel_rfl) ?_ _
                try simp only [Act.put]
                have HP11 : Hid (JoinP Wd B g c N ρ1 av s t (.returned (.bool z)) W11) := hP
                have HO11 : Hid (Only [g] W9 W11) := HJ.out.1.trans hO11 (fun r hr => .inl hr)
                clear hP hO11 hcall hHeld HX hWd
                cases z
                · go_wp2
                  refine bodyPost_ret (v := .bool false) (by simp [results, Try.results50, go_sem]) rfl ?_
                  exact joinL_out HJ.out.2.1 HJ.out.2.2.2.1 HP11.out
                · go_wp2
                  go_roundw
                  case rel => exact ⟨i + 1, by go_num, by have := HLt.out; omega, HO11.out, joinL_next HJ.out.2.1 HJ.out.2.2.1 HJ.out.2.2.2.1 HJ.out.2.2.2.2.1 HJ.out.2.2.2.2.2.1 HJ.out.2.2.2.2.2.2 HP11.out⟩
                  case measure => have := HLt.out; simp [intOf]; omega
              · have hiI : ¬ (i : Int) < (dp.args.length : Int) := by omega
                have HF : Hid (JoinL W wr B g c N ρ av a b m []) := by
                  have h2 := HI.out.2
                  rw [List.drop_eq_nil_of_le (by rw [List.length_zip]; omega)] at h2
                  exact h2
                clear HI
                go_wp2
                refine bodyPost_ret (v := .bool true) (by simp [results, Try.results50, go_sem]) rfl ?_
                exact joinL_done HF.out
          · have hlI : ((dp.args.length : Int) != (dq.args.length : Int)) = true := by rw [bne_iff_ne]; omega
            have hf2 : dp.fn.toList = dq.fn.toList := by rw [hf]
            have hlJ : ¬ (dp.args.length : Int) = (dq.args.length : Int) := by omega
            go_wp2
            refine bodyPost_ret (v := .bool false) (by simp [results, Try.results50, go_sem]) rfl ?_
            exact joinP_no HN9.out HU.out HT.out HO9.out
        · have hf2 : ¬ dp.fn.toList = dq.fn.toList := fun e => hf (ba_toList_inj.1 e)
          go_wp2
          refine bodyPost_ret (v := .bool false) (by simp [results, Try.results50, go_sem]) rfl ?_
          exact joinP_no HN9.out HU.out HT.out HO9.out
  · rw [if_pos (by rfl)]
    go_simp
    try rw [hV1]
    refine hK.out _ _ B1 (fun _ => ?_)
    clear hK K
    try simp only [Act.put, List.setIfInBounds_toArray, List.set_cons_zero, List.set_cons_succ]
    refine wpAnyH_ready (rs := [14]) (by kernel_rfl) (by simp) (AllReadyH.cons (o := ⟨_, _, _, _, _, _⟩) rfl (fun K hK => ?_) AllReadyH.nil)
    rw [if_pos (by rfl)]
    go_simp
    try rw [hV2]
    refine hK.out _ _ B2 (fun _ => ?_)
    clear hK K
    try simp only [Act.put, List.setIfInBounds_toArray, List.set_cons_zero, List.set_cons_succ]
    try rw [hn0]
    try rw [hn1]
    obtain ⟨V3, hrun3, hx3, hon3⟩ := agg_store 101 V2 (n0 + 1) #[.int .i64 0, .string ⟨#[]⟩, .slice none 0 0, .int .i64 0] (ncs dp.v dp.fn (.slice pa dp.args.length pc) u1) Z1 rfl Try.info101z (ones4 _ _ _ _ _ _)
    obtain ⟨W9, hrun4, hx4, hon4⟩ := agg_store 101 V3 n0 #[.int .i64 0, .string ⟨#[]⟩, .slice none 0 0, .int .i64 0] (ncs dq.v dq.fn (.slice qa dq.args.length qc) u2) (by rw [hon3.block _ (by omega) (by simp)]; exact Z0) rfl Try.info101z (ones4 _ _ _ _ _ _)
    have B3 : Below W2.heap.size W2 V3 := B2.trans (hon3.below B2.size (by simp; omega))
    have B9 : Below W2.heap.size W2 W9 := B3.trans (hon4.below B3.size (by simp; omega))
    refine wpAnyH_ready (rs := [16]) (by kernel_rfl) (by simp) (AllReadyH.cons (o := ⟨_, _, _, _, _, _⟩) rfl (fun K hK => ?_) AllReadyH.nil)
    rw [if_pos (by rfl)]
    refine wp_store_run 101 _ _ rfl (.pointer (some ⟨n0 + 1, 0, none⟩)) (nval dp.v dp.fn (.slice pa dp.args.length pc) u1) rfl rfl hrun3 ?_
    refine hK.out _ _ B3 (fun _ => ?_)
    clear hK K
    refine wpAnyH_ready (rs := [17]) (by kernel_rfl) (by simp) (AllReadyH.cons (o := ⟨_, _, _, _, _, _⟩) rfl (fun K hK => ?_) AllReadyH.nil)
    rw [if_pos (by rfl)]
    refine wp_store_run 101 _ _ rfl (.pointer (some ⟨n0, 0, none⟩)) (nval dq.v dq.fn (.slice qa dq.args.length qc) u2) rfl rfl hrun4 ?_
    refine hK.out _ _ B9 (fun _ => ?_)
    clear hK K
    refine wpAnyH_done (by kernel_rfl) ?_ _
    try simp only [Act.put]
    have hx9 : W9.heap[(n0 + 1)]? = some (.cells (ncs dp.v dp.fn (.slice pa dp.args.length pc) u1).toArray 101 (0, 0)) := by rw [hon4.block _ (Array.getElem?_eq_some_iff.1 hx3).1 (by simp)]; exact hx3
    have lp := (Array.getElem?_eq_some_iff.1 hx9).1
    have lq := (Array.getElem?_eq_some_iff.1 hx4).1
    have n9 : Net W9 B g c N up av := HN2.out.keep B9
    have gp : (n0 + 1) ≠ g := by have := HN2.out.blt.2; omega
    have gq : n0 ≠ g := by have := HN2.out.blt.2; omega
    have HC : Hid (∀ Z, Only [g] W9 Z → Z.cell? ⟨B, 0, none⟩ = some (.slice (some ⟨g, 0, none⟩) N.length c) ∧ Z.frozen? ⟨B, 0, none⟩ = false ∧ (Z.cell? ⟨(n0 + 1), 0, none⟩ = some (.int .i64 dp.v) ∧ Z.cell? ⟨(n0 + 1), 1, none⟩ = some (.string dp.fn) ∧ Z.cell? ⟨(n0 + 1), 2, none⟩ = some (.slice pa dp.args.length pc)) ∧ (Z.cell? ⟨n0, 0, none⟩ = some (.int .i64 dq.v) ∧ Z.cell? ⟨n0, 1, none⟩ = some (.string dq.fn) ∧ Z.cell? ⟨n0, 2, none⟩ = some (.slice qa dq.args.length qc)) ∧ (Z = W9 → Z.frozen? ⟨g, p * 4 + 3, none⟩ = false ∧ Z.cell? ⟨g, p * 4 + 3, none⟩ = some (.int .i64 (up p : Nat))) ∧ (Z = W9 → Z.frozen? ⟨g, q * 4 + 3, none⟩ = false ∧ Z.cell? ⟨g, q * 4 + 3, none⟩ = some (.int .i64 (up q : Nat)))) := fun Z hZ => by
      have hBZ : Z.heap[B]? = W9.heap[B]? := hZ.block B n9.blt.1 (by simpa using n9.ne)
      refine ⟨?_, ?_, ⟨ko hZ lp (by simpa using gp) (cell_at hx9 rfl), ko hZ lp (by simpa using gp) (cell_at hx9 rfl), ko hZ lp (by simpa using gp) (cell_at hx9 rfl)⟩, ⟨ko hZ lq (by simpa using gq) (cell_at hx4 rfl), ko hZ lq (by simpa using gq) (cell_at hx4 rfl), ko hZ lq (by simpa using gq) (cell_at hx4 rfl)⟩, ?_, ?_⟩
      · simp [World.cell?, hBZ, n9.box]
      · simp [World.frozen?, hBZ, n9.box]
      · rintro rfl
        exact ⟨(n9.cells HP.out.2.2.2.2.1).2.2.2.2, (n9.cells HP.out.2.2.2.2.1).2.2.2.1⟩
      · rintro rfl
        exact ⟨(n9.cells HP.out.2.2.2.2.2.1).2.2.2.2, (n9.cells HP.out.2.2.2.2.2.1).2.2.2.1⟩
    have HN9 : Hid (Net W9 B g c N up av) := n9
    have HO9 : Hid (Only [g] W W9) := (Only.of_below (B := [g]) HB2.out).trans (Only.of_below (B := []) B9) (by simp)
    have HA : Hid ((∀ k (hk : k < dp.args.length), ∃ bb o, pa = some ⟨bb, o, none⟩ ∧ bb < W9.heap.size ∧ bb ≠ g ∧ bb ≠ B ∧ W9.cell? ⟨bb, o + k, none⟩ = some (.int .i64 (dp.args[k] : Nat))) ∧ (∀ k (hk : k < dq.args.length), ∃ bb o, qa = some ⟨bb, o, none⟩ ∧ bb < W9.heap.size ∧ bb ≠ g ∧ bb ≠ B ∧ W9.cell? ⟨bb, o + k, none⟩ = some (.int .i64 (dq.args[k] : Nat)))) := by
      obtain ⟨a5, c5, e5, _, h5⟩ := n9.arg HD.out.1
      obtain ⟨a6, c6, e6, _, h6⟩ := n9.arg HD.out.2
      rw [HV.out.1] at e5
      rw [HV.out.2] at e6
      cases e5
      cases e6
      exact ⟨h5, h6⟩
    clear B1 B2 B3 B9 hrun3 hrun4 hx3 hx4 hon3 hon4 hx9 lp lq Z0 Z1 hV1 hV2 hn0 hn1 hHeld HX n9 gp gq
    obtain ⟨cb, cf, ⟨x0, x1, x2⟩, ⟨y0, y1, y2⟩, fp, fq⟩ := HC.out W9 (Only.refl _ _)
    by_cases hx : dp.fn.size = 0
    · have hx0 : dp.fn.toList.isEmpty = true := by rw [ba_isEmpty, hx]; rfl
      by_cases hy : dq.fn.size = 0
      · have hy0 : dq.fn.toList.isEmpty = true := by rw [ba_isEmpty, hy]; rfl
        by_cases hv : dq.v < dp.v
        · go_wp2
          refine bodyPost_ret (v := .bool true) (by simp [results, Try.results50, go_sem]) rfl ?_
          exact joinP_var HN9.out HU.out HT.out HO9.out (.inr ⟨HP.out.1, HP.out.2.1⟩) HP.out.2.2.2.1 HP.out.2.2.1 HP.out.2.2.2.2.2.1 HP.out.2.2.2.2.1 (fun e => hne e.symm) (not_fn HD.out.1 hx)
        · go_wp2
          refine bodyPost_ret (v := .bool true) (by simp [results, Try.results50, go_sem]) rfl ?_
          exact joinP_var HN9.out HU.out HT.out HO9.out (.inl ⟨HP.out.1, HP.out.2.1⟩) HP.out.2.2.1 HP.out.2.2.2.1 HP.out.2.2.2.2.1 HP.out.2.2.2.2.2.1 hne (not_fn HD.out.2 hy)
      · have hy0 : dq.fn.toList.isEmpty = false := by rw [ba_isEmpty]; simpa using hy
        go_wp2
        refine bodyPost_ret (v := .bool true) (by simp [results, Try.results50, go_sem]) rfl ?_
        exact joinP_var HN9.out HU.out HT.out HO9.out (.inr ⟨HP.out.1, HP.out.2.1⟩) HP.out.2.2.2.1 HP.out.2.2.1 HP.out.2.2.2.2.2.1 HP.out.2.2.2.2.1 (fun e => hne e.symm) (not_fn HD.out.1 hx)
    · have hx0 : dp.fn.toList.isEmpty = false := by rw [ba_isEmpty]; simpa using hx
      by_cases hy : dq.fn.size = 0
      · have hy0 : dq.fn.toList.isEmpty = true := by rw [ba_isEmpty, hy]; rfl
        go_wp2
        refine bodyPost_ret (v := .bool true) (by simp [results, Try.results50, go_sem]) rfl ?_
        exact joinP_var HN9.out HU.out HT.out HO9.out (.inl ⟨HP.out.1, HP.out.2.1⟩) HP.out.2.2.1 HP.out.2.2.2.1 HP.out.2.2.2.2.1 HP.out.2.2.2.2.2.1 hne (not_fn HD.out.2 hy)
      · have hy0 : dq.fn.toList.isEmpty = false := by rw [ba_isEmpty]; simpa using hy
        by_cases hf : dp.fn = dq.fn
        · by_cases hl : dp.args.length = dq.args.length
          · have hlI : ((dp.args.length : Int) != (dq.args.length : Int)) = false := by rw [hl]; simp
            have hlJ : (dp.args.length : Int) = (dq.args.length : Int) := by rw [hl]
            have hf2 : dp.fn.toList = dq.fn.toList := by rw [hf]
            have HL : Hid (JoinL W (W9.setCell ⟨g, q * 4 + 3, none⟩ (.int .i64 (p : Nat))) B g c N ρ av a b m (dp.args.zip dq.args)) := joinL_first HN9.out HU.out HT.out HO9.out HP.out.1 HP.out.2.1 HP.out.2.2.1 HP.out.2.2.2.1 HP.out.2.2.2.2.1 HP.out.2.2.2.2.2.1 hne HD.out.1 HD.out.2 hx hy hf hl HM.out
            have HO10 : Hid (Only [g] W9 (W9.setCell ⟨g, q * 4 + 3, none⟩ (.int .i64 (p : Nat)))) := only_setCell _ _ _ _
            clear hne
            go_wp2
            obtain ⟨W10, hW10⟩ : ∃ X, W9.setCell ⟨g, q * 4 + 3, none⟩ (.int .i64 (p : Nat)) = X := ⟨_, rfl⟩
            rw [hW10] at HL HO10
            try rw [hW10]
            clear hW10 x0 x1 x2 y0 y1 y2 cb cf fp fq HN9 HO9
            go_loopw [9] (fun vi wr => ∃ i : Nat, vi = .int .i64 i ∧ i ≤ dp.args.length ∧ Hid (Only [g] W9 wr ∧ JoinL W wr B g c N ρ av a b m ((dp.args.zip dq.args).drop i))) (fun vi _ => dp.args.length - (intOf vi).toNat)
            case atStart => exact ⟨0, rfl, Nat.zero_le _, HO10.out, by simpa using HL.out⟩
            case round =>
              obtain ⟨i, rfl, hi, HI⟩ := hrel
              obtain ⟨cb, cf, ⟨x0, x1, x2⟩, ⟨y0, y1, y2⟩, _, _⟩ := HC.out wr HI.out.1
              by_cases hlt : i < dp.args.length
              · have hiI : (i : Int) < (dp.args.length : Int) := by omega
                have hlt2 : i < dq.args.length := by omega
                have hiJ : (i : Int) < (dq.args.length : Int) := by omega
                have hn0 : (0 : Int) ≤ (i : Int) := by omega
                obtain ⟨b1, o1, e1, hb1, hg1, _, z1⟩ := HA.out.1 i hlt
                obtain ⟨b2, o2, e2, hb2, hg2, _, z2⟩ := HA.out.2 i hlt2
                subst e1 e2
                obtain ⟨s, hs⟩ : ∃ s, dp.args[i] = s := ⟨_, rfl⟩
                obtain ⟨t, ht⟩ : ∃ t, dq.args[i] = t := ⟨_, rfl⟩
                rw [hs] at z1
                rw [ht] at z2
                obtain ⟨up1, ρ1, r1, K1, jN, jU, jT, jO, jt, jt2, jJ, jS, jab⟩ := HI.out.2
                have hz : (dp.args.zip dq.args).drop i = (s, t) :: (dp.args.zip dq.args).drop (i + 1) := by
                  have hzl : i < (dp.args.zip dq.args).length := by rw [List.length_zip]; omega
                  rw [List.drop_eq_getElem_cons hzl, List.getElem_zip, hs, ht]
                rw [hz] at jJ
                have hsl : s < N.length := hs ▸ HB.out.1 i hlt
                have htl : t < N.length := ht ▸ HB.out.2 i hlt2
                obtain ⟨Wd, hWd⟩ : ∃ X, wr.drew = X := ⟨_, rfl⟩
                have hd : Below wr.heap.size wr Wd := by rw [← hWd]; exact (Below.refl _ wr).drew
                have oD : Only [g] W9 Wd := HI.out.1.trans (Only.of_below (B := []) hd) (by simp)
                have oE : Only [g] W Wd := jO.trans (Only.of_below (B := []) hd) (by simp)
                have hcall := ih up1 ρ1 r1 K1 Wd s t jt (jN.keep hd) jU jT hsl htl
                have HX : Hid (∀ Z, Only [g] Wd Z → (Z.cell? ⟨(n0 + 1), 2, none⟩ = some (.slice (some ⟨b1, o1, none⟩) dp.args.length pc) ∧ Z.cell? ⟨n0, 2, none⟩ = some (.slice (some ⟨b2, o2, none⟩) dq.args.length qc)) ∧ Z.cell? ⟨b1, o1 + i, none⟩ = some (.int .i64 (s : Nat)) ∧ Z.cell? ⟨b2, o2 + i, none⟩ = some (.int .i64 (t : Nat))) := fun Z hZ => by
                  have oZ : Only [g] W9 Z := oD.trans hZ (fun r hr => .inl hr)
                  obtain ⟨_, _, ⟨_, _, k2⟩, ⟨_, _, l2⟩, _, _⟩ := HC.out Z oZ
                  exact ⟨⟨k2, l2⟩, ko oZ hb1 (by simpa using hg1) z1, ko oZ hb2 (by simpa using hg2) z2⟩
                have HJ : Hid (Only [g] W9 Wd ∧ Only [g] W Wd ∧ tops ρ1 N.length < m ∧ tops ρ1 N.length ≤ tops ρ N.length ∧ (∀ P, Jn N ρ ((a, b) :: P) → Jn N ρ1 ((s, t) :: (dp.args.zip dq.args).drop (i + 1) ++ P)) ∧ (∀ i j, ρ i = ρ j → ρ1 i = ρ1 j) ∧ ρ1 a = ρ1 b) := ⟨oD, oE, jt, jt2, jJ, jS, jab⟩
                have HLt : Hid (i < dp.args.length) := hlt
                clear oD oE jt jt2 jJ jS jab jN jU jT jO hd HI hz z1 z2 hs ht hb1 hb2 hg1 hg2
                go_wp2
                refine wp_region_held_drew (S := fun Z => Only [g] Wd Z) (by kernel_rfl) (by rw [hWd]; exact Only.refl _ _) (fun hHeld => ?_)
                rw [hWd] at hHeld ⊢
                refine take_mk 0 (.pointer (some ⟨B, 0, none⟩)) rfl (by kernel_rfl) (by kernel_rfl) (by kernel_rfl) (fun _ _ _ h => h) (Or.inl ⟨by rfl, fun Z hZ => by go_simp⟩) (by assumption) ?_
                try simp only [Act.put, List.setIfInBounds_toArray, List.set_cons_zero, List.set_cons_succ]
                refine take_mk 1 (.pointer (some ⟨(n0 + 1), 2, none⟩)) rfl (by kernel_rfl) (by kernel_rfl) (by kernel_rfl) (fun _ _ _ h => h) (Or.inl ⟨by rfl, fun Z hZ => by go_simp⟩) (by assumption) ?_
                try simp only [Act.put, List.setIfInBounds_toArray, List.set_cons_zero, List.set_cons_succ]
                refine take_mk 2 (.slice (some ⟨b1, o1, none⟩) dp.args.length pc) rfl (by kernel_rfl) (by kernel_rfl) (by kernel_rfl) (fun _ _ _ h => h) (Or.inl ⟨by rfl, fun Z hZ => by obtain ⟨⟨k2, l2⟩, _⟩ := HX.out Z hZ; go_simp⟩) (by assumption) ?_
                try simp only [Act.put, List.setIfInBounds_toArray, List.set_cons_zero, List.set_cons_succ]
                refine take_mk 3 (.int .i64 (i : Nat)) rfl (by kernel_rfl) (by kernel_rfl) (by kernel_rfl) (fun _ _ _ h => h) (Or.inl ⟨by rfl, fun Z hZ => by go_simp⟩) (by assumption) ?_
                try simp only [Act.put, List.setIfInBounds_toArray, List.set_cons_zero, List.set_cons_succ]
                refine take_mk 4 (.pointer (some ⟨b1, o1 + i, none⟩)) rfl (by kernel_rfl) (by kernel_rfl) (by kernel_rfl) (fun _ _ _ h => h) (Or.inl ⟨by rfl, fun Z hZ => by go_simp⟩) (by assumption) ?_
                try simp only [Act.put, List.setIfInBounds_toArray, List.set_cons_zero, List.set_cons_succ]
                refine take_mk 5 (.int .i64 (s : Nat)) rfl (by kernel_rfl) (by kernel_rfl) (by kernel_rfl) (fun _ _ _ h => h) (Or.inl ⟨by rfl, fun Z hZ => by obtain ⟨_, k2, l2⟩ := HX.out Z hZ; go_simp⟩) (by assumption) ?_
                try simp only [Act.put, List.setIfInBounds_toArray, List.set_cons_zero, List.set_cons_succ]
                refine take_mk 6 (.pointer (some ⟨n0, 2, none⟩)) rfl (by kernel_rfl) (by kernel_rfl) (by kernel_rfl) (fun _ _ _ h => h) (Or.inl ⟨by rfl, fun Z hZ => by go_simp⟩) (by assumption) ?_
                try simp only [Act.put, List.setIfInBounds_toArray, List.set_cons_zero, List.set_cons_succ]
                refine take_mk 7 (.slice (some ⟨b2, o2, none⟩) dq.args.length qc) rfl (by kernel_rfl) (by kernel_rfl) (by kernel_rfl) (fun _ _ _ h => h) (Or.inl ⟨by rfl, fun Z hZ => by obtain ⟨⟨k2, l2⟩, _⟩ := HX.out Z hZ; go_simp⟩) (by assumption) ?_
                try simp only [Act.put, List.setIfInBounds_toArray, List.set_cons_zero, List.set_cons_succ]
                refine take_mk 8 (.int .i64 (i : Nat)) rfl (by kernel_rfl) (by kernel_rfl) (by kernel_rfl) (fun _ _ _ h => h) (Or.inl ⟨by rfl, fun Z hZ => by go_simp⟩) (by assumption) ?_
                try simp only [Act.put, List.setIfInBounds_toArray, List.set_cons_zero, List.set_cons_succ]
                refine take_mk 9 (.pointer (some ⟨b2, o2 + i, none⟩)) rfl (by kernel_rfl) (by kernel_rfl) (by kernel_rfl) (fun _ _ _ h => h) (Or.inl ⟨by rfl, fun Z hZ => by go_simp⟩) (by assumption) ?_
                try simp only [Act.put, List.setIfInBounds_toArray, List.set_cons_zero, List.set_cons_succ]
                refine take_mk 10 (.int .i64 (t : Nat)) rfl (by kernel_rfl) (by kernel_rfl) (by kernel_rfl) (fun _ _ _ h => h) (Or.inl ⟨by rfl, fun Z hZ => by obtain ⟨_, k2, l2⟩ := HX.out Z hZ; go_simp⟩) (by assumption) ?_
                try simp only [Act.put, List.setIfInBounds_toArray, List.set_cons_zero, List.set_cons_succ]
                refine wpAnyH_ready (rs := [11]) (by kernel_rfl) (by simp) (AllReadyH.cons (o := ⟨_, _, _, _, _, _⟩) rfl (fun K hK => ?_) AllReadyH.nil)
                rw [if_pos (by rfl)]
                go_simp
                refine hcall.mono ?_
                intro e W11 hP
                obtain ⟨z, rfl, hO11⟩ := hP.bool
                refine hK.out _ _ hO11 (fun _ => ?_)
                clear hK K
                try simp only [Act.put, List.setIfInBounds_toArray, List.set_cons_zero, List.set_cons_succ]
                refine take_mk 12 (.bool (!z)) rfl (by kernel_rfl) (by kernel_rfl) (by kernel_rfl) (fun _ _ _ h => h) (Or.inl ⟨by rfl, fun Z hZ => by go_simp⟩) (by assumption) ?_
                try simp only [Act.put, List.setIfInBounds_toArray, List.set_cons_zero, List.set_cons_succ]
                refine wpAnyH_done (by kernel_rfl) ?_ _
                try simp only [Act.put]
                have HP11 : Hid (JoinP Wd B g c N ρ1 av s t (.returned (.bool z)) W11) := hP
                have HO11 : Hid (Only [g] W9 W11) := HJ.out.1.trans hO11 (fun r hr => .inl hr)
                clear hP hO11 hcall hHeld HX hWd
                cases z
                · go_wp2
                  refine bodyPost_ret (v := .bool false) (by simp [results, Try.results50, go_sem]) rfl ?_
                  exact joinL_out HJ.out.2.1 HJ.out.2.2.2.1 HP11.out
                · go_wp2
                  go_roundw
                  case rel => exact ⟨i + 1, by go_num, by have := HLt.out; omega, HO11.out, joinL_next HJ.out.2.1 HJ.out.2.2.1 HJ.out.2.2.2.1 HJ.out.2.2.2.2.1 HJ.out.2.2.2.2.2.1 HJ.out.2.2.2.2.2.2 HP11.out⟩
                  case measure => have := HLt.out; simp [intOf]; omega
              · have hiI : ¬ (i : Int) < (dp.args.length : Int) := by omega
                have HF : Hid (JoinL W wr B g c N ρ av a b m []) := by
                  have h2 := HI.out.2
                  rw [List.drop_eq_nil_of_le (by rw [List.length_zip]; omega)] at h2
                  exact h2
                clear HI
                go_wp2
                refine bodyPost_ret (v := .bool true) (by simp [results, Try.results50, go_sem]) rfl ?_
                exact joinL_done HF.out
          · have hlI : ((dp.args.length : Int) != (dq.args.length : Int)) = true := by rw [bne_iff_ne]; omega
            have hf2 : dp.fn.toList = dq.fn.toList := by rw [hf]
            have hlJ : ¬ (dp.args.length : Int) = (dq.args.length : Int) := by omega
            go_wp2
            refine bodyPost_ret (v := .bool false) (by simp [results, Try.results50, go_sem]) rfl ?_
            exact joinP_no HN9.out HU.out HT.out HO9.out
        · have hf2 : ¬ dp.fn.toList = dq.fn.toList := fun e => hf (ba_toList_inj.1 e)
          go_wp2
          refine bodyPost_ret (v := .bool false) (by simp [results, Try.results50, go_sem]) rfl ?_
          exact joinP_no HN9.out HU.out HT.out HO9.out

end Go.Proofs.Ytiklbkkimmgbcaa
