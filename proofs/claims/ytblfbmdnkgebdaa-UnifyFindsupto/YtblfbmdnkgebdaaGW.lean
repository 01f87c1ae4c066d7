import Derived.Test.YtblfbmdnkgebdaaGS
import Derived.Test.YtblfbmdnkgebdaaPR

/-
  graph.measure, tooGreat.
-/
namespace Go.Proofs.Ytblfbmdnkgebdaa
open Go.RowKit Go.Maps

section
variable {w0 w : World} {base g bv b c : Nat} {a bt : T} {n0 : Nat} {tm : Nat → T} {fs h : Nat → Nat} {ν : Nv} {n : Nat} {ns : List Nd} {W X X' : World}
theorem ML.box {B : Nat} (k1 : ML w0 w base g bv b c n0 tm fs h ν n ns X) (ho : Only [B] X X') (hS : MS w0 w base g bv b c a bt n0 tm fs h ν n) (hB : w.heap.size ≤ B) : ML w0 w base g bv b c n0 tm fs h ν n ns X' := by
  have hsz := k1.only.size
  have key : ∀ k, k < w.heap.size → X'.heap[k]? = X.heap[k]? := fun k hk => ho.block k (by omega) (by simp; omega)
  refine ⟨⟨(key g hS.lg).trans k1.gat.box, row6_keep k1.gat.row (fun k e => by cases e; exact key b hS.lb), k1.gat.map.same (key bv hS.lv), k1.gat.args, k1.gat.ne, k1.gat.own⟩, k1.gr, k1.ms, ?_⟩
  exact k1.only.trans ho (fun r hr => .inr (by simp at hr; omega))
end

theorem vm_some {ν : Nv} {x : Value} (h : vm ν x ≠ none) : ∃ s k, x = .int .i64 s ∧ ν s = some k := by
  unfold vm at h
  split at h
  · rename_i v
    cases e : ν v with
    | none => rw [e] at h; exact absurd rfl h
    | some k => exact ⟨v, k, rfl, e⟩
  · exact absurd rfl h

/-- What is built of the class fits. -/
def SmallAt (tm : Nat → T) (fs h : Nat → Nat) (r : Nat) : Prop := ∀ t, Bl tm fs h r t → t.size ≤ 4000 ∧ t.depth ≤ 60

/-- What tooGreat's loop keeps. -/
structure TG (w0 w : World) (base g bv b c : Nat) (n0 : Nat) (tm : Nat → T) (fs h : Nat → Nat) (ν : Nv) (n : Nat) (D : DataW Value) (W : World) (r1 : Nat) (left : Lit → Bool) (cnt : Nat) (ns : List Nd) (wr : World) : Prop where
  rg : wr.ranges Try.prog 3 Rid bv r1 n D left cnt
  ml : ML w0 w base g bv b c n0 tm fs h ν n ns wr
  op : ∀ i, opn ns i = false
  only : Only [b] W wr
  sm : ∀ s k kl, ν s = some k → keyOf Try.prog 3 (.int .i64 s) = some kl → left kl = false → SmallAt tm fs h k.toNat
  lr : r1 < wr.heap.size

/-- What tooGreat answers. -/
def GAns (w0 w : World) (base g bv b c : Nat) (n0 : Nat) (tm : Nat → T) (fs h : Nat → Nat) (ν : Nv) (n : Nat) (W : World) (e : Ending) (W' : World) : Prop :=
  ∃ q ns', e = .returned (.bool q) ∧ ML w0 w base g bv b c n0 tm fs h ν n ns' W' ∧ Only [b] W W' ∧ (q = true → ∃ s k, ν s = some k ∧ ¬ SmallAt tm fs h k.toNat) ∧ (q = false → ∀ s k, ν s = some k → SmallAt tm fs h k.toNat)

theorem below_of_grown' {w w' : World} {r : Option Nat} {N : Nat} (h : w.grownBy w' r) (hN : N ≤ w.heap.size) (hr : ∀ k, r = some k → N ≤ k) : Below N w w' :=
  ⟨h.os, h.tape, h.output, h.size, fun k hk => h.block k (by omega) (fun e => by have := hr k e.symm; omega)⟩

set_option maxRecDepth 100000 in
set_option maxHeartbeats 4000000 in
theorem great_any (w0 w : World) (base g bv b c : Nat) (a bt : T) (n0 : Nat) (tm : Nat → T) (fs h : Nat → Nat) (ν : Nv) (n : Nat) (hS : MS w0 w base g bv b c a bt n0 tm fs h ν n) (hν : ∀ s k, ν s = some k → Fit64 s ∧ ∃ r : Nat, k = (r : Int) ∧ r < n0) (hR : ∃ φ, Rank n0 tm fs h φ)
    (ns : List Nd) (W : World) (hM : ML w0 w base g bv b c n0 tm fs h ν n ns W) (hop : ∀ i, opn ns i = false) :
    Calls Try.prog 29 #[.pointer (some ⟨g, 0, none⟩)] W fun e W' => GAns w0 w base g bv b c n0 tm fs h ν n W e W' := by
  have g1 : W.cell? ⟨g, 1, none⟩ = some (.map (some bv)) := by simp [World.cell?, hM.gat.box]
  obtain ⟨D, hown, hDs, hRel⟩ := hM.gat.map
  have HRel : Hid (∀ key kl, keyOf Try.prog 3 key = some kl → (∀ v, vm ν key = some v → Maps.has D kl = true ∧ ∀ z, D.atKey kl z = .held v) ∧ (vm ν key = none → Maps.has D kl = false)) := hRel
  have HH : Hid (MS w0 w base g bv b c a bt n0 tm fs h ν n ∧ (∀ s k, ν s = some k → Fit64 s ∧ ∃ r : Nat, k = (r : Int) ∧ r < n0) ∧ (∃ φ, Rank n0 tm fs h φ) ∧ w.heap.size ≤ W.heap.size ∧ bv < W.heap.size ∧ b ≠ bv) := ⟨hS, hν, hR, hM.only.size, Nat.lt_of_lt_of_le hS.lv hM.only.size, fun e => hM.gat.own.2 (by rw [← e]; rfl)⟩
  have HM := hid hM
  have HOP := hid hop
  clear hM hop hRel hS hν hR
  go_enter Try.func29, Try.ntmps29
  go_wp2_with (first | (at_range; refine wpList_range_own _ rfl _ 49 rfl 3 3 keyed3 Try.underlying49 Rid bv n D rfl hown ?_; intro w1 hrg1 hg1 hs1) | go_in)
  go_frame
  have B1 : Below W.heap.size W w1 := below_of_grown' hg1 (Nat.le_refl _) (fun r e => by cases e)
  obtain ⟨r1, hr1⟩ : ∃ k, W.heap.size = k := ⟨_, rfl⟩
  have H0 : Hid (∃ left cnt ns, TG w0 w base g bv b c n0 tm fs h ν n D W r1 left cnt ns w1) := by
    refine ⟨_, _, ns, by rw [← hr1]; exact hrg1, HM.out.keep B1, HOP.out, Only.of_below B1, fun s k kl e hk hl => ?_, by omega⟩
    have := (HRel.out (.int .i64 s) kl hk).1 (.int .i64 k) (by simp [vm, e])
    rw [this.1] at hl
    cases hl
  have HR1 := hid hr1
  rw [hr1]
  clear hown g1 hg1 hs1 hrg1 B1 hr1
  go_loopw [] (fun wr => Hid (∃ left cnt ns, TG w0 w base g bv b c n0 tm fs h ν n D W r1 left cnt ns wr)) (fun wr => wr.rangeLeft bv r1)
  case atStart => exact H0.out
  case round =>
    obtain ⟨left, cnt, ns', hT⟩ := hrel
    have HT := hid hT
    go_wp2_with (first
      | (at_next; refine wpList_next_ranges (α := Value) (β := Value) _ rfl _ rfl 3 keyed3 Rid (fun v : Value => v) (fun v : Value => v) (fun key kl hk => ⟨key, rfl⟩) (fun v _ _ => ⟨v, rfl⟩) bv r1 n _ _ _ rfl hT.rg ?_ ?_)
      | go_in)
    · intro hc0 hl0
      have HE : Hid (GAns w0 w base g bv b c n0 tm fs h ν n W (.returned (.bool false)) wr) := ⟨false, ns', rfl, hT.ml, hT.only, by simp, fun _ s k e => hT.sm s k _ e (key3 (HH.out.2.1 s k e).1) (hl0 _)⟩
      clear hT hc0 hl0
      go_wp2
      go_ret
      exact HE.out
    · intro x cc kl yd yp w2 cnt2 hkx hlk hv hat hrg2 hlt hg2 hs2 hen
      have hhas := Maps.has_true_of_atKey hat
      obtain ⟨s, k, rfl, hk⟩ : ∃ s k, x = .int .i64 s ∧ ν s = some k := vm_some fun e => by
        have := (HRel.out x kl hkx).2 e
        rw [hhas] at this
        cases this
      have hcc : cc = .int .i64 k := by
        have h1 := ((HRel.out (.int .i64 s) kl hkx).1 (.int .i64 k) (by simp [vm, hk])).2 yd
        have h2 := hat yd
        rw [h1] at h2
        have h3 : some (DataW.held cc, ([] : List MemPlace)) = some (yd, yp) := hv
        injection h3 with h3
        injection h3 with h3 _
        rw [← h3] at h2
        injection h2 with h2
        exact h2.symm
      subst hcc
      obtain ⟨hfit, r, rfl, hr⟩ := HH.out.2.1 s k hk
      have ho2 : Only [r1] wr w2 := Only.of_grown hg2 (fun q e => by cases e; simp)
      have hwr1 : w.heap.size ≤ r1 := by rw [← HR1.out]; exact HH.out.2.2.2.1
      have ml2 := hT.ml.box ho2 HH.out.1 hwr1
      have hx := ext_any w0 w base g bv b c a bt n0 tm fs h ν n HH.out.1 _ ns' w2 r hr ml2 (Nat.le_refl _) (fun φ hφ o ho hoo => by rw [hT.op] at hoo; cases hoo)
      have HO2 : Hid (Only [b] W w2) := hT.only.trans ho2 (fun q hq => .inr (by simp at hq; rw [HR1.out]; omega))
      have HRG : Hid (∀ W4, Only [b] w2 W4 → W4.ranges Try.prog 3 Rid bv r1 n D (fun z => left z && !z.sameKey kl) cnt2 ∧ r1 < W4.heap.size) := fun W4 h4 => by
        have lr : r1 < w2.heap.size := hrg2.lt
        have lb := HH.out.2.2.2.2.1
        refine ⟨ranges_same hrg2 (h4.block bv (by have := HO2.out.size; omega) (by have := HH.out.2.2.2.2.2; simp; exact fun e => this e.symm)) (h4.block r1 lr ?_), Nat.lt_of_lt_of_le lr h4.size⟩
        have := HH.out.1.lb
        simp
        omega
      have HKL : Hid (left kl = true ∧ keyOf Try.prog 3 (.int .i64 s) = some kl ∧ ν s = some (r : Int)) := ⟨hlk, hkx, hk⟩
      have HLE : Hid (wr.rangeLeft bv r1 = cnt ∧ cnt2 < cnt) := ⟨hT.rg.left_eq, hlt⟩
      clear hT hkx hlk hv hat hrg2 hlt hg2 hs2 hhas ho2 ml2 hk hfit
      go_wp2_with fail
      refine hx.mono ?_
      clear hx
      rintro e W3 ⟨on3, (⟨t, ns3, rfl, hbl, ml3, le3, _⟩ | ⟨rfl, hno⟩)⟩
      · obtain ⟨s3, hs3⟩ : ∃ z, min t.size 4001 = z := ⟨_, rfl⟩
        obtain ⟨d3, hd3⟩ : ∃ z, t.depth = z := ⟨_, rfl⟩
        rw [hs3, hd3]
        have hb4 := below_box W3 (.cells #[.int .i64 s3, .int .i64 d3] 87)
        have HM4 : Hid (ML w0 w base g bv b c n0 tm fs h ν n ns3 (W3.alloc (.cells #[.int .i64 s3, .int .i64 d3] 87)) ∧ Only [b] w2 (W3.alloc (.cells #[.int .i64 s3, .int .i64 d3] 87))) := ⟨ml3.keep hb4, on3.trans (Only.of_below hb4) (fun q hq => .inl hq)⟩
        by_cases hbig : 4000 < s3 ∨ 60 < d3
        · have HE : Hid (GAns w0 w base g bv b c n0 tm fs h ν n W (.returned (.bool true)) (W3.alloc (.cells #[.int .i64 s3, .int .i64 d3] 87))) := by
            refine ⟨true, ns3, rfl, HM4.out.1, HO2.out.trans HM4.out.2 (fun q hq => .inl hq), fun _ => ⟨s, r, HKL.out.2.2, fun hsm => ?_⟩, by simp⟩
            have := hsm t (by rw [Int.toNat_natCast]; exact hbl)
            omega
          clear hbl ml3 le3 on3 hs3 hd3 hb4
          by_cases hb1 : 4000 < s3
          · go_wp2
            go_ret
            exact HE.out
          · have hb2 : 60 < d3 := by omega
            go_wp2
            go_ret
            exact HE.out
        · have HE : Hid (∃ left cnt ns, TG w0 w base g bv b c n0 tm fs h ν n D W r1 left cnt ns (W3.alloc (.cells #[.int .i64 s3, .int .i64 d3] 87)) ∧ (W3.alloc (.cells #[.int .i64 s3, .int .i64 d3] 87)).rangeLeft bv r1 = cnt2) := by
            obtain ⟨k1, k2⟩ := HRG.out _ HM4.out.2
            refine ⟨_, cnt2, ns3, ⟨k1, HM4.out.1, fun j => by rw [le3.op]; exact HT.out.op j, HO2.out.trans HM4.out.2 (fun q hq => .inl hq), fun s' k' kl' e hk' hl' => ?_, k2⟩, k1.left_eq⟩
            by_cases es : s' = s
            · subst es
              rw [HKL.out.2.2] at e
              cases e
              intro u hu
              rw [Int.toNat_natCast] at hu
              rw [hu.one hbl]
              omega
            · refine HT.out.sm s' k' kl' e hk' ?_
              have hne : kl' ≠ kl := fun e2 => es (by have := keyed3.inj hk' (e2 ▸ HKL.out.2.1); injection this)
              simpa [Maps.sameKey_ne hne] using hl'
          have hb1 : ¬ 4000 < s3 := by omega
          have hb2 : ¬ 60 < d3 := by omega
          clear hbl ml3 le3 on3 hs3 hd3 hb4 hbig
          go_wp2
          go_roundw
          case rel => obtain ⟨l, c', ns, h1, _⟩ := HE.out; exact ⟨l, c', ns, h1⟩
          case measure => obtain ⟨_, _, _, _, h2⟩ := HE.out; rw [h2, HLE.out.1]; exact HLE.out.2
      · obtain ⟨φ, hφ⟩ := HH.out.2.2.1
        exact absurd hφ (hno φ)

/-- graph.measure. -/
theorem measure_any (w0 w : World) (base g bv b c : Nat) (a bt : T) (n0 : Nat) (tm : Nat → T) (fs h : Nat → Nat) (ν : Nv) (n : Nat) (hS : MS w0 w base g bv b c a bt n0 tm fs h ν n)
    (ns : List Nd) (W : World) (hM : ML w0 w base g bv b c n0 tm fs h ν n ns W) (hop : ∀ i, opn ns i = false) :
    Calls Try.prog 28 #[.pointer (some ⟨g, 0, none⟩)] W fun e W' => Only [b] W W' ∧ ((e = .returned (.tuple #[]) ∧ ∃ t ns', Bl tm fs h 0 t ∧ ML w0 w base g bv b c n0 tm fs h ν n ns' W' ∧ ∀ i, opn ns' i = false) ∨ (e = .panicked misfit ∧ ∀ φ, ¬ Rank n0 tm fs h φ)) := by
  have hx := ext_any w0 w base g bv b c a bt n0 tm fs h ν n hS _ ns W 0 (by have := hS.lay.two; omega) hM (Nat.le_refl _) (fun φ hφ o ho hoo => by rw [hop] at hoo; cases hoo)
  have HOP := hid hop
  clear hop hM hS
  go_enter Try.func28, Try.ntmps28
  go_wp2_with fail
  refine hx.mono ?_
  rintro e W3 ⟨on3, (⟨t, ns3, rfl, hbl, ml3, le3, _⟩ | ⟨rfl, hno⟩)⟩
  · have HE : Hid (∃ t ns', Bl tm fs h 0 t ∧ ML w0 w base g bv b c n0 tm fs h ν n ns' W3 ∧ ∀ i, opn ns' i = false) := ⟨t, ns3, hbl, ml3, fun i => by rw [le3.op]; exact HOP.out i⟩
    clear hbl ml3 le3 hx
    go_wp2
    refine bodyPost_end (results_none rfl _ _ _) rfl ?_
    exact ⟨on3, .inl ⟨rfl, HE.out⟩⟩
  · exact ⟨rfl, on3, .inr ⟨rfl, hno⟩⟩

end Go.Proofs.Ytblfbmdnkgebdaa

/-
  unify.listed, of the graph's first nodes.
-/
namespace Go.Proofs.Ytblfbmdnkgebdaa
open Go.RowKit Go.Maps

/-- The first nodes, as what stands for each variable. -/
def nsg (ν : Nv) : Sg := fun x => (ν x).map fun k => (.mk 0 ⟨#[]⟩ [], .int .i64 k)
theorem nsg_some {ν : Nv} {x : Int} (h : nsg ν x ≠ none) : ∃ k, ν x = some k := by
  unfold nsg at h
  cases e : ν x with
  | none => rw [e] at h; exact absurd rfl h
  | some k => exact ⟨k, rfl⟩
theorem nsg_iff {ν : Nv} {x : Int} : nsg ν x ≠ none ↔ ν x ≠ none := by
  unfold nsg
  cases ν x <;> simp
theorem vm_nsg {ν : Nv} {x : Value} (h : vm ν x ≠ none) : ∃ s, x = .int .i64 s ∧ nsg ν s ≠ none := by
  obtain ⟨s, k, rfl, hk⟩ := vm_some h
  exact ⟨s, rfl, nsg_iff.2 (by rw [hk]; simp)⟩

set_option maxRecDepth 100000 in
set_option maxHeartbeats 2000000 in
theorem keys79_any (w0 : World) (Bm b : Nat) (ν : Nv) (n : Nat) (hf : ∀ x, nsg ν x ≠ none → Fit64 x) (hb : b < w0.heap.size) (hM : MapIs w0 3 b (vm ν) n) (W : World) (hbel : Below w0.heap.size w0 W) (hm : W.cell? ⟨Bm, 0, none⟩ = some (.map (some b))) :
    IterS 79 #[.pointer (some ⟨Bm, 0, none⟩)] w0 (fun ss => AllKeys (nsg ν) ss ∧ ss.length ≤ n) n W := by
  intro m l J hJ hY hj
  have hMW : MapIs W 3 b (vm ν) n := hM.same (hbel.block b hb)
  obtain ⟨D, hown, hsz, hRel⟩ := hMW
  refine callsIn_of_wp Try.func79 rfl trivial ?_ rfl
  simp only [Try.ntmps79, List.size_toArray, List.length_cons, List.length_nil, Nat.reduceAdd, Nat.reduceSub, Array.replicate_succ, Array.replicate_zero, List.push_toArray, List.append_toArray, List.nil_append, List.cons_append]
  gi_wp2_with (first
    | (gi_at_range; refine wpListIn_range_own _ rfl _ 49 rfl 3 3 keyed3 Try.underlying49 _ b n _ rfl hown ?_; intro w1 hrg0 hg0 hs0)
    | gi_in)
  go_frame
  have hstart : ColS (nsg ν) (Maps.has D) [] := ⟨List.nodup_nil, fun _ h => (by cases h), fun s hs kl hk => by
    obtain ⟨q, hq⟩ := nsg_some hs
    have := (hRel (.int .i64 s) kl hk).1 (.int .i64 q) (by simp [vm, hq])
    simp [this.1]⟩
  gi_loopw [3] (fun _ wr => ∃ (left : Lit → Bool) (cnt : Nat) (E : List Nat) (ss : List Int), wr.ranges Try.prog 3 Rid b W.heap.size n D left cnt ∧ ss.length + cnt ≤ n ∧ ColS (nsg ν) left ss ∧ J E ss wr ∧ W.heap.size ∈ E ∧ Below w0.heap.size w0 wr)
    (fun _ wr => wr.rangeLeft b W.heap.size)
  case atStart =>
    refine ⟨_, _, [W.heap.size], [], hrg0, by simp [hsz], hstart, hJ _ _ _ _ _ _ hj hg0 (fun r e => by cases e) (fun r hr => .inr (by simp at hr ⊢; omega)), by simp, hbel.grown hg0 hbel.size (fun k e => by cases e)⟩
  case round =>
    obtain ⟨left, cnt, E, ss, hrg, hcs, hC, hJs, hE, hbw⟩ := hrel
    gi_wp2_with (first
      | (gi_at_next; refine wpListIn_next_ranges (α := Value) (β := Value) _ rfl _ rfl 3 keyed3 Rid id id (fun key kl hk => ⟨key, rfl⟩) (fun v _ _ => ⟨v, rfl⟩) b W.heap.size n _ _ _ rfl hrg ?_ ?_)
      | gi_in)
    · intro hc0 hl0
      gi_wp2
      go_end0
      exact ⟨⟨_, rfl⟩, E, ss, ⟨hC.all hf hl0, by omega⟩, hJs⟩
    · intro x c kl yd yp w2 cnt2 hkx hlk hv hat hrg2 hlt hg2 hs2 hen
      have hhas := Maps.has_true_of_atKey hat
      obtain ⟨s, rfl, hsS⟩ : ∃ s, x = .int .i64 s ∧ nsg ν s ≠ none := vm_nsg fun e => by
        have := (hRel x kl hkx).2 e
        rw [hhas] at this
        cases this
      have hJ2 : J E ss w2 := hJ _ _ _ _ _ _ hJs hg2 (fun r e => by cases e; exact hE) (fun _ h => .inl h)
      have hlow : w0.heap.size ≤ W.heap.size := hbel.size
      have hbw2 : Below w0.heap.size w0 w2 := hbw.grown hg2 hbw.size (fun k e => by cases e; exact hlow)
      obtain ⟨lb, lr⟩ := ranges_lt hrg2
      obtain ⟨fn, tmps, assign, body, hy, hR⟩ := hY E ss s w2 hJ2 hbw2 (by omega) (m - 1)
      have HC : Hid (ColS (nsg ν) (fun z => left z && !z.sameKey kl) (ss ++ [s])) := hC.step hsS hkx hlk
      have HK : Hid (∀ W3, Kept w0.heap.size E w2 W3 → W3.ranges Try.prog 3 Rid b W.heap.size n D (fun z => left z && !z.sameKey kl) cnt2 ∧ Below w0.heap.size w0 W3) := fun W3 hk => ⟨ranges_same hrg2 (hk.below.block b hb) (hk.mine _ hE), hbw2.trans hk.below⟩
      have hle := hrg.left_eq
      clear hs2 hJ2 hJs hbw2 hg2 hrg2 hat hv hlk hkx hC hhas hsS
      gi_wp2
      refine ⟨fun h => (by cases h), hR.mono ?_⟩
      rintro e W3 ⟨rfl, hJ4, hk4⟩
      obtain ⟨hrg4, hb4⟩ := HK.out W3 hk4
      gi_wp2
      go_roundw
      case rel => exact ⟨_, cnt2, E, ss ++ [s], hrg4, by simp; omega, HC.out, hJ4, hE, hb4⟩
      case measure => rw [hrg4.left_eq, hle]; exact hlt


theorem keysI_any (mb : Option Nat) (w : World) :
    Calls Try.prog 58 #[.map mb] w fun e w' => e = .returned (.func (.func 79) #[] #[.pointer (some ⟨w.heap.size, 0, none⟩)]) ∧ w' = w.alloc (.cells #[.map mb] 49) := by
  go_enter Try.func58, Try.ntmps58
  go_wp2
  go_ret
  exact ⟨rfl, rfl⟩

theorem enter79 : ∀ args w, (callFunc 79 args).run Try.prog w = .ok (.enter 79 args) w := enters_of Try.func79 (by kernel_rfl) rfl

/-- What listed's loop keeps. -/
structure QL (w : World) (b : Nat) (τ : Ta) (ks : List Int) (i : Nat) (ps : List (Bd × Value)) (v : Value) (W : World) : Prop where
  row : W.ownsRow w.heap.size 35 4 v ps.length (flatB ps)
  only : Only [b] w W
  ls : ps.map (·.1) = listB τ (ks.take i)
  args : ∀ p ∈ ps, ArgsP (fun k => v.ownBlock ≠ some k ∧ k ≠ b) W p.2 p.1.2.args
  lb : b < w.heap.size

theorem QL.start (w : World) (b : Nat) (τ : Ta) (ks : List Int) (hb : b < w.heap.size) : QL w b τ ks 0 [] (.slice none 0 0) w :=
  ⟨World.ownsRow_nil _ _ _ _, Only.refl _ _, by simp [listB], by simp, hb⟩

section
variable {w : World} {b : Nat} {τ : Ta} {ks : List Int} {i : Nat} {ps : List (Bd × Value)} {v v' : Value} {W W' Y Z : World}
theorem QL.keep (h : QL w b τ ks i ps v W) (ho : Only [b] W W') : QL w b τ ks i ps v W' :=
  ⟨row6_keep h.row (fun k e => ho.block k (h.row.lt k e).2 (by have := (h.row.lt k e).1; have := h.lb; simp; omega)), h.only.trans ho (fun r hr => .inl hr), h.ls, fun p hp => (h.args p hp).keep ho.size (fun k hk hl => ⟨hk, ho.block k hl (by simpa using hk.2)⟩), h.lb⟩
theorem QL.len (h : QL w b τ ks i ps v W) : ps.length ≤ i := by
  have h1 := congrArg List.length h.ls
  have h2 := listB_len τ (ks.take i)
  rw [List.length_map] at h1
  rw [List.length_take] at h2
  omega
theorem QL.skip (h : QL w b τ ks i ps v W) (hi : i < ks.length) (hn : bindOf τ ks[i] = none) (ho : Only [b] W W') : QL w b τ ks (i + 1) ps v W' := by
  have h' := h.keep ho
  exact ⟨h'.row, h'.only, by rw [List.take_succ_eq_append_getElem hi, listB_snoc, hn, h'.ls]; simp, h'.args, h'.lb⟩
theorem QL.push (h : QL w b τ ks i ps v W) (hi : i < ks.length) {k : Int} {t : T} (hk : ks[i] = k) (hn : bindOf τ k = some (k, t)) {s : Value} (hs : ArgsFr W.heap.size Y s t.args) (hb : Only [b] W Y) (hz : Below Y.heap.size Y Z) (o : Obj)
    (hrow : W'.ownsRow w.heap.size 35 4 v' (ps.length + 1) (flatB ps ++ [.int .i64 k, .int .i64 t.v, .string t.fn, s])) (hg : (Z.alloc o).grownBy W' v.ownBlock) (ho : v'.ownBlock = v.ownBlock ∨ v'.ownBlock = some (Z.alloc o).heap.size) : QL w b τ ks (i + 1) (ps ++ [((k, t), s)]) v' W' := by
  have h' := h.keep (hb.trans (Only.of_below hz) (fun r hr => .inl hr))
  have hza : Below Z.heap.size Z (Z.alloc o) := below_box Z o
  have hlb := h.lb
  have hkeep : ∀ q, v.ownBlock ≠ some q ∧ q ≠ b → q < Z.heap.size → (v'.ownBlock ≠ some q ∧ q ≠ b) ∧ W'.heap[q]? = Z.heap[q]? := fun q hv hl => by
    refine ⟨⟨?_, hv.2⟩, (hg.block q (by simp; omega) (fun e => hv.1 e.symm)).trans (hza.block q hl)⟩
    rcases ho with e | e
    · rw [e]; exact hv.1
    · rw [e]; intro e2; have := Option.some.inj e2; simp at this; omega
  have hsz : Z.heap.size ≤ W'.heap.size := Nat.le_trans (by simp) hg.size
  refine ⟨by rw [List.length_append, List.length_singleton, flatB_snoc]; exact hrow, ?_, ?_, fun p hp => ?_, h.lb⟩
  · refine ⟨hg.os.trans h'.only.os, hg.tape.trans h'.only.tape, hg.output.trans h'.only.output, Nat.le_trans h'.only.size hsz, fun q hq hn => ?_⟩
    have h1 := (hg.block q (by have := h'.only.size; simp; omega) (fun e => by have := (h.row.lt q e.symm).1; omega)).trans (hza.block q (by have := h'.only.size; omega))
    exact h1.trans (h'.only.block q hq hn)
  · rw [List.take_succ_eq_append_getElem hi, listB_snoc, hk, hn, List.map_append, h.ls]
    simp
  · rcases List.mem_append.1 hp with hp | hp
    · exact (h'.args p hp).keep hsz hkeep
    · simp only [List.mem_singleton] at hp
      subst hp
      have hwb : w.heap.size ≤ W.heap.size := h.only.size
      have h1 : ArgsP (fun q => v.ownBlock ≠ some q ∧ q ≠ b) Y s t.args := hs.toP (fun q hq => ⟨fun e => by have := (h.row.lt q e).2; omega, by omega⟩)
      exact (h1.keep (P' := fun q => v.ownBlock ≠ some q ∧ q ≠ b) hz.size (fun q hq hl => ⟨hq, hz.block q hl⟩)).keep hsz hkeep
theorem QL.last (h : QL w b τ ks i ps v W) (hi : ks.length ≤ i) : BindsAt W v (listB τ ks) := by
  have h1 := h.ls
  rw [List.take_of_length_le hi] at h1
  rw [← h1]
  exact binds_of_row h.row (fun p hp => (h.args p hp).args)
end

end Go.Proofs.Ytblfbmdnkgebdaa

/-
  unify.listed, of the graph's first nodes: the walk.
-/
namespace Go.Proofs.Ytblfbmdnkgebdaa
open Go.RowKit Go.Maps

/-- What stands for each variable, by what is built of its first node. -/
def tauOf (ν : Nv) (β : Nat → T) : Ta := fun x => (ν x).map fun k => β k.toNat

theorem uvar_bel' (t : T) (sl : Value) (hs : ∃ a n c, sl = .slice a n c) (q : Bool) (hq : uvar t = q) (w : World) : Calls Try.prog 59 #[tval t sl] w fun e w' => e = .returned (.bool q) ∧ Below w.heap.size w w' := by
  subst hq
  exact uvar_bel t sl hs w

theorem ML.grown' {w0 w : World} {base g bv b c : Nat} {a bt : T} {n0 : Nat} {tm : Nat → T} {fs h : Nat → Nat} {ν : Nv} {n : Nat} {ns : List Nd} {X X' : World} {row : Option Nat} (H : ML w0 w base g bv b c n0 tm fs h ν n ns X) (hg : X.grownBy X' row) (hS : MS w0 w base g bv b c a bt n0 tm fs h ν n) (hr : ∀ q, row = some q → w.heap.size ≤ q) : ML w0 w base g bv b c n0 tm fs h ν n ns X' := by
  have hsz := H.only.size
  have key : ∀ k, k < w.heap.size → X'.heap[k]? = X.heap[k]? := fun k hk => hg.block k (by omega) (fun e => by have := hr k e.symm; omega)
  refine ⟨⟨(key g hS.lg).trans H.gat.box, row6_keep H.gat.row (fun k e => by cases e; exact key b hS.lb), H.gat.map.same (key bv hS.lv), H.gat.args, H.gat.ne, H.gat.own⟩, H.gr, H.ms, ?_⟩
  exact ⟨hg.os.trans H.only.os, hg.tape.trans H.only.tape, hg.output.trans H.only.output, Nat.le_trans hsz hg.size, fun k hk hn => (key k hk).trans (H.only.block k hk hn)⟩

set_option maxRecDepth 100000 in
set_option maxHeartbeats 4000000 in
theorem listedI_any (w0 w : World) (base g bv b c : Nat) (a bt : T) (n0 : Nat) (tm : Nat → T) (fs h : Nat → Nat) (ν : Nv) (n : Nat) (hS : MS w0 w base g bv b c a bt n0 tm fs h ν n) (hν : ∀ s k, ν s = some k → Fit64 s ∧ ∃ r : Nat, k = (r : Int) ∧ r < n0) (β : Nat → T) (hβ : ∀ i, i < n0 → Bl tm fs h i (β i))
    (ns : List Nd) (W : World) (hM : ML w0 w base g bv b c n0 tm fs h ν n ns W) (hn : n ≤ 1000000) :
    Calls Try.prog 30 #[.map (some bv), .func (.func 31) #[.pointer (some ⟨g, 0, none⟩)] #[]] W fun e W' => ∃ v ks, e = .returned v ∧ RiseT (tauOf ν β) ks ∧ BindsAt W' v (listB (tauOf ν β) ks) ∧ Only [b] W W' := by
  have hbk := below_box W (.cells #[.map (some bv)] 49)
  obtain ⟨ck, _⟩ := one_facts (MapKept.heap_alloc W (.cells #[.map (some bv)] 49)).1
  have hmap := hM.gat.map
  have hbvl : bv < W.heap.size := hmap.lt
  have hsort := sorted_any 79 #[.pointer (some ⟨W.heap.size, 0, none⟩)] enter79 (nsg ν) n hn (W.alloc (.cells #[.map (some bv)] 49)) (fun X hX => keys79_any (W.alloc (.cells #[.map (some bv)] 49)) W.heap.size bv ν n (fun x hx => by obtain ⟨k, hk⟩ := nsg_some hx; exact (hν x k hk).1) (by simp; omega) (hmap.same (hbk.block bv hbvl)) X hX (kc hX (by simp) ck))
  have hkeys := keysI_any (some bv) W
  have HH : Hid (MS w0 w base g bv b c a bt n0 tm fs h ν n ∧ (∀ s k, ν s = some k → Fit64 s ∧ ∃ r : Nat, k = (r : Int) ∧ r < n0) ∧ (∀ i, i < n0 → Bl tm fs h i (β i)) ∧ w.heap.size ≤ W.heap.size ∧ Below W.heap.size W (W.alloc (.cells #[.map (some bv)] 49)) ∧ ML w0 w base g bv b c n0 tm fs h ν n ns W) := ⟨hS, hν, hβ, hM.only.size, hbk, hM⟩
  obtain ⟨i0, hi0, hz0, hz1, hz2⟩ := info_parts Try.info35
  clear hmap ck hS hν hβ hM hbk
  go_enter Try.func30, Try.ntmps30
  go_wp2_with (first
    | (go_at_call 57; refine hsort.mono ?_; rintro e W1 ⟨kv, ks, rfl, hR, hkl, hrow, hb1⟩; obtain ⟨ka, kc', rfl⟩ := rowB_form hrow; have HR : Hid (RiseKeys (nsg ν) ks ∧ W1.ownsRow (W.alloc (.cells #[.map (some bv)] 49)).heap.size 3 1 (.slice ka ks.length kc') ks.length (flatS ks) ∧ Below W.heap.size W W1) := ⟨hR, hrow, HH.out.2.2.2.2.1.trans (hb1.mono (by simp))⟩; clear hR hrow hb1 hsort)
    | (go_at_call 58; refine hkeys.mono ?_; rintro e w' ⟨rfl, rfl⟩))
  have hbl : b < W1.heap.size := by have := HH.out.1.lb; have := HR.out.2.2.size; have := HH.out.2.2.2.1; omega
  go_loopw [5, 13] (fun vo vi wr => ∃ (i : Nat) (ps : List (Bd × Value)), vi = .int .i64 i ∧ i ≤ ks.length ∧ Hid (QL W1 b (tauOf ν β) ks i ps vo wr ∧ ∃ ns, ML w0 w base g bv b c n0 tm fs h ν n ns wr)) (fun _ vi _ => ks.length - (intOf vi).toNat)
  case atStart => exact ⟨0, [], rfl, Nat.zero_le _, QL.start W1 b _ ks hbl, ns, HH.out.2.2.2.2.2.keep HR.out.2.2⟩
  case round =>
    obtain ⟨i, ps, rfl, hi, HQ⟩ := hrel
    obtain ⟨pa, pc, hv⟩ := rowB_form HQ.out.1.row
    subst hv
    by_cases hlt : i < ks.length
    · obtain ⟨G, e, hgl, cg⟩ := row_nth HR.out.2.1 hlt
      cases e
      have hGb : G ≠ b := by have := HH.out.1.lb; have := HH.out.2.2.2.1; have h3 := (HR.out.2.1.lt G rfl).1; rw [World.size_alloc] at h3; omega
      have cg' : wr.cell? ⟨G, i, none⟩ = some (.int .i64 ks[i]) := (World.cell?_of_block (a := ⟨G, i, none⟩) (HQ.out.1.only.block G hgl (by simpa using hGb))).trans cg
      have hki : ks[i] ∈ ks := List.getElem_mem hlt
      obtain ⟨kk, hkk⟩ := nsg_some ((HR.out.1.2 _).1 hki)
      obtain ⟨k, hk⟩ : ∃ k, ks[i] = k := ⟨_, rfl⟩
      rw [hk] at cg' hkk
      obtain ⟨hF, r, rfl, hr⟩ := HH.out.2.1 k kk hkk
      obtain ⟨ns3, ml3⟩ := HQ.out.2
      have hlk := (((ml3.gat.map).look keyed3 Try.underlying49 (Try.zeroValue3 _) (key3 hF)).1 (.int .i64 (r : Int)) (by simp [vm, hkk])).2
      have hcop := built_any w0 w base g bv b c a bt n0 tm fs h ν n HH.out.1 (β r) ns3 wr r hr (HH.out.2.2.1 r hr) ml3
      have hτ : tauOf ν β k = some (β r) := by simp [tauOf, hkk]
      have hpl : ps.length ≤ i := HQ.out.1.len
      obtain ⟨t, ht⟩ : ∃ t, β r = t := ⟨_, rfl⟩
      rw [ht] at hcop hτ
      have hii : (i : Int) < (ks.length : Int) := by omega
      have hi0' : (0 : Int) ≤ (i : Int) := Int.natCast_nonneg i
      clear hF cg hki ml3 ht hkk hr hGb
      have hkl' : ks.length ≤ 1000000 := by omega
      cases hut : uvar t
      · have HK : Hid (ks[i] = k ∧ bindOf (tauOf ν β) k = some (k, t)) := ⟨hk, bind_some hτ (.inl hut)⟩
        have HUV : Hid (uvar t = false) := hut
        clear hk hτ hut
        go_wp2_with fail
        refine hcop.mono ?_
        rintro e Y ⟨s', ns4, rfl, hfr, ml4, on4⟩
        obtain ⟨sa, sc, rfl⟩ := hfr.slice
        have HY : Hid (ArgsFr wr.heap.size Y (.slice sa t.args.length sc) t.args ∧ ML w0 w base g bv b c n0 tm fs h ν n ns4 Y ∧ Only [b] wr Y) := ⟨hfr, ml4, on4⟩
        obtain ⟨⟨y0, y1, y2⟩, _⟩ := box_facts (MapKept.heap_alloc Y (.cells #[.int .i64 t.v, .string t.fn, .slice sa t.args.length sc] 24)).1
        have hu := uvar_bel' t (.slice sa t.args.length sc) ⟨_, _, _, rfl⟩ false HUV.out (Y.alloc (.cells #[.int .i64 t.v, .string t.fn, .slice sa t.args.length sc] 24))
        clear hfr ml4 on4 hcop hlk cg'
        go_wp2_with fail
        refine hu.mono ?_
        rintro e Z ⟨rfl, hbZ⟩
        have z0 := kc hbZ (by simp) y0
        have z1 := kc hbZ (by simp) y1
        have z2 := kc hbZ (by simp) y2
        have HZ : Hid (Below Y.heap.size Y Z) := (below_box Y _).trans (hbZ.mono (by simp))
        clear hbZ hu y0 y1 y2
        go_wp2_with (at_builtin; have HRW : Hid ((Z.alloc (.cells #[.int .i64 k, .int .i64 t.v, .string t.fn, .slice sa t.args.length sc] 35)).ownsRow W1.heap.size 35 4 (.slice pa ps.length pc) ps.length (flatB ps)) := (HQ.out.1.keep (HY.out.2.2.trans (Only.of_below (HZ.out.trans ((below_box Z _).mono HZ.out.size))) (fun r hr => .inl hr))).row; have HS : Hid (W1.heap.size ≤ (Z.alloc (.cells #[.int .i64 k, .int .i64 t.v, .string t.fn, .slice sa t.args.length sc] 35)).heap.size) := by { have h1 := HQ.out.1.only.size; have h2 := HY.out.2.2.size; have h3 := HZ.out.size; show W1.heap.size ≤ _; simp; omega }; refine wpList_append_own_at _ rfl _ _ 25 rfl W1.heap.size 35 i0 (.agg #[.int .i64 0, .int .i64 0, .string ⟨#[]⟩, .slice none 0 0]) 4 56 Try.underlying25 hi0 hz0 hz1 hz2 rfl (by decide) _ _ _ rfl HRW.out ⟨Z.heap.size, 0, none⟩ 1 1 [.int .i64 k, .int .i64 t.v, .string t.fn, .slice sa t.args.length sc] rfl rfl (lit4 Z _ _ _ _ 35) (by simp [Value.oneCell']) (by unfold maxLen; omega) (by omega) HS.out ?_; intro v5 w5 h2 h3 _ h5; obtain ⟨pa5, pc5, rfl⟩ := rowB_form h2; have HE : Hid (QL W1 b (tauOf ν β) ks (i + 1) (ps ++ [((k, t), .slice sa t.args.length sc)]) (.slice pa5 (ps.length + 1) pc5) w5 ∧ ∃ ns, ML w0 w base g bv b c n0 tm fs h ν n ns w5) := ⟨HQ.out.1.push hlt HK.out.1 HK.out.2 HY.out.1 HY.out.2.2 HZ.out _ h2 h3 h5, _, ML.grown' (HY.out.2.1.keep (HZ.out.trans ((below_box Z _).mono HZ.out.size))) h3 HH.out.1 (fun q e => by have := (HQ.out.1.row.lt q e).1; have := HR.out.2.2.size; have := HH.out.2.2.2.1; omega)⟩; clear h2 h3 h5 HRW HS)
        go_roundw
        case rel => exact ⟨i + 1, _, by go_num, by omega, HE.out⟩
        case measure => simp [intOf]; omega
      · by_cases hvk : t.v = k
        · have HK : Hid (bindOf (tauOf ν β) ks[i] = none) := by show bindOf (tauOf ν β) ks[i] = none; rw [hk]; exact bind_none hτ hut hvk
          have hvk' : (t.v != k) = false := by rw [bne_eq_false_iff_eq]; exact hvk
          clear hvk
          have HUV : Hid (uvar t = true) := hut
          clear hk hτ hut
          go_wp2_with fail
          refine hcop.mono ?_
          rintro e Y ⟨s', ns4, rfl, hfr, ml4, on4⟩
          obtain ⟨sa, sc, rfl⟩ := hfr.slice
          have HY : Hid (ArgsFr wr.heap.size Y (.slice sa t.args.length sc) t.args ∧ ML w0 w base g bv b c n0 tm fs h ν n ns4 Y ∧ Only [b] wr Y) := ⟨hfr, ml4, on4⟩
          obtain ⟨⟨y0, y1, y2⟩, _⟩ := box_facts (MapKept.heap_alloc Y (.cells #[.int .i64 t.v, .string t.fn, .slice sa t.args.length sc] 24)).1
          have hu := uvar_bel' t (.slice sa t.args.length sc) ⟨_, _, _, rfl⟩ true HUV.out (Y.alloc (.cells #[.int .i64 t.v, .string t.fn, .slice sa t.args.length sc] 24))
          clear hfr ml4 on4 hcop hlk cg'
          go_wp2_with fail
          refine hu.mono ?_
          rintro e Z ⟨rfl, hbZ⟩
          have z0 := kc hbZ (by simp) y0
          have z1 := kc hbZ (by simp) y1
          have z2 := kc hbZ (by simp) y2
          have HZ : Hid (Below Y.heap.size Y Z) := (below_box Y _).trans (hbZ.mono (by simp))
          clear hbZ hu y0 y1 y2
          go_wp2
          have HE : Hid (QL W1 b (tauOf ν β) ks (i + 1) ps (.slice pa ps.length pc) Z ∧ ∃ ns, ML w0 w base g bv b c n0 tm fs h ν n ns Z) := ⟨HQ.out.1.skip hlt HK.out (HY.out.2.2.trans (Only.of_below HZ.out) (fun r hr => .inl hr)), _, HY.out.2.1.keep HZ.out⟩
          go_roundw
          case rel => exact ⟨i + 1, _, by go_num, by omega, HE.out⟩
          case measure => simp [intOf]; omega
        · have HK : Hid (ks[i] = k ∧ bindOf (tauOf ν β) k = some (k, t)) := ⟨hk, bind_some hτ (.inr hvk)⟩
          have hvk' : (t.v != k) = true := by rw [bne_iff_ne]; exact hvk
          clear hvk
          have HUV : Hid (uvar t = true) := hut
          clear hk hτ hut
          go_wp2_with fail
          refine hcop.mono ?_
          rintro e Y ⟨s', ns4, rfl, hfr, ml4, on4⟩
          obtain ⟨sa, sc, rfl⟩ := hfr.slice
          have HY : Hid (ArgsFr wr.heap.size Y (.slice sa t.args.length sc) t.args ∧ ML w0 w base g bv b c n0 tm fs h ν n ns4 Y ∧ Only [b] wr Y) := ⟨hfr, ml4, on4⟩
          obtain ⟨⟨y0, y1, y2⟩, _⟩ := box_facts (MapKept.heap_alloc Y (.cells #[.int .i64 t.v, .string t.fn, .slice sa t.args.length sc] 24)).1
          have hu := uvar_bel' t (.slice sa t.args.length sc) ⟨_, _, _, rfl⟩ true HUV.out (Y.alloc (.cells #[.int .i64 t.v, .string t.fn, .slice sa t.args.length sc] 24))
          clear hfr ml4 on4 hcop hlk cg'
          go_wp2_with fail
          refine hu.mono ?_
          rintro e Z ⟨rfl, hbZ⟩
          have z0 := kc hbZ (by simp) y0
          have z1 := kc hbZ (by simp) y1
          have z2 := kc hbZ (by simp) y2
          have HZ : Hid (Below Y.heap.size Y Z) := (below_box Y _).trans (hbZ.mono (by simp))
          clear hbZ hu y0 y1 y2
          go_wp2_with (at_builtin; have HRW : Hid ((Z.alloc (.cells #[.int .i64 k, .int .i64 t.v, .string t.fn, .slice sa t.args.length sc] 35)).ownsRow W1.heap.size 35 4 (.slice pa ps.length pc) ps.length (flatB ps)) := (HQ.out.1.keep (HY.out.2.2.trans (Only.of_below (HZ.out.trans ((below_box Z _).mono HZ.out.size))) (fun r hr => .inl hr))).row; have HS : Hid (W1.heap.size ≤ (Z.alloc (.cells #[.int .i64 k, .int .i64 t.v, .string t.fn, .slice sa t.args.length sc] 35)).heap.size) := by { have h1 := HQ.out.1.only.size; have h2 := HY.out.2.2.size; have h3 := HZ.out.size; show W1.heap.size ≤ _; simp; omega }; refine wpList_append_own_at _ rfl _ _ 25 rfl W1.heap.size 35 i0 (.agg #[.int .i64 0, .int .i64 0, .string ⟨#[]⟩, .slice none 0 0]) 4 56 Try.underlying25 hi0 hz0 hz1 hz2 rfl (by decide) _ _ _ rfl HRW.out ⟨Z.heap.size, 0, none⟩ 1 1 [.int .i64 k, .int .i64 t.v, .string t.fn, .slice sa t.args.length sc] rfl rfl (lit4 Z _ _ _ _ 35) (by simp [Value.oneCell']) (by unfold maxLen; omega) (by omega) HS.out ?_; intro v5 w5 h2 h3 _ h5; obtain ⟨pa5, pc5, rfl⟩ := rowB_form h2; have HE : Hid (QL W1 b (tauOf ν β) ks (i + 1) (ps ++ [((k, t), .slice sa t.args.length sc)]) (.slice pa5 (ps.length + 1) pc5) w5 ∧ ∃ ns, ML w0 w base g bv b c n0 tm fs h ν n ns w5) := ⟨HQ.out.1.push hlt HK.out.1 HK.out.2 HY.out.1 HY.out.2.2 HZ.out _ h2 h3 h5, _, ML.grown' (HY.out.2.1.keep (HZ.out.trans ((below_box Z _).mono HZ.out.size))) h3 HH.out.1 (fun q e => by have := (HQ.out.1.row.lt q e).1; have := HR.out.2.2.size; have := HH.out.2.2.2.1; omega)⟩; clear h2 h3 h5 HRW HS)
          go_roundw
          case rel => exact ⟨i + 1, _, by go_num, by omega, HE.out⟩
          case measure => simp [intOf]; omega
    · have HB : Hid (BindsAt wr (.slice pa ps.length pc) (listB (tauOf ν β) ks) ∧ Only [b] W wr) := ⟨HQ.out.1.last (by omega), (Only.of_below HR.out.2.2).trans HQ.out.1.only (fun r hr => .inl hr)⟩
      go_wp2
      go_ret
      refine ⟨_, ks, rfl, ⟨HR.out.1.1, fun x => ?_⟩, HB.out.1, HB.out.2⟩
      rw [HR.out.1.2 x, nsg_iff]
      unfold tauOf
      cases ν x <;> simp

end Go.Proofs.Ytblfbmdnkgebdaa
