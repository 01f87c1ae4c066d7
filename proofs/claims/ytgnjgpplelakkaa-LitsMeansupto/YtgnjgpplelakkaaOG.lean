import Derived.Test.YtgnjgpplelakkaaOE
import Derived.Deep.RegionHeld3

/-
  The document's interpretations: all, All.
-/
namespace Go.Proofs.Ytgnjgpplelakkaa
open Go.RowKit

/-- 'append' of one row of numbers to another. -/
theorem run_append_two (w : World) (base b2 : Nat) (ty : TypeId) (v x : Value) (n m : Nat) (xs news : List Value) (h1 : w.ownsRow base 3 1 v n xs) (h2 : w.ownsRow b2 3 1 x m news) (hnews : ∀ u ∈ news, u.oneCell' = true) (hn : n + m ≤ 2097152) (hb : base ≤ w.heap.size) :
    ∃ v' w', (Builtin.append_ #[33, 33] ty #[v, x]).run Try.prog w = .ok v' w' ∧ w'.ownsRow base 3 1 v' (n + m) (xs ++ news) ∧ w.grownBy w' v.ownBlock := by
  obtain ⟨i0, hi, hz0, hz1, hz2⟩ := info_parts Try.info3
  have hl := h2.1
  rcases h2.2 with ⟨rfl, rfl⟩ | ⟨g, cap, cur, rfl, hbg, hg, _⟩
  · have e : news = [] := List.eq_nil_of_length_eq_zero (by omega)
    subst e
    exact ⟨v, w, run_append_owned_none w base 33 ty 3 i0 1 Try.underlying33 hi v n xs h1, by simpa using h1, ⟨rfl, rfl, rfl, Nat.le_refl _, fun _ _ _ => rfl⟩⟩
  · obtain ⟨v', w', hr, a1, a2, _, a3⟩ := run_append_own_at (P := Try.prog) w base 33 ty 3 i0 (.int .i64 0) 1 8 Try.underlying33 hi hz0 hz1 hz2 rfl (by decide) v n xs h1 ⟨g, 0, none⟩ m cap news hl (h2.cells rfl) hnews (by unfold maxLen; omega) (by omega) hb
    exact ⟨v', w', hr, a1, a2⟩

/-- 'append', by its run. -/
theorem wp_app_run (w : World) {o : Oper} {a : Act} {K : Act → World → Prop} {Q : Exit → Act → World → Prop} (s x : Operand) (t : TypeId)
    (ho : o.op = .call { callee := .builtin .append, args := #[s, x], argTypes := #[t, t] }) (v u : Value) (hs : a.eval s = v) (hx : a.eval x = u) (v' : Value) (w' : World) (hr : (Builtin.append_ #[t, t] o.type #[v, u]).run Try.prog w = .ok v' w') (h : K (a.put o.dst v') w') :
    Oper.wp Try.prog o a w K Q := by
  unfold Oper.wp execOp
  simp only [ho, resolve, invoke, builtin, Sem.run_bind, Sem.run_pure, Result.andThen_ok, List.map_toArray, List.map_cons, List.map_nil, hs, hx, hr]
  exact h

/-- An operation taken ahead. -/
theorem take_mk {P : Program} {md : Region.Mode} {ops : Array Oper} {Q : Exit → Act → World → Prop} {S : World → Prop} (i : Nat) (v : Value) {d : Option Tmp} {op : Op} {ty : TypeId} {pos : String} {aft} {gd} {fuel : Nat} {listed : Array Bool} {a : Act} {w : World} (hi : ops[i]? = some ⟨d, op, ty, pos, aft, gd⟩)
    (hs : Region.noSelect ops = true) (hf : Region.free md ops listed i = true) (hr : (Region.ready md ops listed).contains i = true)
    (hQ : ∀ c a w, Q (.panic c) (a.put d v) w → Q (.panic c) a w) (hy : YieldsIf P ops S ⟨d, op, ty, pos, aft, gd⟩ v a) (hS : S w)
    (h : wpAnyH P md ops Q S fuel (listed.setIfInBounds i true) (a.put d v) w) : wpAnyH P md ops Q S (fuel + 1) listed a w :=
  wpAnyH_take hi hs hf hr hQ hy hS h

theorem row_new0 (w : World) (b : Nat) (hb : b ≤ w.heap.size) : (w.alloc (.cells #[] 3)).ownsRow b 3 1 (.slice (some ⟨w.heap.size, 0, none⟩) 0 0) 0 [] :=
  ⟨rfl, .inr ⟨w.heap.size, 0, #[], rfl, hb, (MapKept.heap_alloc w _).1, Nat.le_refl _, by decide, rfl, rfl⟩⟩
theorem row_new1 (w : World) (b : Nat) (hb : b ≤ w.heap.size) (x : Int) : (w.alloc (.cells #[.int .i64 x] 3)).ownsRow b 3 1 (.slice (some ⟨w.heap.size, 0, none⟩) 1 1) 1 [.int .i64 x] :=
  ⟨rfl, .inr ⟨w.heap.size, 1, #[.int .i64 x], rfl, hb, (MapKept.heap_alloc w _).1, Nat.le_refl _, by decide, rfl, rfl⟩⟩

theorem grown_below {n : Nat} {w w' : World} {r : Option Nat} (h : w.grownBy w' r) (hn : n ≤ w.heap.size) (hr : ∀ g, r = some g → n ≤ g) : Below n w w' :=
  ⟨h.os, h.tape, h.output, h.size, fun k hk => h.block k (by omega) (fun e => by have := hr k e.symm; omega)⟩
theorem row_grown {w w' : World} {r : Option Nat} {b : Nat} {v : Value} {n : Nat} {xs : List Value} (h : w.ownsRow b 3 1 v n xs) (hg : w.grownBy w' r) (hr : ∀ g, v.ownBlock = some g → r ≠ some g) : w'.ownsRow b 3 1 v n xs :=
  h.kept hg (by
    cases hv : v.ownBlock with
    | none => exact .inl rfl
    | some g => exact .inr (hr g hv).symm)

end Go.Proofs.Ytgnjgpplelakkaa

/-
  The document's interpretations: all.
-/
namespace Go.Proofs.Ytgnjgpplelakkaa
open Go.RowKit

theorem ones_ints (xs : List Int) : ∀ u ∈ xs.map (Value.int .i64), u.oneCell' = true := by
  intro u hu
  obtain ⟨z, _, rfl⟩ := List.mem_map.1 hu
  rfl

/-- all's contract, with k variables to come. -/
def AllAt (sz : Int) (rule : List Int) (vr : Value) (l : List Lt) (v : Value) (n k : Nat) : Prop :=
  ∀ (xs : List Int) (vx : Value) (b2 : Nat) (w : World), Wd sz rule vr w → w.ownsRow b2 3 1 vx xs.length (xs.map (Value.int .i64)) → ClauseAt w v l → xs.length + k = n →
    Calls Try.prog 68 #[wval sz vr, v, vx, .int .i64 (n : Int)] w fun e w' => e = .returned (.bool (allB (pk sz rule) (thg sz) sz.toNat l k xs)) ∧ Below w.heap.size w w'

set_option maxRecDepth 100000 in
set_option maxHeartbeats 1000000 in
theorem all_zero (sz : Int) (rule : List Int) (vr : Value) (l : List Lt) (v : Value) (n : Nat) (hsh : Shaped l) : AllAt sz rule vr l v n 0 := by
  intro xs vx b2 w hw hx hc he
  have hlx : xs.length = n := by omega
  have hx' := ints_of_row hx
  have hh : ∀ W, Below w.heap.size w W → Calls Try.prog 94 #[wval sz vr, v, vx] W fun e w' => e = .returned (.bool (allB (pk sz rule) (thg sz) sz.toNat l 0 xs)) ∧ Below W.heap.size W w' :=
    fun W hW => holds_any sz rule vr xs vx l v W (hw.keep hW) (hx'.keep hW) (hc.keep hW) hsh
  obtain ⟨ra, rc, rfl⟩ := hw.at_.slice
  obtain ⟨xa, xc, rfl⟩ := row_form hx
  obtain ⟨a, c, rfl⟩ := hc.slice
  have hb1 := below_box w (wbox sz (.slice ra rule.length rc))
  obtain ⟨c0, c1⟩ := wbox_cells w sz (.slice ra rule.length rc)
  have h1 := hh _ hb1
  have hle : (n : Int) ≤ (xs.length : Int) := by omega
  clear hw hx hc hx' hh he hlx
  go_enter Try.func68, Try.ntmps68
  go_wp2_with (go_at_call 94; refine h1.mono ?_; rintro e w' ⟨rfl, hb'⟩)
  go_ret
  exact ⟨rfl, hb1.trans (hb'.mono hb1.size)⟩

/-- All things so far. -/
def UpTo (f : Nat → Bool) (i : Nat) : Prop := (List.range i).all f = true
def Say (r : Bool) (f : Nat → Bool) (i : Nat) (R : Bool) : Prop := match r with
  | true => UpTo f (i + 1)
  | false => R = false

theorem all_take_succ {f : Nat → Bool} (i : Nat) (h0 : (List.range i).all f = true) (h1 : f i = true) : (List.range (i + 1)).all f = true := by
  rw [List.range_succ, List.all_append, h0]
  simp [h1]

set_option maxRecDepth 100000 in
set_option maxHeartbeats 4000000 in
theorem all_succ (sz : Int) (rule : List Int) (vr : Value) (l : List Lt) (v : Value) (n k : Nat) (hn : n ≤ 1000000) (ih : AllAt sz rule vr l v n k) : AllAt sz rule vr l v n (k + 1) := by
  intro xs vx b2 w hw hx hc he
  have HA : Hid (allB (pk sz rule) (thg sz) sz.toNat l (k + 1) xs = (List.range sz.toNat).all fun x => allB (pk sz rule) (thg sz) sz.toNat l k (xs ++ [(x : Int)])) := rfl
  obtain ⟨f, hf⟩ : ∃ f, (fun x : Nat => allB (pk sz rule) (thg sz) sz.toNat l k (xs ++ [(x : Int)])) = f := ⟨_, rfl⟩
  rw [hf] at HA
  have HF : Hid (∀ x : Nat, allB (pk sz rule) (thg sz) sz.toNat l k (xs ++ [(x : Int)]) = f x) := fun x => by rw [← hf]
  obtain ⟨R, hR⟩ : ∃ R, allB (pk sz rule) (thg sz) sz.toNat l (k + 1) xs = R := ⟨_, rfl⟩
  rw [hR] at HA ⊢
  obtain ⟨ra, rc, rfl⟩ := hw.at_.slice
  obtain ⟨va, vc, rfl⟩ := row_form hx
  obtain ⟨a, c, rfl⟩ := hc.slice
  have hb1 := below_box w (wbox sz (.slice ra rule.length rc))
  obtain ⟨c0, c1⟩ := wbox_cells w sz (.slice ra rule.length rc)
  obtain ⟨W1, hW1⟩ : ∃ W1, w.alloc (wbox sz (.slice ra rule.length rc)) = W1 := ⟨_, rfl⟩
  have hsz1 : W1.heap.size = w.heap.size + 1 := by rw [← hW1]; simp
  rw [hW1] at c0 c1 hb1
  have HC0 : Hid (∀ (x : Nat) (X : World) (u : Value) (b : Nat), Below w.heap.size w X → X.ownsRow b 3 1 u (xs.length + 1) (xs.map (Value.int .i64) ++ [.int .i64 (x : Int)]) → Calls Try.prog 68 #[wval sz (.slice ra rule.length rc), .slice a l.length c, u, .int .i64 (n : Int)] X fun e w' => e = .returned (.bool (f x)) ∧ Below X.heap.size X w') := by
    intro x X u b hX hu
    have := ih (xs ++ [(x : Int)]) u b X (hw.keep hX) (by simpa using hu) (hc.keep hX) (by simp; omega)
    rwa [HF.out x] at this
  have HR0 : Hid (∀ X, Below w.heap.size w X → X.ownsRow b2 3 1 (.slice va xs.length vc) xs.length (xs.map (Value.int .i64))) := fun X hX => row_below hx hX
  have HB1 : Hid (Below w.heap.size w W1) := hb1
  have hszs : 1 ≤ sz ∧ sz ≤ 3 := ⟨hw.lo, hw.hi⟩
  have HD : Hid (∀ X, Below W1.heap.size W1 X → X.cell? ⟨w.heap.size, 0, none⟩ = some (.int .i64 sz) ∧ X.cell? ⟨w.heap.size, 1, none⟩ = some (.slice ra rule.length rc)) := fun X hX => ⟨kc hX (by omega) c0, kc hX (by omega) c1⟩
  have hlx : xs.length < n := by omega
  have hnx : ¬ (n ≤ xs.length) := by omega
  have hnd : decide (n ≤ xs.length) = false := decide_eq_false hnx
  clear hw hx hc he ih hf hR hb1 c0 c1
  go_enter Try.func68, Try.ntmps68
  go_wp2
  first | rw [hW1] | skip
  go_loopw [9] (fun vi wr => ∃ i : Nat, vi = .int .i64 i ∧ (i : Int) ≤ sz ∧ Hid (UpTo f i) ∧ Below W1.heap.size W1 wr) (fun vi _ => (sz - intOf vi).toNat)
  case atStart => exact ⟨0, rfl, by omega, rfl, by first | exact Below.refl _ _ | (rw [← hW1]; exact Below.refl _ _)⟩
  case round =>
    obtain ⟨i, rfl, hi, hall, hb⟩ := hrel
    obtain ⟨d0, d1⟩ := HD.out wr hb
    have HB : Hid (Below W1.heap.size W1 wr) := hb
    by_cases hlt : (i : Int) < sz
    · have HT : Hid (∀ q, f i = q → Say q f i R) := by
        intro q hq
        cases q
        · show R = false
          rw [HA.out, List.all_eq_false]
          exact ⟨i, List.mem_range.2 (by omega), by simp [hq]⟩
        · exact all_take_succ i hall.out hq
      obtain ⟨r, hr⟩ : ∃ r, f i = r := ⟨_, rfl⟩
      have HQ : Hid (Say r f i R) := HT.out r hr
      have hwr : Below w.heap.size w wr := HB1.out.trans (hb.mono HB1.out.size)
      have HC1 : Hid (∀ (X : World) (u : Value), Below wr.heap.size wr X → X.ownsRow wr.heap.size 3 1 u (xs.length + 1) (xs.map (Value.int .i64) ++ [.int .i64 (i : Int)]) → Calls Try.prog 68 #[wval sz (.slice ra rule.length rc), .slice a l.length c, u, .int .i64 (n : Int)] X fun e w' => e = .returned (.bool r) ∧ Below X.heap.size X w') := by
        intro X u hX hu
        have := HC0.out i X u _ (hwr.trans (hX.mono hwr.size)) hu
        rwa [hr] at this
      have HR1 : Hid (∀ X, Below wr.heap.size wr X → X.ownsRow b2 3 1 (.slice va xs.length vc) xs.length (xs.map (Value.int .i64))) := fun X hX => HR0.out X (hwr.trans (hX.mono hwr.size))
      have hd : Below wr.heap.size wr wr.drew := (Below.refl _ wr).drew
      have HD1 : Hid (Below W1.heap.size W1 wr.drew) := hb.drew
      have HC : Hid (∀ (X : World) (u : Value), Below wr.drew.heap.size wr.drew X → X.ownsRow wr.drew.heap.size 3 1 u (xs.length + 1) (xs.map (Value.int .i64) ++ [.int .i64 (i : Int)]) → Calls Try.prog 68 #[wval sz (.slice ra rule.length rc), .slice a l.length c, u, .int .i64 (n : Int)] X fun e w' => e = .returned (.bool r) ∧ Below X.heap.size X w') := fun X u hX hu => HC1.out X u (hd.trans hX) hu
      have HR : Hid (∀ X, Below wr.drew.heap.size wr.drew X → X.ownsRow b2 3 1 (.slice va xs.length vc) xs.length (xs.map (Value.int .i64))) := fun X hX => HR1.out X (hd.trans hX)
      have q0 : ∀ X, Below wr.drew.heap.size wr.drew X → X.cell? ⟨w.heap.size, 0, none⟩ = some (.int .i64 sz) := fun X hX => (HD.out X (HD1.out.trans (hX.mono HD1.out.size))).1
      have q1 : ∀ X, Below wr.drew.heap.size wr.drew X → X.cell? ⟨w.heap.size, 1, none⟩ = some (.slice ra rule.length rc) := fun X hX => (HD.out X (HD1.out.trans (hX.mono HD1.out.size))).2
      have hW1N : W1.heap.size ≤ wr.drew.heap.size := HD1.out.size
      have le0 : ∀ X, Below wr.drew.heap.size wr.drew X → wr.drew.heap.size ≤ X.heap.size := fun X hX => hX.size
      have hrf : Below wr.drew.heap.size wr.drew wr.drew := Below.refl _ _
      clear HC0 HR0 HC1 HR1 HT hr hwr hd hb
      obtain ⟨N0, hN0⟩ : ∃ N0, wr.drew.heap.size = N0 := ⟨_, rfl⟩
      rw [hN0] at HC HR q0 q1 hW1N le0 hrf
      clear hN0
      go_wp2
      refine wp_region_held_drew (S := fun X => Below N0 wr.drew X) (by kernel_rfl) hrf (fun hHeld => ?_)
      generalize wr.drew = Wd at *
      refine take_mk 0 (wval sz (.slice ra rule.length rc)) rfl (by kernel_rfl) (by kernel_rfl) (by kernel_rfl) (fun _ _ _ h => h) (Or.inl ⟨by rfl, fun X hX => by have := q0 X hX; have := q1 X hX; go_simp⟩) (by assumption) ?_
      try simp only [Act.put, List.setIfInBounds_toArray, List.set_cons_zero, List.set_cons_succ]
      refine take_mk 1 (.slice a l.length c) rfl (by kernel_rfl) (by kernel_rfl) (by kernel_rfl) (fun _ _ _ h => h) (Or.inl ⟨by rfl, fun X hX => by go_simp⟩) (by assumption) ?_
      try simp only [Act.put, List.setIfInBounds_toArray, List.set_cons_zero, List.set_cons_succ]
      refine take_mk 3 (.slice va xs.length vc) rfl (by kernel_rfl) (by kernel_rfl) (by kernel_rfl) (fun _ _ _ h => h) (Or.inl ⟨by rfl, fun X hX => by go_simp⟩) (by assumption) ?_
      try simp only [Act.put, List.setIfInBounds_toArray, List.set_cons_zero, List.set_cons_succ]
      refine take_mk 5 (.int .i64 (i : Int)) rfl (by kernel_rfl) (by kernel_rfl) (by kernel_rfl) (fun _ _ _ h => h) (Or.inl ⟨by rfl, fun X hX => by go_simp⟩) (by assumption) ?_
      try simp only [Act.put, List.setIfInBounds_toArray, List.set_cons_zero, List.set_cons_succ]
      refine take_mk 8 (.int .i64 (n : Int)) rfl (by kernel_rfl) (by kernel_rfl) (by kernel_rfl) (fun _ _ _ h => h) (Or.inl ⟨by rfl, fun X hX => by go_simp⟩) (by assumption) ?_
      try simp only [Act.put, List.setIfInBounds_toArray, List.set_cons_zero, List.set_cons_succ]
      clear q0 q1
      refine wpAnyH_ready (rs := [2, 6]) (by kernel_rfl) (by simp) (AllReadyH.cons (o := ⟨_, _, _, _, _, _⟩) rfl (fun K hK => ?emp) (AllReadyH.cons (o := ⟨_, _, _, _, _, _⟩) rfl (fun K hK => ?new0) AllReadyH.nil))
      case' emp =>
        rw [if_pos (by rfl)]
        go_simp
        obtain ⟨XE, eE⟩ : ∃ X, World.alloc Wd (.cells #[] 3) = X := ⟨_, rfl⟩
        have hbE : Below (World.heap Wd).size Wd XE := by rw [← eE]; exact below_box _ _
        have hrE : XE.ownsRow N0 3 1 (.slice (some ⟨(World.heap Wd).size, 0, none⟩) 0 0) 0 [] := by rw [← eE]; exact row_new0 _ _ (le0 _ hHeld)
        have hsE : (World.heap Wd).size < XE.heap.size := by rw [← eE]; simp
        obtain ⟨gE, egE⟩ : ∃ g, (World.heap Wd).size = g := ⟨_, rfl⟩
        have hgE : N0 ≤ gE := by rw [← egE]; exact le0 _ hHeld
        refine hK.out _ _ (hHeld.trans ((below_box _ _).mono (le0 _ hHeld))) (fun hHE => ?_)
        rw [eE] at hHE ⊢
        rw [egE] at hrE hsE ⊢
        clear hK K
        try simp only [Act.put, List.setIfInBounds_toArray, List.set_cons_zero, List.set_cons_succ]
        refine wpAnyH_ready (rs := [4, 6]) (by kernel_rfl) (by simp) (AllReadyH.cons (o := ⟨_, _, _, _, _, _⟩) rfl (fun K hK => ?app) (AllReadyH.cons (o := ⟨_, _, _, _, _, _⟩) rfl (fun K hK => ?new1) AllReadyH.nil))
      case' app =>
        rw [if_pos (by rfl)]
        obtain ⟨v4, X4, hr4, ho4, hg4⟩ := run_append_two XE N0 b2 33 _ (.slice va xs.length vc) 0 xs.length [] (xs.map (Value.int .i64)) hrE (HR.out _ hHE) (ones_ints xs) (by omega) (le0 _ hHE)
        rw [Nat.zero_add, List.nil_append] at ho4
        refine wp_app_run _ _ _ 33 rfl _ _ rfl rfl _ _ hr4 ?_
        have hb4 : Below N0 XE X4 := grown_below hg4 (le0 _ hHE) (fun g e => by cases e; exact hgE)
        refine hK.out _ _ (hHE.trans hb4) (fun hH4 => ?_)
        obtain ⟨a4, c4, rfl⟩ := row_form ho4
        clear hK K
        try simp only [Act.put, List.setIfInBounds_toArray, List.set_cons_zero, List.set_cons_succ]
        refine wpAnyH_ready (rs := [6]) (by kernel_rfl) (by simp) (AllReadyH.cons (o := ⟨_, _, _, _, _, _⟩) rfl (fun K hK => ?_) AllReadyH.nil)
        rw [if_pos (by rfl)]
        go_simp
        obtain ⟨XN, eN⟩ : ∃ X, World.alloc X4 (.cells #[.int .i64 (i : Int)] 3) = X := ⟨_, rfl⟩
        have hbN : Below (World.heap X4).size X4 XN := by rw [← eN]; exact below_box _ _
        have hrN : XN.ownsRow N0 3 1 (.slice (some ⟨(World.heap X4).size, 0, none⟩) 1 1) 1 [.int .i64 (i : Int)] := by rw [← eN]; exact row_new1 _ _ (le0 _ hH4) _
        obtain ⟨gN, egN⟩ : ∃ g, (World.heap X4).size = g := ⟨_, rfl⟩
        have hsN : gN < XN.heap.size := by rw [← eN, ← egN]; simp
        refine hK.out _ _ (hH4.trans ((below_box _ _).mono (le0 _ hH4))) (fun hHN => ?_)
        rw [eN] at hHN ⊢
        rw [egN] at hrN ⊢
        clear hK K
        try simp only [Act.put, List.setIfInBounds_toArray, List.set_cons_zero, List.set_cons_succ]
        refine wpAnyH_ready (rs := [7]) (by kernel_rfl) (by simp) (AllReadyH.cons (o := ⟨_, _, _, _, _, _⟩) rfl (fun K hK => ?_) AllReadyH.nil)
        rw [if_pos (by rfl)]
        obtain ⟨v7, X7, hr7, ho7, hg7⟩ := run_append_two XN N0 N0 33 _ _ xs.length 1 (xs.map (Value.int .i64)) [.int .i64 (i : Int)] (row_below ho4 hbN) hrN (by intro u hu; simp at hu; subst hu; rfl) (by omega) (le0 _ hHN)
        refine wp_app_run _ _ _ 33 rfl _ _ rfl rfl _ _ hr7 ?_
        have hb7 : Below N0 XN X7 := grown_below hg7 (le0 _ hHN) (fun g e => (ho4.lt g e).1)
        refine hK.out _ _ (hHN.trans hb7) (fun hH7 => ?_)
        obtain ⟨a7, c7, rfl⟩ := row_form ho7
        clear hK K
        try simp only [Act.put, List.setIfInBounds_toArray, List.set_cons_zero, List.set_cons_succ]
        have hcall := HC.out X7 _ hH7 ho7
        refine wpAnyH_ready (rs := [9]) (by kernel_rfl) (by simp) (AllReadyH.cons (o := ⟨_, _, _, _, _, _⟩) rfl (fun K hK => ?_) AllReadyH.nil)
        rw [if_pos (by rfl)]
        go_simp
        refine hcall.mono ?_
        rintro e X9 ⟨rfl, hb9⟩
        refine hK.out _ _ (hH7.trans (hb9.mono (le0 _ hH7))) (fun hH9 => ?_)
        clear hK K
        try simp only [Act.put, List.setIfInBounds_toArray, List.set_cons_zero, List.set_cons_succ]
        refine take_mk 10 (.bool (!r)) rfl (by kernel_rfl) (by kernel_rfl) (by kernel_rfl) (fun _ _ _ h => h) (Or.inl ⟨by rfl, fun X hX => by go_simp⟩) (by assumption) ?_
        try simp only [Act.put, List.setIfInBounds_toArray, List.set_cons_zero, List.set_cons_succ]
        refine wpAnyH_done (by kernel_rfl) ?_ _
        have HB9 : Hid (Below N0 Wd X9) := hH9
      case' new1 =>
        rw [if_pos (by rfl)]
        go_simp
        obtain ⟨XN, eN⟩ : ∃ X, World.alloc XE (.cells #[.int .i64 (i : Int)] 3) = X := ⟨_, rfl⟩
        have hbN : Below (World.heap XE).size XE XN := by rw [← eN]; exact below_box _ _
        have hrN : XN.ownsRow N0 3 1 (.slice (some ⟨(World.heap XE).size, 0, none⟩) 1 1) 1 [.int .i64 (i : Int)] := by rw [← eN]; exact row_new1 _ _ (le0 _ hHE) _
        obtain ⟨gN, egN⟩ : ∃ g, (World.heap XE).size = g := ⟨_, rfl⟩
        have hsN : gN < XN.heap.size := by rw [← eN, ← egN]; simp
        refine hK.out _ _ (hHE.trans ((below_box _ _).mono (le0 _ hHE))) (fun hHN => ?_)
        rw [eN] at hHN ⊢
        rw [egN] at hrN ⊢
        clear hK K
        try simp only [Act.put, List.setIfInBounds_toArray, List.set_cons_zero, List.set_cons_succ]
        refine wpAnyH_ready (rs := [4]) (by kernel_rfl) (by simp) (AllReadyH.cons (o := ⟨_, _, _, _, _, _⟩) rfl (fun K hK => ?_) AllReadyH.nil)
        rw [if_pos (by rfl)]
        obtain ⟨v4, X4, hr4, ho4, hg4⟩ := run_append_two XN N0 b2 33 _ (.slice va xs.length vc) 0 xs.length [] (xs.map (Value.int .i64)) (row_below hrE hbN) (HR.out _ hHN) (ones_ints xs) (by omega) (le0 _ hHN)
        rw [Nat.zero_add, List.nil_append] at ho4
        refine wp_app_run _ _ _ 33 rfl _ _ rfl rfl _ _ hr4 ?_
        have hb4 : Below N0 XN X4 := grown_below hg4 (le0 _ hHN) (fun g e => by cases e; exact hgE)
        refine hK.out _ _ (hHN.trans hb4) (fun hH4 => ?_)
        obtain ⟨a4, c4, rfl⟩ := row_form ho4
        clear hK K
        try simp only [Act.put, List.setIfInBounds_toArray, List.set_cons_zero, List.set_cons_succ]
        have hrN4 := row_grown hrN hg4 (fun g e1 e2 => by cases e1; cases e2; omega)
        refine wpAnyH_ready (rs := [7]) (by kernel_rfl) (by simp) (AllReadyH.cons (o := ⟨_, _, _, _, _, _⟩) rfl (fun K hK => ?_) AllReadyH.nil)
        rw [if_pos (by rfl)]
        obtain ⟨v7, X7, hr7, ho7, hg7⟩ := run_append_two X4 N0 N0 33 _ _ xs.length 1 (xs.map (Value.int .i64)) [.int .i64 (i : Int)] ho4 hrN4 (by intro u hu; simp at hu; subst hu; rfl) (by omega) (le0 _ hH4)
        refine wp_app_run _ _ _ 33 rfl _ _ rfl rfl _ _ hr7 ?_
        have hb7 : Below N0 X4 X7 := grown_below hg7 (le0 _ hH4) (fun g e => (ho4.lt g e).1)
        refine hK.out _ _ (hH4.trans hb7) (fun hH7 => ?_)
        obtain ⟨a7, c7, rfl⟩ := row_form ho7
        clear hK K
        try simp only [Act.put, List.setIfInBounds_toArray, List.set_cons_zero, List.set_cons_succ]
        have hcall := HC.out X7 _ hH7 ho7
        refine wpAnyH_ready (rs := [9]) (by kernel_rfl) (by simp) (AllReadyH.cons (o := ⟨_, _, _, _, _, _⟩) rfl (fun K hK => ?_) AllReadyH.nil)
        rw [if_pos (by rfl)]
        go_simp
        refine hcall.mono ?_
        rintro e X9 ⟨rfl, hb9⟩
        refine hK.out _ _ (hH7.trans (hb9.mono (le0 _ hH7))) (fun hH9 => ?_)
        clear hK K
        try simp only [Act.put, List.setIfInBounds_toArray, List.set_cons_zero, List.set_cons_succ]
        refine take_mk 10 (.bool (!r)) rfl (by kernel_rfl) (by kernel_rfl) (by kernel_rfl) (fun _ _ _ h => h) (Or.inl ⟨by rfl, fun X hX => by go_simp⟩) (by assumption) ?_
        try simp only [Act.put, List.setIfInBounds_toArray, List.set_cons_zero, List.set_cons_succ]
        refine wpAnyH_done (by kernel_rfl) ?_ _
        have HB9 : Hid (Below N0 Wd X9) := hH9
      case' new0 =>
        rw [if_pos (by rfl)]
        go_simp
        obtain ⟨XN, eN⟩ : ∃ X, World.alloc Wd (.cells #[.int .i64 (i : Int)] 3) = X := ⟨_, rfl⟩
        have hbN : Below (World.heap Wd).size Wd XN := by rw [← eN]; exact below_box _ _
        have hrN : XN.ownsRow N0 3 1 (.slice (some ⟨(World.heap Wd).size, 0, none⟩) 1 1) 1 [.int .i64 (i : Int)] := by rw [← eN]; exact row_new1 _ _ (le0 _ hHeld) _
        obtain ⟨gN, egN⟩ : ∃ g, (World.heap Wd).size = g := ⟨_, rfl⟩
        have hsN : gN < XN.heap.size := by rw [← eN, ← egN]; simp
        refine hK.out _ _ (hHeld.trans ((below_box _ _).mono (le0 _ hHeld))) (fun hHN => ?_)
        rw [eN] at hHN ⊢
        rw [egN] at hrN ⊢
        clear hK K
        try simp only [Act.put, List.setIfInBounds_toArray, List.set_cons_zero, List.set_cons_succ]
        refine wpAnyH_ready (rs := [2]) (by kernel_rfl) (by simp) (AllReadyH.cons (o := ⟨_, _, _, _, _, _⟩) rfl (fun K hK => ?_) AllReadyH.nil)
        rw [if_pos (by rfl)]
        go_simp
        obtain ⟨XE, eE⟩ : ∃ X, World.alloc XN (.cells #[] 3) = X := ⟨_, rfl⟩
        have hbE : Below (World.heap XN).size XN XE := by rw [← eE]; exact below_box _ _
        have hrE : XE.ownsRow N0 3 1 (.slice (some ⟨(World.heap XN).size, 0, none⟩) 0 0) 0 [] := by rw [← eE]; exact row_new0 _ _ (le0 _ hHN)
        have hsE : (World.heap XN).size < XE.heap.size := by rw [← eE]; simp
        obtain ⟨gE, egE⟩ : ∃ g, (World.heap XN).size = g := ⟨_, rfl⟩
        have hgE : N0 ≤ gE := by rw [← egE]; exact le0 _ hHN
        refine hK.out _ _ (hHN.trans ((below_box _ _).mono (le0 _ hHN))) (fun hHE => ?_)
        rw [eE] at hHE ⊢
        rw [egE] at hrE hsE ⊢
        clear hK K
        try simp only [Act.put, List.setIfInBounds_toArray, List.set_cons_zero, List.set_cons_succ]
        refine wpAnyH_ready (rs := [4]) (by kernel_rfl) (by simp) (AllReadyH.cons (o := ⟨_, _, _, _, _, _⟩) rfl (fun K hK => ?_) AllReadyH.nil)
        rw [if_pos (by rfl)]
        obtain ⟨v4, X4, hr4, ho4, hg4⟩ := run_append_two XE N0 b2 33 _ (.slice va xs.length vc) 0 xs.length [] (xs.map (Value.int .i64)) hrE (HR.out _ hHE) (ones_ints xs) (by omega) (le0 _ hHE)
        rw [Nat.zero_add, List.nil_append] at ho4
        refine wp_app_run _ _ _ 33 rfl _ _ rfl rfl _ _ hr4 ?_
        have hb4 : Below N0 XE X4 := grown_below hg4 (le0 _ hHE) (fun g e => by cases e; exact hgE)
        refine hK.out _ _ (hHE.trans hb4) (fun hH4 => ?_)
        obtain ⟨a4, c4, rfl⟩ := row_form ho4
        clear hK K
        try simp only [Act.put, List.setIfInBounds_toArray, List.set_cons_zero, List.set_cons_succ]
        have hrN4 := row_grown (row_below hrN hbE) hg4 (fun g e1 e2 => by cases e1; cases e2; omega)
        refine wpAnyH_ready (rs := [7]) (by kernel_rfl) (by simp) (AllReadyH.cons (o := ⟨_, _, _, _, _, _⟩) rfl (fun K hK => ?_) AllReadyH.nil)
        rw [if_pos (by rfl)]
        obtain ⟨v7, X7, hr7, ho7, hg7⟩ := run_append_two X4 N0 N0 33 _ _ xs.length 1 (xs.map (Value.int .i64)) [.int .i64 (i : Int)] ho4 hrN4 (by intro u hu; simp at hu; subst hu; rfl) (by omega) (le0 _ hH4)
        refine wp_app_run _ _ _ 33 rfl _ _ rfl rfl _ _ hr7 ?_
        have hb7 : Below N0 X4 X7 := grown_below hg7 (le0 _ hH4) (fun g e => (ho4.lt g e).1)
        refine hK.out _ _ (hH4.trans hb7) (fun hH7 => ?_)
        obtain ⟨a7, c7, rfl⟩ := row_form ho7
        clear hK K
        try simp only [Act.put, List.setIfInBounds_toArray, List.set_cons_zero, List.set_cons_succ]
        have hcall := HC.out X7 _ hH7 ho7
        refine wpAnyH_ready (rs := [9]) (by kernel_rfl) (by simp) (AllReadyH.cons (o := ⟨_, _, _, _, _, _⟩) rfl (fun K hK => ?_) AllReadyH.nil)
        rw [if_pos (by rfl)]
        go_simp
        refine hcall.mono ?_
        rintro e X9 ⟨rfl, hb9⟩
        refine hK.out _ _ (hH7.trans (hb9.mono (le0 _ hH7))) (fun hH9 => ?_)
        clear hK K
        try simp only [Act.put, List.setIfInBounds_toArray, List.set_cons_zero, List.set_cons_succ]
        refine take_mk 10 (.bool (!r)) rfl (by kernel_rfl) (by kernel_rfl) (by kernel_rfl) (fun _ _ _ h => h) (Or.inl ⟨by rfl, fun X hX => by go_simp⟩) (by assumption) ?_
        try simp only [Act.put, List.setIfInBounds_toArray, List.set_cons_zero, List.set_cons_succ]
        refine wpAnyH_done (by kernel_rfl) ?_ _
        have HB9 : Hid (Below N0 Wd X9) := hH9
      all_goals
        have HW9 : Hid (Below W1.heap.size W1 X9) := HD1.out.trans (HB9.out.mono hW1N)
        cases r
        · go_wp2
          go_ret
          exact ⟨ret_bool (Eq.symm HQ), HB1.out.trans (HW9.out.mono HB1.out.size)⟩
        · go_wp2
          go_roundw
          case rel => exact ⟨i + 1, by go_num, by omega, HQ.out, HW9.out⟩
          case measure => simp [intOf]; omega
    · have HE : Hid (R = true) := by
        show R = true
        rw [HA.out, show sz.toNat = i by omega]
        exact hall.out
      go_wp2
      go_ret
      exact ⟨ret_bool (by rw [HE.out]), HB1.out.trans (hb.mono HB1.out.size)⟩

theorem all_any (sz : Int) (rule : List Int) (vr : Value) (l : List Lt) (v : Value) (n : Nat) (hn : n ≤ 1000000) (hsh : Shaped l) : ∀ k, AllAt sz rule vr l v n k
  | 0 => all_zero sz rule vr l v n hsh
  | k + 1 => all_succ sz rule vr l v n k hn (all_any sz rule vr l v n hn hsh k)

end Go.Proofs.Ytgnjgpplelakkaa
