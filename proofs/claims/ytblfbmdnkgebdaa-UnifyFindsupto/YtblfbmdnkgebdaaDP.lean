import Derived.Test.YtblfbmdnkgebdaaDN
import Derived.Test.YtblfbmdnkgebdaaDJ
import Derived.Test.YtblfbmdnkgebdaaHC
import Derived.Test.YtblfbmdnkgebdaaTM
import Derived.Test.YtblfbmdnkgebdaaPW
import Derived.Maps.AppendAt

/-
  The most general unifier, out of a net whose classes are joined.
-/
namespace Go.Proofs.Ytblfbmdnkgebdaa.Dn
open Go.RowKit Go.Maps

/-- A net of two terms, joined. -/
structure Sv (N : List Nd) (ρ : Nat → Nat) (a b : T) (x y : Nat) : Prop where
  top : Tp N ρ
  jn : Jn N ρ []
  ra : Rep N x a
  rb : Rep N y b
  xy : ρ x = ρ y
  snd : ∀ V, Val N V → V x = V y → Kp ρ V
  ok : ∀ (i : Nat) (d : Nd), N[i]? = some d → NdOk d
  uq : ∀ (i j : Nat) (d e : Nd), N[i]? = some d → N[j]? = some e → d.fn.size = 0 → e.fn.size = 0 → d.v = e.v → i = j
  lt : ∀ (i : Nat) (d : Nd), N[i]? = some d → ∀ k ∈ d.args, k < i
  al : ∀ (i : Nat) (d : Nd), N[i]? = some d → d.args.length ≤ 16
  oc : ∀ (i : Nat) (d : Nd), N[i]? = some d → d.fn.size = 0 → Occ d.v a ∨ Occ d.v b

/-- The nodes' terms behind a substitution. -/
def vOf (N : List Nd) (θ : Int → T) (i : Nat) : T :=
  match N[i]? with
  | none => var 0
  | some d => if d.fn.size = 0 then θ d.v else .mk 0 d.fn (d.args.map fun k => if _h : k < i then vOf N θ k else var 0)
termination_by i

theorem vOf_var {N : List Nd} {θ : Int → T} {i : Nat} {d : Nd} (h : N[i]? = some d) (h0 : d.fn.size = 0) : vOf N θ i = θ d.v := by
  rw [vOf, h]
  simp [h0]
theorem vOf_val {N : List Nd} (θ : Int → T) (hlt : ∀ (i : Nat) (d : Nd), N[i]? = some d → ∀ k ∈ d.args, k < i) : Val N (vOf N θ) := by
  intro i d h h0
  rw [vOf, h]
  simp only [if_neg h0]
  congr 1
  exact List.map_congr_left fun k hk => by rw [dif_pos (hlt i d h k hk)]

theorem Rep.val {N : List Nd} {V : Nat → T} {σ : Int → T} (hV : Val N V) (hv : ∀ (i : Nat) (d : Nd), N[i]? = some d → d.fn.size = 0 → V i = σ d.v) {i : Nat} {t : T} (h : Rep N i t) : t.app σ = V i := by
  induction h with
  | mk i t d h hf hvv hl ha ih =>
    by_cases h0 : t.fn.size = 0
    · rw [T.app_eq, if_pos h0, hv i d h (by rw [hf]; exact h0), hvv h0]
    · rw [T.app_eq, if_neg h0, hV i d h (by rw [hf]; exact h0), hf]
      congr 1
      have hl := hl h0
      refine List.ext_getElem (by simp [hl]) fun k h1 h2 => ?_
      rw [List.getElem_map, List.getElem_map]
      rw [List.length_map] at h1 h2
      exact ih h0 k _ _ (List.getElem?_eq_getElem h2) (List.getElem?_eq_getElem h1)

theorem Rep.node {N : List Nd} {x : Int} {t : T} (ho : Occ x t) : ∀ {i : Nat}, Rep N i t → ∃ (j : Nat) (d : Nd), N[j]? = some d ∧ d.fn.size = 0 ∧ d.v = x := by
  induction ho with
  | here p hv h =>
    intro i hr
    cases hr with
    | mk _ _ d hd hf hvv hl ha =>
      have h0 : p.fn.size = 0 := by simpa [uvar] using hv
      exact ⟨i, d, hd, by rw [hf]; exact h0, by rw [hvv h0]; exact h⟩
  | sub p q hv hq _ ih =>
    intro i hr
    cases hr with
    | mk _ _ d hd hf hvv hl ha =>
      have h0 : p.fn.size ≠ 0 := by simpa [uvar] using hv
      obtain ⟨k, hk, rfl⟩ := List.getElem_of_mem hq
      have hk' : k < d.args.length := by rw [hl h0]; exact hk
      exact ih (ha h0 k _ _ (List.getElem?_eq_getElem hk') (List.getElem?_eq_getElem hk))

section
variable {N : List Nd} {ρ : Nat → Nat} {a b : T} {x y : Nat}

/-- What is built of it behind a unifier. -/
theorem Sv.kp (S : Sv N ρ a b x y) {θ : Int → T} (hθ : a.app θ = b.app θ) : Kp ρ (vOf N θ) := by
  have hV := vOf_val θ S.lt
  have hv : ∀ (i : Nat) (d : Nd), N[i]? = some d → d.fn.size = 0 → vOf N θ i = θ d.v := fun i d h h0 => vOf_var h h0
  exact S.snd _ hV (by rw [← S.ra.val hV hv, ← S.rb.val hV hv]; exact hθ)

theorem Sv.rank (S : Sv N ρ a b x y) {θ : Int → T} (hθ : a.app θ = b.app θ) : Rk N ρ fun i => (vOf N θ i).nn := by
  refine ⟨fun i j e => congrArg T.nn (S.kp hθ i j e), fun p d hd k hk => ?_⟩
  by_cases h0 : d.fn.size = 0
  · rw [((S.ok p d hd).1 h0).2.2] at hk
    cases hk
  · obtain ⟨l, hl, rfl⟩ := List.getElem_of_mem hk
    have e := vOf_val θ S.lt p d hd h0
    have hl' : l < (T.mk 0 d.fn (d.args.map (vOf N θ))).args.length := by simpa [T.args] using hl
    have := nn_arg hl'
    show (vOf N θ d.args[l]).nn < (vOf N θ p).nn
    rw [e]
    simpa [T.args] using this

theorem Bn.gen (S : Sv N ρ a b x y) {θ : Int → T} (hθ : a.app θ = b.app θ) {i : Nat} {t : T} (h : Bn N ρ i t) : t.app θ = vOf N θ i := by
  have hk := S.kp hθ
  induction h with
  | mk i d ts h hl hs ih =>
    rw [hk i (ρ i) (S.top.idem i).symm]
    by_cases h0 : d.fn.size = 0
    · rw [T.app_eq, if_pos (show (T.mk d.v d.fn ts).fn.size = 0 from h0), vOf_var h h0]
      rfl
    · rw [T.app_eq, if_neg (show ¬ (T.mk d.v d.fn ts).fn.size = 0 from h0), vOf_val θ S.lt _ d h h0]
      show T.mk 0 d.fn (ts.map (T.app θ)) = _
      congr 1
      refine List.ext_getElem (by simp [hl]) fun k h1 h2 => ?_
      rw [List.getElem_map, List.getElem_map]
      rw [List.length_map] at h1 h2
      exact ih k h1 h2

theorem Bn.shape (S : Sv N ρ a b x y) {i : Nat} {t : T} (h : Bn N ρ i t) : t.shape = true := by
  induction h with
  | mk i d ts h hl hs ih =>
    have hok := S.ok _ d h
    have h16 := S.al _ d h
    rw [T.shape_eq]
    by_cases h0 : d.fn.size = 0
    · rw [if_pos (show (T.mk d.v d.fn ts).fn.size = 0 from h0)]
      obtain ⟨q1, q2, q3⟩ := hok.1 h0
      have : ts.length = 0 := by rw [hl, q3]; rfl
      simp only [Bool.and_eq_true, decide_eq_true_eq]
      exact ⟨⟨q1, q2⟩, this⟩
    · rw [if_neg (show ¬ (T.mk d.v d.fn ts).fn.size = 0 from h0)]
      obtain ⟨q1, q2⟩ := hok.2 h0
      simp only [Bool.and_eq_true, decide_eq_true_eq, List.all_eq_true]
      refine ⟨⟨⟨q1, q2⟩, by show ts.length ≤ 16; omega⟩, fun u hu => ?_⟩
      obtain ⟨k, hk, rfl⟩ := List.getElem_of_mem hu
      have hk : k < ts.length := hk
      exact ih k hk (by omega)

/-- What stands for each variable. -/
def TauN (N : List Nd) (ρ : Nat → Nat) (τ : Ta) : Prop := ∀ x t, τ x = some t ↔ ∃ (j : Nat) (d : Nd), N[j]? = some d ∧ d.fn.size = 0 ∧ d.v = x ∧ Bn N ρ j t

theorem Sv.tau (S : Sv N ρ a b x y) : ∃ τ, TauN N ρ τ := by
  classical
  have H : ∀ x : Int, ∃ o : Option T, ∀ t, o = some t ↔ ∃ (j : Nat) (d : Nd), N[j]? = some d ∧ d.fn.size = 0 ∧ d.v = x ∧ Bn N ρ j t := fun x => by
    by_cases h : ∃ (t : T) (j : Nat) (d : Nd), N[j]? = some d ∧ d.fn.size = 0 ∧ d.v = x ∧ Bn N ρ j t
    · obtain ⟨t, j, d, h1, h2, h3, h4⟩ := h
      refine ⟨some t, fun t' => ⟨fun e => ?_, fun ⟨j', d', k1, k2, k3, k4⟩ => ?_⟩⟩
      · cases e
        exact ⟨j, d, h1, h2, h3, h4⟩
      · obtain rfl := S.uq j j' d d' h1 k1 h2 k2 (by rw [h3, k3])
        rw [h4.one rfl k4]
    · exact ⟨none, fun t => ⟨fun e => (by cases e), fun hx => (h ⟨t, hx⟩).elim⟩⟩
  obtain ⟨τ, hτ⟩ := Classical.axiomOfChoice H
  exact ⟨τ, fun x t => hτ x t⟩

theorem Sv.mgu (S : Sv N ρ a b x y) (hx : x < N.length) (hy : y < N.length) (hA : ∀ i, i < N.length → ∃ t, Bn N ρ i t) {τ : Ta} (hτ : TauN N ρ τ) : Mgu a b τ := by
  have H' : ∀ i, ∃ t, i < N.length → Bn N ρ i t := fun i => by
    by_cases hi : i < N.length
    · obtain ⟨t, ht⟩ := hA i hi
      exact ⟨t, fun _ => ht⟩
    · exact ⟨var 0, fun h => absurd h hi⟩
  obtain ⟨β, hβ⟩ := Classical.axiomOfChoice H'
  have hlt : ∀ (i : Nat) (d : Nd), N[i]? = some d → i < N.length := fun i d h => (List.getElem?_eq_some_iff.1 h).1
  have hcls : ∀ i j, i < N.length → j < N.length → ρ i = ρ j → β i = β j := fun i j hi hj e => (hβ i hi).one e.symm (hβ j hj)
  have hval : Val N β := fun i d hd h0 => by
    have hi := hlt i d hd
    obtain ⟨d', hd', hf'⟩ := S.top.fn i ⟨d, hd, h0⟩
    obtain ⟨j1, j2, j3⟩ := S.jn i (ρ i) d d' hd hd' h0 hf' (S.top.idem i).symm
    have hb := hβ i hi
    generalize β i = bi at hb
    cases hb with
    | mk _ d2 ts h hl hs =>
      obtain rfl : d2 = d' := by rw [h] at hd'; exact Option.some.inj hd'
      rw [((S.ok _ _ h).2 hf').1, ← j1]
      congr 1
      refine List.ext_getElem (by simp; omega) fun k h1 h2 => ?_
      rw [List.getElem_map]
      rw [List.length_map] at h2
      have h3 : k < d2.args.length := by omega
      have e := (j3 k _ _ (List.getElem?_eq_getElem h2) (List.getElem?_eq_getElem h3)).none
      have l1 : d2.args[k] < N.length := by
        have := S.lt _ _ h _ (List.getElem_mem h3)
        have := hlt _ _ h
        omega
      have l2 : d.args[k] < N.length := by
        have := S.lt _ _ hd _ (List.getElem_mem h2)
        omega
      exact (hs k h1 h3).one e (hβ _ l2)
  have hsub : ∀ (i : Nat) (d : Nd), N[i]? = some d → d.fn.size = 0 → β i = τ.sub d.v := fun i d hd h0 => by
    have : τ d.v = some (β i) := (hτ _ _).2 ⟨i, d, hd, h0, rfl, hβ i (hlt i d hd)⟩
    unfold Ta.sub
    rw [this]
    rfl
  refine ⟨fun z => ⟨fun hz => ?_, fun hz => ?_⟩, ?_, fun θ hθ z t hz => ?_, fun z t hz hv => ?_, fun z t hz => ?_⟩
  · obtain ⟨t, ht⟩ := Option.ne_none_iff_exists'.1 hz
    obtain ⟨j, d, h1, h2, h3, _⟩ := (hτ z t).1 ht
    have := S.oc j d h1 h2
    rwa [h3] at this
  · obtain ⟨j, d, h1, h2, h3⟩ : ∃ (j : Nat) (d : Nd), N[j]? = some d ∧ d.fn.size = 0 ∧ d.v = z := by
      rcases hz with hz | hz
      · exact Rep.node hz S.ra
      · exact Rep.node hz S.rb
    rw [(hτ z (β j)).2 ⟨j, d, h1, h2, h3, hβ j (hlt j d h1)⟩]
    simp
  · rw [S.ra.val hval hsub, S.rb.val hval hsub]
    exact hcls x y hx hy S.xy
  · obtain ⟨j, d, h1, h2, h3, h4⟩ := (hτ z t).1 hz
    rw [h4.gen S hθ, vOf_var h1 h2, h3]
  · obtain ⟨j, d, h1, h2, h3, h4⟩ := (hτ z t).1 hz
    cases h4 with
    | mk _ d' ts h hl hs =>
      have := S.top.le j d d' h1 h (by simpa [uvar, T.fn] using hv)
      show d'.v ≤ z
      omega
  · obtain ⟨j, d, h1, h2, h3, h4⟩ := (hτ z t).1 hz
    exact h4.shape S

/-- A variable's class has the variable itself at its top just if it is there. -/
theorem Sv.self (S : Sv N ρ a b x y) {j : Nat} {d : Nd} {t : T} (h1 : N[j]? = some d) (h2 : d.fn.size = 0) (h4 : Bn N ρ j t) : (uvar t = true ∧ t.v = d.v) ↔ ρ j = j := by
  cases h4 with
  | mk _ d' ts h hl hs =>
    constructor
    · rintro ⟨hv, e⟩
      have hv : d'.fn.size = 0 := by simpa [uvar, T.fn] using hv
      exact S.uq _ _ d' d h h1 hv h2 e
    · intro e
      rw [e, h1] at h
      cases h
      exact ⟨by simp [uvar, T.fn, h2], rfl⟩
end

end Go.Proofs.Ytblfbmdnkgebdaa.Dn

/-
  The document's With, of more binds.
-/
namespace Go.Proofs.Ytblfbmdnkgebdaa.Dn
open Go.RowKit Go.Maps

set_option maxRecDepth 100000 in
set_option maxHeartbeats 4000000 in
theorem rwith_any (l : List Bd) (x : Bd) (v sx : Value) (w : World) (hl : BindsAt w v l) (hx : ArgsAt w sx x.2.args) (hlen : l.length ≤ 1048576) :
    Calls Try.prog 36 #[v, bval x sx] w fun e W' => ∃ v', e = .returned v' ∧ BindsAt W' v' (withL l x) ∧ Below w.heap.size w W' := by
  obtain ⟨a, c, rfl⟩ := hl.slice
  obtain ⟨xa, xc, rfl, _, _⟩ := hx.slice
  obtain ⟨t0, t1, t2, t3⟩ := bbox_cells w x (.slice xa x.2.args.length xc)
  have HL : Hid (BindsAt w (.slice a l.length c) l ∧ ArgsAt w (.slice xa x.2.args.length xc) x.2.args) := ⟨hl, hx⟩
  have HT : Hid (∀ W, Below (w.alloc (bbox x (.slice xa x.2.args.length xc))).heap.size (w.alloc (bbox x (.slice xa x.2.args.length xc))) W → W.cell? ⟨w.heap.size, 0, none⟩ = some (.int .i64 x.1) ∧ W.cell? ⟨w.heap.size, 1, none⟩ = some (.int .i64 x.2.v) ∧ W.cell? ⟨w.heap.size, 2, none⟩ = some (.string x.2.fn) ∧ W.cell? ⟨w.heap.size, 3, none⟩ = some (.slice xa x.2.args.length xc)) := fun W hW => by
    exact ⟨kc hW (by simp) t0, kc hW (by simp) t1, kc hW (by simp) t2, kc hW (by simp) t3⟩
  have HB0 : Hid (Below w.heap.size w (w.alloc (bbox x (.slice xa x.2.args.length xc)))) := below_box w _
  clear hl hx t0 t1 t2 t3
  obtain ⟨i0, hi0, hz0, hz1, hz2⟩ := info_parts Try.info35
  go_enter Try.func36, Try.ntmps36
  go_wp2
  go_loopw [5, 6, 7] (fun vo vq vi wr => ∃ (i k : Nat) (q : Bool), vi = .int .i64 i ∧ vq = .bool q ∧ i ≤ l.length ∧ Hid (WI (w.alloc (bbox x (.slice xa x.2.args.length xc))) l x i vo q k wr)) (fun _ _ vi _ => l.length - (intOf vi).toNat)
  case atStart => exact ⟨0, 0, false, rfl, rfl, Nat.zero_le _, [], rfl, by simp, ⟨World.ownsRow_nil _ _ _ _, Below.refl _ _⟩, by omega, fun _ => ⟨rfl, by simp⟩, fun h => by cases h⟩
  case round =>
    obtain ⟨i, k, q, rfl, rfl, hi, ps, hk, hargs, hO, hki, hq0, hq1⟩ := hrel
    obtain ⟨pa, pc, hvo⟩ := rowB_form hO.row
    rw [hk] at hvo
    subst hvo
    by_cases hlt : i < l.length
    · obtain ⟨b, o, s, e', hB0⟩ := HL.out.1.nth hlt
      cases e'
      have hbw := HB0.out.trans (hO.bel.mono HB0.out.size)
      have hB := hB0.keep hbw
      obtain ⟨k0, k1, k2, k3⟩ := HT.out wr hO.bel
      have hlx : w.heap.size < wr.heap.size := by have := hO.bel.size; simp at this; omega
      obtain ⟨y, hy⟩ : ∃ y, l[i] = y := ⟨_, rfl⟩
      rw [hy] at hB hB0
      have hsub0 := ArgsAt.keep HB0.out (Nat.le_refl _) hB0.sub
      have HN : Hid (l.take (i + 1) = l.take i ++ [y] ∧ l.drop i = y :: l.drop (i + 1)) := ⟨by rw [List.take_succ_eq_append_getElem hlt, hy], by rw [List.drop_eq_getElem_cons hlt, hy]⟩
      have HWa : Hid (x.1 < y.1 → (∀ z ∈ l.take i, z.1 ≤ x.1) → withL l x = l.take i ++ x :: l.drop i) := fun h1 h2 => withL_at l x i hlt h2 (by rw [hy]; exact h1)
      obtain ⟨sa, sc, rfl, _, _⟩ := hB.sub.slice
      obtain ⟨g0, g1, g2, g3⟩ : wr.cell? ⟨b, o + i * 4, none⟩ = some (.int .i64 y.1) ∧ wr.cell? ⟨b, o + i * 4 + 1, none⟩ = some (.int .i64 y.2.v) ∧ wr.cell? ⟨b, o + i * 4 + 2, none⟩ = some (.string y.2.fn) ∧ wr.cell? ⟨b, o + i * 4 + 3, none⟩ = some (.slice sa y.2.args.length sc) := ⟨hB.c0, hB.c1, hB.c2, hB.c3⟩
      have HY : Hid (∀ W, Below (w.alloc (bbox x (.slice xa x.2.args.length xc))).heap.size (w.alloc (bbox x (.slice xa x.2.args.length xc))) W → W.cell? ⟨b, o + i * 4, none⟩ = some (.int .i64 y.1) ∧ W.cell? ⟨b, o + i * 4 + 1, none⟩ = some (.int .i64 y.2.v) ∧ W.cell? ⟨b, o + i * 4 + 2, none⟩ = some (.string y.2.fn) ∧ W.cell? ⟨b, o + i * 4 + 3, none⟩ = some (.slice sa y.2.args.length sc)) := fun W hW => by
        have hB1 := hB0.keep (HB0.out.trans (hW.mono HB0.out.size))
        exact ⟨hB1.c0, hB1.c1, hB1.c2, hB1.c3⟩
      have f0 := fun p => cell_far hB.lt g0 p
      have f1 := fun p => cell_far hlx k0 p
      have j0 : (i : Int) < (l.length : Int) := by omega
      have HO : Hid (OwnB (w.alloc (bbox x (.slice xa x.2.args.length xc))) (.slice pa k pc) ps wr ∧ ps.length = k ∧ (∀ p ∈ ps, ArgsAt (w.alloc (bbox x (.slice xa x.2.args.length xc))) p.2 p.1.2.args) ∧ ArgsAt (w.alloc (bbox x (.slice xa x.2.args.length xc))) (.slice sa y.2.args.length sc) y.2.args ∧ ArgsAt (w.alloc (bbox x (.slice xa x.2.args.length xc))) (.slice xa x.2.args.length xc) x.2.args) := ⟨hO, hk, hargs, hsub0, ArgsAt.keep HB0.out (Nat.le_refl _) HL.out.2⟩
      have HQ0 : Hid (q = false → ps.map (·.1) = l.take i ∧ ∀ y ∈ l.take i, y.1 ≤ x.1) := hq0
      have HQ1 : Hid (q = true → ps.map (·.1) ++ l.drop i = withL l x) := hq1
      clear hB hB0 hO hargs hk hy hq0 hq1 hsub0 hbw
      cases q
      · by_cases hgt : x.1 < y.1
        · have hd : decide (x.1 < y.1) = true := decide_eq_true hgt
          go_wp2
          go_quiet (fail)
          obtain ⟨W3, hW3⟩ : ∃ W3, wr.drewN nq = W3 := ⟨_, rfl⟩
          have hb3 : Below wr.heap.size wr W3 := by rw [← hW3]; exact ⟨rfl, rfl, rfl, Nat.le_refl _, fun _ _ => rfl⟩
          rw [hW3]
          have HO3 : Hid (OwnB (w.alloc (bbox x (.slice xa x.2.args.length xc))) (.slice pa k pc) ps W3 ∧ ps.length = k) := ⟨HO.out.1.keep hb3, HO.out.2.1⟩
          obtain ⟨m0, m1, m2, m3⟩ := HT.out W3 HO3.out.1.bel
          obtain ⟨r0, r1, r2, r3⟩ := HY.out W3 HO3.out.1.bel
          clear hW3 hb3 f0 f1 g0 g1 g2 g3 k0 k1 k2 k3
          go_wp2_with (first
            | (at_builtin; have HR : Hid ((w4.alloc (.cells #[.int .i64 y.1, .int .i64 y.2.v, .string y.2.fn, (.slice sa y.2.args.length sc)] 35)).ownsRow (w.alloc (bbox x (.slice xa x.2.args.length xc))).heap.size 35 4 (.slice pa4 (k + 1) pc4) (k + 1) (flatB (ps ++ [(x, (.slice xa x.2.args.length xc))]))) := (by { have := (HO4.out.1.keep (below_box w4 (.cells #[.int .i64 y.1, .int .i64 y.2.v, .string y.2.fn, (.slice sa y.2.args.length sc)] 35))).row; rwa [HO4.out.2] at this }); have HS : Hid ((w.alloc (bbox x (.slice xa x.2.args.length xc))).heap.size ≤ (w4.alloc (.cells #[.int .i64 y.1, .int .i64 y.2.v, .string y.2.fn, (.slice sa y.2.args.length sc)] 35)).heap.size) := Nat.le_trans HO4.out.1.bel.size (by simp); refine wpList_append_own_at _ rfl _ _ 25 rfl (w.alloc (bbox x (.slice xa x.2.args.length xc))).heap.size 35 i0 (.agg #[.int .i64 0, .int .i64 0, .string ⟨#[]⟩, .slice none 0 0]) 4 56 Try.underlying25 hi0 hz0 hz1 hz2 rfl (by decide) _ _ _ rfl HR.out ⟨w4.heap.size, 0, none⟩ 1 1 [.int .i64 y.1, .int .i64 y.2.v, .string y.2.fn, (.slice sa y.2.args.length sc)] rfl rfl (lit4 w4 _ _ _ _ 35) (by simp [Value.oneCell']) (by unfold maxLen; omega) (by omega) HS.out ?_; intro v5 w5 h2 h3 _ _; obtain ⟨pa5, pc5, rfl⟩ := rowB_form h2; have HO5 : Hid (OwnB (w.alloc (bbox x (.slice xa x.2.args.length xc))) (.slice pa5 (k + 1 + 1) pc5) ((ps ++ [(x, (.slice xa x.2.args.length xc))]) ++ [(y, (.slice sa y.2.args.length sc))]) w5 ∧ List.length (α := Bd × Value) ((ps ++ [(x, (.slice xa x.2.args.length xc))]) ++ [(y, (.slice sa y.2.args.length sc))]) = k + 1 + 1) := ⟨HO4.out.1.push (y, (.slice sa y.2.args.length sc)) _ w5 (by rw [HO4.out.2]; exact h2) _ h3, len_snoc HO4.out.2⟩; clear h2 h3 HR HS; obtain ⟨r0, r1, r2, r3⟩ := HY.out w5 HO5.out.1.bel)
            | (at_builtin; have HR : Hid ((W3.alloc (.cells #[.int .i64 x.1, .int .i64 x.2.v, .string x.2.fn, (.slice xa x.2.args.length xc)] 35)).ownsRow (w.alloc (bbox x (.slice xa x.2.args.length xc))).heap.size 35 4 (.slice pa k pc) (k) (flatB ps)) := (by { have := (HO3.out.1.keep (below_box W3 (.cells #[.int .i64 x.1, .int .i64 x.2.v, .string x.2.fn, (.slice xa x.2.args.length xc)] 35))).row; rwa [HO3.out.2] at this }); have HS : Hid ((w.alloc (bbox x (.slice xa x.2.args.length xc))).heap.size ≤ (W3.alloc (.cells #[.int .i64 x.1, .int .i64 x.2.v, .string x.2.fn, (.slice xa x.2.args.length xc)] 35)).heap.size) := Nat.le_trans HO3.out.1.bel.size (by simp); refine wpList_append_own_at _ rfl _ _ 25 rfl (w.alloc (bbox x (.slice xa x.2.args.length xc))).heap.size 35 i0 (.agg #[.int .i64 0, .int .i64 0, .string ⟨#[]⟩, .slice none 0 0]) 4 56 Try.underlying25 hi0 hz0 hz1 hz2 rfl (by decide) _ _ _ rfl HR.out ⟨W3.heap.size, 0, none⟩ 1 1 [.int .i64 x.1, .int .i64 x.2.v, .string x.2.fn, (.slice xa x.2.args.length xc)] rfl rfl (lit4 W3 _ _ _ _ 35) (by simp [Value.oneCell']) (by unfold maxLen; omega) (by omega) HS.out ?_; intro v4 w4 h2 h3 _ _; obtain ⟨pa4, pc4, rfl⟩ := rowB_form h2; have HO4 : Hid (OwnB (w.alloc (bbox x (.slice xa x.2.args.length xc))) (.slice pa4 (k + 1) pc4) (ps ++ [(x, (.slice xa x.2.args.length xc))]) w4 ∧ List.length (α := Bd × Value) (ps ++ [(x, (.slice xa x.2.args.length xc))]) = k + 1) := ⟨HO3.out.1.push (x, (.slice xa x.2.args.length xc)) _ w4 (by rw [HO3.out.2]; exact h2) _ h3, len_snoc HO3.out.2⟩; clear h2 h3 HR HS; obtain ⟨r0, r1, r2, r3⟩ := HY.out w4 HO4.out.1.bel))
          go_roundw
          case rel =>
            refine ⟨i + 1, k + 1 + 1, true, by go_num, rfl, by omega, ps ++ [(x, (.slice xa x.2.args.length xc))] ++ [(y, (.slice sa y.2.args.length sc))], HO5.out.2, ?_, HO5.out.1, (by have h1 := congrArg List.length (HQ0.out (by first | rfl | trivial)).1; have h2 := HO.out.2.1; rw [List.length_map, List.length_take] at h1; omega), (fun h => by cases h), (fun _ => ?_)⟩
            · intro p hp
              rcases List.mem_append.1 hp with hp | hp
              · rcases List.mem_append.1 hp with hp | hp
                · exact HO.out.2.2.1 p hp
                · simp at hp; subst hp; exact HO.out.2.2.2.2
              · simp at hp; subst hp; exact HO.out.2.2.2.1
            · obtain ⟨h1, h2⟩ := HQ0.out (by first | rfl | trivial)
              rw [HWa.out hgt h2, HN.out.2, List.map_append, List.map_append, h1]
              simp
          case measure => simp [intOf]; omega
        · have hd : decide (x.1 < y.1) = false := decide_eq_false hgt
          go_wp2
          go_quiet (fail)
          obtain ⟨W3, hW3⟩ : ∃ W3, wr.drewN nq = W3 := ⟨_, rfl⟩
          have hb3 : Below wr.heap.size wr W3 := by rw [← hW3]; exact ⟨rfl, rfl, rfl, Nat.le_refl _, fun _ _ => rfl⟩
          rw [hW3]
          have HO3 : Hid (OwnB (w.alloc (bbox x (.slice xa x.2.args.length xc))) (.slice pa k pc) ps W3 ∧ ps.length = k) := ⟨HO.out.1.keep hb3, HO.out.2.1⟩
          obtain ⟨m0, m1, m2, m3⟩ := HT.out W3 HO3.out.1.bel
          obtain ⟨r0, r1, r2, r3⟩ := HY.out W3 HO3.out.1.bel
          clear hW3 hb3 f0 f1 g0 g1 g2 g3 k0 k1 k2 k3
          go_wp2_with (first
            | (at_builtin; have HR : Hid ((W3.alloc (.cells #[.int .i64 y.1, .int .i64 y.2.v, .string y.2.fn, (.slice sa y.2.args.length sc)] 35)).ownsRow (w.alloc (bbox x (.slice xa x.2.args.length xc))).heap.size 35 4 (.slice pa k pc) (k) (flatB ps)) := (by { have := (HO3.out.1.keep (below_box W3 (.cells #[.int .i64 y.1, .int .i64 y.2.v, .string y.2.fn, (.slice sa y.2.args.length sc)] 35))).row; rwa [HO3.out.2] at this }); have HS : Hid ((w.alloc (bbox x (.slice xa x.2.args.length xc))).heap.size ≤ (W3.alloc (.cells #[.int .i64 y.1, .int .i64 y.2.v, .string y.2.fn, (.slice sa y.2.args.length sc)] 35)).heap.size) := Nat.le_trans HO3.out.1.bel.size (by simp); refine wpList_append_own_at _ rfl _ _ 25 rfl (w.alloc (bbox x (.slice xa x.2.args.length xc))).heap.size 35 i0 (.agg #[.int .i64 0, .int .i64 0, .string ⟨#[]⟩, .slice none 0 0]) 4 56 Try.underlying25 hi0 hz0 hz1 hz2 rfl (by decide) _ _ _ rfl HR.out ⟨W3.heap.size, 0, none⟩ 1 1 [.int .i64 y.1, .int .i64 y.2.v, .string y.2.fn, (.slice sa y.2.args.length sc)] rfl rfl (lit4 W3 _ _ _ _ 35) (by simp [Value.oneCell']) (by unfold maxLen; omega) (by omega) HS.out ?_; intro v4 w4 h2 h3 _ _; obtain ⟨pa4, pc4, rfl⟩ := rowB_form h2; have HO4 : Hid (OwnB (w.alloc (bbox x (.slice xa x.2.args.length xc))) (.slice pa4 (k + 1) pc4) (ps ++ [(y, (.slice sa y.2.args.length sc))]) w4 ∧ List.length (α := Bd × Value) (ps ++ [(y, (.slice sa y.2.args.length sc))]) = k + 1) := ⟨HO3.out.1.push (y, (.slice sa y.2.args.length sc)) _ w4 (by rw [HO3.out.2]; exact h2) _ h3, len_snoc HO3.out.2⟩; clear h2 h3 HR HS; obtain ⟨r0, r1, r2, r3⟩ := HY.out w4 HO4.out.1.bel))
          go_roundw
          case rel =>
            refine ⟨i + 1, k + 1, false, by go_num, rfl, by omega, ps ++ [(y, (.slice sa y.2.args.length sc))], HO4.out.2, ?_, HO4.out.1, by omega, ?_, ?_⟩
            · intro p hp
              rcases List.mem_append.1 hp with hp | hp
              · exact HO.out.2.2.1 p hp
              · simp at hp; subst hp; exact HO.out.2.2.2.1
            · intro _
              obtain ⟨h1, h2⟩ := HQ0.out (by first | rfl | trivial)
              refine ⟨by rw [HN.out.1, List.map_append, h1]; rfl, fun z hz => ?_⟩
              rw [HN.out.1] at hz
              rcases List.mem_append.1 hz with hz | hz
              · exact h2 z hz
              · simp at hz; subst hz; omega
            · intro h; cases h
          case measure => simp [intOf]; omega
      · go_wp2
        go_quiet (fail)
        obtain ⟨W3, hW3⟩ : ∃ W3, wr.drewN nq = W3 := ⟨_, rfl⟩
        have hb3 : Below wr.heap.size wr W3 := by rw [← hW3]; exact ⟨rfl, rfl, rfl, Nat.le_refl _, fun _ _ => rfl⟩
        rw [hW3]
        have HO3 : Hid (OwnB (w.alloc (bbox x (.slice xa x.2.args.length xc))) (.slice pa k pc) ps W3 ∧ ps.length = k) := ⟨HO.out.1.keep hb3, HO.out.2.1⟩
        obtain ⟨m0, m1, m2, m3⟩ := HT.out W3 HO3.out.1.bel
        obtain ⟨r0, r1, r2, r3⟩ := HY.out W3 HO3.out.1.bel
        clear hW3 hb3 f0 f1 g0 g1 g2 g3 k0 k1 k2 k3
        go_wp2_with (first
          | (at_builtin; have HR : Hid ((W3.alloc (.cells #[.int .i64 y.1, .int .i64 y.2.v, .string y.2.fn, (.slice sa y.2.args.length sc)] 35)).ownsRow (w.alloc (bbox x (.slice xa x.2.args.length xc))).heap.size 35 4 (.slice pa k pc) (k) (flatB ps)) := (by { have := (HO3.out.1.keep (below_box W3 (.cells #[.int .i64 y.1, .int .i64 y.2.v, .string y.2.fn, (.slice sa y.2.args.length sc)] 35))).row; rwa [HO3.out.2] at this }); have HS : Hid ((w.alloc (bbox x (.slice xa x.2.args.length xc))).heap.size ≤ (W3.alloc (.cells #[.int .i64 y.1, .int .i64 y.2.v, .string y.2.fn, (.slice sa y.2.args.length sc)] 35)).heap.size) := Nat.le_trans HO3.out.1.bel.size (by simp); refine wpList_append_own_at _ rfl _ _ 25 rfl (w.alloc (bbox x (.slice xa x.2.args.length xc))).heap.size 35 i0 (.agg #[.int .i64 0, .int .i64 0, .string ⟨#[]⟩, .slice none 0 0]) 4 56 Try.underlying25 hi0 hz0 hz1 hz2 rfl (by decide) _ _ _ rfl HR.out ⟨W3.heap.size, 0, none⟩ 1 1 [.int .i64 y.1, .int .i64 y.2.v, .string y.2.fn, (.slice sa y.2.args.length sc)] rfl rfl (lit4 W3 _ _ _ _ 35) (by simp [Value.oneCell']) (by unfold maxLen; omega) (by omega) HS.out ?_; intro v4 w4 h2 h3 _ _; obtain ⟨pa4, pc4, rfl⟩ := rowB_form h2; have HO4 : Hid (OwnB (w.alloc (bbox x (.slice xa x.2.args.length xc))) (.slice pa4 (k + 1) pc4) (ps ++ [(y, (.slice sa y.2.args.length sc))]) w4 ∧ List.length (α := Bd × Value) (ps ++ [(y, (.slice sa y.2.args.length sc))]) = k + 1) := ⟨HO3.out.1.push (y, (.slice sa y.2.args.length sc)) _ w4 (by rw [HO3.out.2]; exact h2) _ h3, len_snoc HO3.out.2⟩; clear h2 h3 HR HS; obtain ⟨r0, r1, r2, r3⟩ := HY.out w4 HO4.out.1.bel))
        go_roundw
        case rel =>
          refine ⟨i + 1, k + 1, true, by go_num, rfl, by omega, ps ++ [(y, (.slice sa y.2.args.length sc))], HO4.out.2, ?_, HO4.out.1, by omega, ?_, ?_⟩
          · intro p hp
            rcases List.mem_append.1 hp with hp | hp
            · exact HO.out.2.2.1 p hp
            · simp at hp; subst hp; exact HO.out.2.2.2.1
          · intro h; cases h
          · intro _
            have h1 := HQ1.out (by first | rfl | trivial)
            rw [← h1, HN.out.2, List.map_append]
            simp
        case measure => simp [intOf]; omega
    · have hil : i = l.length := by omega
      subst hil
      obtain ⟨k0, k1, k2, k3⟩ := HT.out wr hO.bel
      have HO : Hid (OwnB (w.alloc (bbox x (.slice xa x.2.args.length xc))) (.slice pa k pc) ps wr ∧ ps.length = k) := ⟨hO, hk⟩
      have HA : Hid (∀ p ∈ ps, ArgsAt (w.alloc (bbox x (.slice xa x.2.args.length xc))) p.2 p.1.2.args) := hargs
      have HQ0 : Hid (q = false → ps.map (·.1) = l.take l.length ∧ ∀ y ∈ l.take l.length, y.1 ≤ x.1) := hq0
      have HQ1 : Hid (q = true → ps.map (·.1) ++ l.drop l.length = withL l x) := hq1
      clear hO hk hargs hq0 hq1
      cases q
      · go_wp2_with (first
          | (at_builtin; have HR : Hid ((wr.alloc (.cells #[.int .i64 x.1, .int .i64 x.2.v, .string x.2.fn, (.slice xa x.2.args.length xc)] 35)).ownsRow (w.alloc (bbox x (.slice xa x.2.args.length xc))).heap.size 35 4 (.slice pa k pc) (k) (flatB ps)) := (by { have := (HO.out.1.keep (below_box wr (.cells #[.int .i64 x.1, .int .i64 x.2.v, .string x.2.fn, (.slice xa x.2.args.length xc)] 35))).row; rwa [HO.out.2] at this }); have HS : Hid ((w.alloc (bbox x (.slice xa x.2.args.length xc))).heap.size ≤ (wr.alloc (.cells #[.int .i64 x.1, .int .i64 x.2.v, .string x.2.fn, (.slice xa x.2.args.length xc)] 35)).heap.size) := Nat.le_trans HO.out.1.bel.size (by simp); refine wpList_append_own_at _ rfl _ _ 25 rfl (w.alloc (bbox x (.slice xa x.2.args.length xc))).heap.size 35 i0 (.agg #[.int .i64 0, .int .i64 0, .string ⟨#[]⟩, .slice none 0 0]) 4 56 Try.underlying25 hi0 hz0 hz1 hz2 rfl (by decide) _ _ _ rfl HR.out ⟨wr.heap.size, 0, none⟩ 1 1 [.int .i64 x.1, .int .i64 x.2.v, .string x.2.fn, (.slice xa x.2.args.length xc)] rfl rfl (lit4 wr _ _ _ _ 35) (by simp [Value.oneCell']) (by unfold maxLen; omega) (by omega) HS.out ?_; intro v4 w4 h2 h3 _ _; obtain ⟨pa4, pc4, rfl⟩ := rowB_form h2; have HO4 : Hid (OwnB (w.alloc (bbox x (.slice xa x.2.args.length xc))) (.slice pa4 (k + 1) pc4) (ps ++ [(x, (.slice xa x.2.args.length xc))]) w4 ∧ List.length (α := Bd × Value) (ps ++ [(x, (.slice xa x.2.args.length xc))]) = k + 1) := ⟨HO.out.1.push (x, (.slice xa x.2.args.length xc)) _ w4 (by rw [HO.out.2]; exact h2) _ h3, len_snoc HO.out.2⟩; clear h2 h3 HR HS))
        have HF : Hid (BindsAt w4 (.slice pa4 (k + 1) pc4) (withL l x) ∧ Below w.heap.size w w4) := by
          refine ⟨?_, HB0.out.trans (HO4.out.1.bel.mono HB0.out.size)⟩
          obtain ⟨h1, h2⟩ := HQ0.out (by first | rfl | trivial)
          have h3 := binds_of_row HO4.out.1.row (fun p hp => by
            rcases List.mem_append.1 hp with hp | hp
            · exact ArgsAt.keep HO4.out.1.bel (Nat.le_refl _) (HA.out p hp)
            · simp at hp; subst hp; exact ArgsAt.keep HO4.out.1.bel (Nat.le_refl _) (ArgsAt.keep HB0.out (Nat.le_refl _) HL.out.2))
          rw [List.map_append, h1] at h3
          rw [List.take_length] at h3 h2
          rw [withL_end l x h2]
          exact h3
        go_ret
        exact ⟨_, rfl, HF.out.1, HF.out.2⟩
      · have HF : Hid (BindsAt wr (.slice pa k pc) (withL l x) ∧ Below w.heap.size w wr) := by
          refine ⟨?_, HB0.out.trans (HO.out.1.bel.mono HB0.out.size)⟩
          have h1 := HQ1.out (by first | rfl | trivial)
          have h3 := binds_of_row HO.out.1.row (fun p hp => ArgsAt.keep HO.out.1.bel (Nat.le_refl _) (HA.out p hp))
          rw [List.drop_length, List.append_nil] at h1
          rw [h1] at h3
          exact h3
        go_wp2
        go_ret
        exact ⟨_, rfl, HF.out.1, HF.out.2⟩

end Go.Proofs.Ytblfbmdnkgebdaa.Dn

/-
  The document's Unify: what it answers; what its loops keep.
-/
namespace Go.Proofs.Ytblfbmdnkgebdaa.Dn
open Go.RowKit Go.Maps

/-- What the document's Unify answers. -/
def DUnifyIs (a b : T) (e : Ending) (W : World) : Prop :=
  (¬ (a.rightW = 0 ∧ b.rightW = 0) ∧ e = .returned (.tuple #[.slice none 0 0, .bool false, .int .i64 1])) ∨
  ((a.rightW = 0 ∧ b.rightW = 0) ∧ (∀ θ, a.app θ ≠ b.app θ) ∧ e = .returned (.tuple #[.slice none 0 0, .bool false, .int .i64 0])) ∨
  ((a.rightW = 0 ∧ b.rightW = 0) ∧ ∃ τ, Mgu a b τ ∧
    (((∃ x t, τ x = some t ∧ ¬ (t.size ≤ 4000 ∧ t.depth ≤ 60)) ∧ e = .returned (.tuple #[.slice none 0 0, .bool false, .int .i64 3])) ∨
     ((∀ x t, τ x = some t → t.size ≤ 4000 ∧ t.depth ≤ 60) ∧ ∃ v l, e = .returned (.tuple #[v, .bool true, .int .i64 0]) ∧ Rising l ∧ (∀ x t, (x, t) ∈ l ↔ τ x = some t ∧ ¬ (uvar t = true ∧ t.v = x)) ∧ BindsAt W v l)))

/-- The binds of the first nodes. -/
structure Lst (N : List Nd) (ρ : Nat → Nat) (i : Nat) (l : List Bd) : Prop where
  rise : Rising l
  mem : ∀ x t, (x, t) ∈ l ↔ ∃ (j : Nat) (d : Nd), j < i ∧ N[j]? = some d ∧ d.fn.size = 0 ∧ ρ j ≠ j ∧ d.v = x ∧ Bn N ρ j t
  fit : ∀ (j : Nat) (d : Nd) (t : T), j < i → N[j]? = some d → d.fn.size = 0 → ρ j ≠ j → Bn N ρ j t → t.size ≤ 4000 ∧ t.depth ≤ 60

theorem Lst.start (N : List Nd) (ρ : Nat → Nat) : Lst N ρ 0 [] :=
  ⟨fun i j hj => absurd hj (by simp), fun x t => ⟨fun h => (by cases h), fun ⟨j, d, h, _⟩ => absurd h (Nat.not_lt_zero _)⟩, fun j d t h => absurd h (Nat.not_lt_zero _)⟩

theorem Lst.skip {N : List Nd} {ρ : Nat → Nat} {i : Nat} {l : List Bd} (h : Lst N ρ i l) {d : Nd} (hd : N[i]? = some d) (hn : d.fn.size ≠ 0 ∨ ρ i = i) : Lst N ρ (i + 1) l := by
  have key : ∀ (j : Nat) (e : Nd), j < i + 1 → N[j]? = some e → e.fn.size = 0 → ρ j ≠ j → j < i := fun j e h1 h2 h3 h4 => by
    by_cases hj : j = i
    · subst hj
      rw [hd] at h2
      cases h2
      rcases hn with hn | hn
      · exact absurd h3 hn
      · exact absurd hn h4
    · omega
  refine ⟨h.rise, fun x t => (h.mem x t).trans ⟨fun ⟨j, e, h1, h2⟩ => ⟨j, e, by omega, h2⟩, fun ⟨j, e, h1, h2, h3, h4, h5⟩ => ⟨j, e, key j e h1 h2 h3 h4, h2, h3, h4, h5⟩⟩, fun j e t h1 h2 h3 h4 => h.fit j e t (key j e h1 h2 h3 h4) h2 h3 h4⟩

theorem Lst.put {N : List Nd} {ρ : Nat → Nat} {a b : T} {x y : Nat} (S : Sv N ρ a b x y) {i : Nat} {l : List Bd} (h : Lst N ρ i l) {d : Nd} {t : T} (hd : N[i]? = some d) (h0 : d.fn.size = 0) (hi : ρ i ≠ i) (hb : Bn N ρ i t) (hs : t.size ≤ 4000 ∧ t.depth ≤ 60) : Lst N ρ (i + 1) (withL l (d.v, t)) := by
  refine ⟨withL_rising h.rise (fun z hz e => ?_), fun z u => ?_, fun j e u h1 h2 h3 h4 h5 => ?_⟩
  · obtain ⟨j, e', k1, k2, k3, k4, k5, _⟩ := (h.mem z.1 z.2).1 hz
    have := S.uq j i e' d k2 hd k3 h0 (k5.trans e)
    omega
  · rw [(withL_perm l (d.v, t)).mem_iff, List.mem_cons, h.mem]
    constructor
    · rintro (e | ⟨j, e, k1, k2⟩)
      · cases e
        exact ⟨i, d, by omega, hd, h0, hi, rfl, hb⟩
      · exact ⟨j, e, by omega, k2⟩
    · rintro ⟨j, e, k1, k2, k3, k4, k5, k6⟩
      by_cases hj : j = i
      · subst hj
        rw [hd] at k2
        cases k2
        rw [← k5, hb.one rfl k6]
        exact .inl rfl
      · exact .inr ⟨j, e, by omega, k2, k3, k4, k5, k6⟩
  · by_cases hj : j = i
    · subst hj
      rw [← hb.one rfl h5]
      exact hs
    · exact h.fit j e u (by omega) h2 h3 h4 h5

theorem Lst.all {N : List Nd} {ρ : Nat → Nat} {a b : T} {x y : Nat} (S : Sv N ρ a b x y) {l : List Bd} {i : Nat} (hi : i = N.length) (h : Lst N ρ i l) {τ : Ta} (hτ : TauN N ρ τ) : (∀ z t, τ z = some t → t.size ≤ 4000 ∧ t.depth ≤ 60) ∧ Rising l ∧ ∀ z t, (z, t) ∈ l ↔ τ z = some t ∧ ¬ (uvar t = true ∧ t.v = z) := by
  subst hi
  refine ⟨fun z t hz => ?_, h.rise, fun z t => ?_⟩
  · obtain ⟨j, d, h1, h2, h3, h4⟩ := (hτ z t).1 hz
    by_cases e : ρ j = j
    · obtain ⟨hv, hvv⟩ := (S.self h1 h2 h4).2 e
      have hsh := h4.shape S
      have : t = var t.v := by
        have h0 : t.fn.size = 0 := by simpa [uvar] using hv
        have hsh' := hsh
        rw [T.shape_eq, if_pos h0] at hsh'
        simp only [Bool.and_eq_true, decide_eq_true_eq] at hsh'
        rw [T.eta t, List.length_eq_zero_iff.1 hsh'.2]
        have : t.fn = ⟨#[]⟩ := ba_empty.1 h0
        rw [this]
        rfl
      rw [this]
      have := var_size t.v
      omega
    · exact h.fit j d t (List.getElem?_eq_some_iff.1 h1).1 h1 h2 e h4
  · rw [h.mem, hτ]
    constructor
    · rintro ⟨j, d, k1, k2, k3, k4, k5, k6⟩
      refine ⟨⟨j, d, k2, k3, k5, k6⟩, fun hx => k4 ((S.self k2 k3 k6).1 ⟨hx.1, by rw [k5]; exact hx.2⟩)⟩
    · rintro ⟨⟨j, d, k2, k3, k5, k6⟩, hx⟩
      exact ⟨j, d, (List.getElem?_eq_some_iff.1 k2).1, k2, k3, fun e => hx (by have := (S.self k2 k3 k6).2 e; rw [k5] at this; exact this), k5, k6⟩

/-- A net of two terms, laid. -/
structure Pre (N : List Nd) (a b : T) (x y : Nat) : Prop where
  ra : Rep N x a
  rb : Rep N y b
  ok : ∀ (i : Nat) (d : Nd), N[i]? = some d → NdOk d
  uq : ∀ (i j : Nat) (d e : Nd), N[i]? = some d → N[j]? = some e → d.fn.size = 0 → e.fn.size = 0 → d.v = e.v → i = j
  lt : ∀ (i : Nat) (d : Nd), N[i]? = some d → ∀ k ∈ d.args, k < i
  al : ∀ (i : Nat) (d : Nd), N[i]? = some d → d.args.length ≤ 16
  oc : ∀ (i : Nat) (d : Nd), N[i]? = some d → d.fn.size = 0 → Occ d.v a ∨ Occ d.v b
  hx : x < N.length
  hy : y < N.length

theorem pre_of {W0 W : World} {B base : Nat} {v : Value} {L : List (Nd × Value)} (hS : LayS W0 W B base v L) {a b : T} {x y : Nat} (ra : Rep (L.map (·.1)) x a) (rb : Rep (L.map (·.1)) y b) (hx : x < L.length) (hy : y < L.length) (oc : ∀ z ∈ L, z.1.fn.size = 0 → Occ z.1.v a ∨ Occ z.1.v b) : Pre (L.map (·.1)) a b x y := by
  have get : ∀ (i : Nat) (d : Nd), (L.map (·.1))[i]? = some d → ∃ z, L[i]? = some z ∧ z.1 = d := fun i d h => by
    rw [List.getElem?_map] at h
    obtain ⟨z, h1, h2⟩ := Option.map_eq_some_iff.1 h
    exact ⟨z, h1, h2⟩
  refine ⟨ra, rb, fun i d h => ?_, fun i j d e h1 h2 h3 h4 h5 => ?_, fun i d h k hk => ?_, fun i d h => ?_, fun i d h h0 => ?_, by simpa using hx, by simpa using hy⟩
  · obtain ⟨z, h1, rfl⟩ := get i d h
    exact hS.gd.ok z (List.mem_of_getElem? h1)
  · obtain ⟨z, k1, rfl⟩ := get i d h1
    obtain ⟨w, k2, rfl⟩ := get j e h2
    exact hS.gd.uq i j z w k1 k2 h3 h4 h5
  · obtain ⟨z, h1, rfl⟩ := get i d h
    exact hS.lt i z h1 k hk
  · obtain ⟨z, h1, rfl⟩ := get i d h
    exact hS.al z (List.mem_of_getElem? h1)
  · obtain ⟨z, h1, rfl⟩ := get i d h
    exact oc z (List.mem_of_getElem? h1) h0

theorem kp_id (V : Nat → T) : Kp id V := fun i j e => by have e : i = j := e; rw [e]

theorem Pre.no {N : List Nd} {a b : T} {x y : Nat} (P : Pre N a b x y) (h : ∀ V, Val N V → V x = V y → False) : ∀ θ, a.app θ ≠ b.app θ := fun θ hθ => by
  have hV := vOf_val θ P.lt
  have hv : ∀ (i : Nat) (d : Nd), N[i]? = some d → d.fn.size = 0 → vOf N θ i = θ d.v := fun i d h h0 => vOf_var h h0
  exact h _ hV (by rw [← P.ra.val hV hv, ← P.rb.val hV hv]; exact hθ)

theorem Pre.sv {N : List Nd} {a b : T} {x y : Nat} (P : Pre N a b x y) {ρ : Nat → Nat} (hT : Tp N ρ) (hJ : Jn N ρ []) (hxy : ρ x = ρ y) (hs : ∀ V, Val N V → V x = V y → Kp ρ V) : Sv N ρ a b x y :=
  ⟨hT, hJ, P.ra, P.rb, hxy, hs, P.ok, P.uq, P.lt, P.al, P.oc⟩

/-- An order that falls along arguments. -/
theorem built_order {N : List Nd} {ρ : Nat → Nat} (hid : ∀ i, ρ (ρ i) = ρ i) (hlt : ∀ i, i < N.length → ρ i < N.length) (hl : ∀ (i : Nat) (d : Nd), N[i]? = some d → ∀ k ∈ d.args, k < i) (hA : ∀ i, i < N.length → ∃ t, Bn N ρ i t) : ∃ f : Nat → Nat, ∀ (q : Nat) (d : Nd), N[q]? = some d → ρ q = q → ∀ z ∈ d.args, f (ρ z) < f q := by
  have H' : ∀ i, ∃ t, i < N.length → Bn N ρ i t := fun i => by
    by_cases hi : i < N.length
    · obtain ⟨t, ht⟩ := hA i hi
      exact ⟨t, fun _ => ht⟩
    · exact ⟨var 0, fun h => absurd h hi⟩
  obtain ⟨β, hβ⟩ := Classical.axiomOfChoice H'
  refine ⟨fun i => (β i).nn, fun q d hd hq z hz => ?_⟩
  have hql := (List.getElem?_eq_some_iff.1 hd).1
  obtain ⟨k, hk, rfl⟩ := List.getElem_of_mem hz
  have hzl : d.args[k] < N.length := by have := hl q d hd _ (List.getElem_mem hk); omega
  have hb := hβ q hql
  show (β (ρ d.args[k])).nn < (β q).nn
  generalize β q = bq at hb ⊢
  cases hb with
  | mk _ d2 ts h hlen hs =>
    rw [hq, hd] at h
    cases h
    have h1 : k < ts.length := by omega
    have e := (hs k h1 hk).one (hid _) (hβ _ (hlt _ hzl))
    rw [← e]
    exact nn_arg (t := .mk d.v d.fn ts) h1

theorem kn_built {N : List Nd} {ρ st : Nat → Nat} {dp sz : Nat → Int} (hid : ∀ i, ρ (ρ i) = ρ i) (hlt : ∀ i, i < N.length → ρ i < N.length) (hK : Kn N ρ st dp sz) (hall : ∀ j, j < N.length → st (ρ j) = 2) : ∀ i, i < N.length → ∃ t, Bn N ρ i t ∧ dp (ρ i) = t.depth ∧ sz (ρ i) = min t.size 1000000 := fun i hi => by
  obtain ⟨t, h1, h2, h3, _⟩ := hK (ρ i) (hlt i hi) (hall i hi)
  exact ⟨t, h1.cls (hid i).symm, h2, h3⟩

end Go.Proofs.Ytblfbmdnkgebdaa.Dn
