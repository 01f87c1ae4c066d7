import Derived.Test.YtblfbmdnkgebdaaGW
import Derived.Test.YtblfbmdnkgebdaaPX

/-
  The most general unifier: what is told of it.
-/
namespace Go.Proofs.Ytblfbmdnkgebdaa
open Go.RowKit Go.Maps

/-- What stands for a variable; itself, if nothing does. -/
def Ta.sub (τ : Ta) : Int → T := fun x => (τ x).getD (var x)

/-- The most general unifier, over the variables of both terms; of variables that become one the least stands for all. -/
structure Mgu (a b : T) (τ : Ta) : Prop where
  dom : ∀ x, τ x ≠ none ↔ Occ x a ∨ Occ x b
  unif : a.app τ.sub = b.app τ.sub
  gen : ∀ θ, a.app θ = b.app θ → ∀ x t, τ x = some t → t.app θ = θ x
  least : ∀ x t, τ x = some t → uvar t = true → t.v ≤ x
  shp : ∀ x t, τ x = some t → t.shape = true

/-- The variables' first nodes. -/
structure Firsts (n0 : Nat) (tm : Nat → T) (ν : Nv) : Prop where
  one : ∀ x k, ν x = some k → ∃ r : Nat, k = (r : Int) ∧ r < n0 ∧ uvar (tm r) = true ∧ (tm r).v = x
  all : ∀ i, i < n0 → uvar (tm i) = true → ν (tm i).v ≠ none

theorem LayC.firsts {a b : T} {ns : List Nd} {ν : Nv} {n : Nat} (H : LayC a b ns.length ns.length ns ν n) : Firsts ns.length (tmOf ns) ν := by
  refine ⟨fun x k h => ?_, fun i hi hv => ?_⟩
  · obtain ⟨r, m, rfl, h2, h3, h4, _⟩ := H.nu x k h
    exact ⟨r, rfl, (List.getElem?_eq_some_iff.1 h2).1, by rw [tmOf_eq h2]; exact h3, by rw [tmOf_eq h2]; exact h4⟩
  · have hm := List.getElem?_eq_getElem hi
    rw [tmOf_eq hm] at hv ⊢
    rw [H.upv i _ hm hv]
    simp

/-- Each node's term is a part of one of both. -/
theorem Lay.occ {a b : T} {n : Nat} {tm : Nat → T} {fs : Nat → Nat} (L : Lay a b n tm fs) (x : Int) : ∀ i, i < n → Occ x (tm i) → Occ x a ∨ Occ x b := by
  intro i
  induction i using Nat.strongRecOn with
  | _ i ih =>
    intro hi ho
    match i with
    | 0 => rw [L.n0] at ho; exact .inl ho
    | 1 => rw [L.n1] at ho; exact .inr ho
    | k + 2 =>
      obtain ⟨p, l, hp, hl, e⟩ := L.par _ hi (by omega)
      refine ih p hp (by omega) ?_
      have h1 := (L.kids p (by omega) l hl).2
      rw [← e] at h1
      rw [h1] at ho
      have f : uvar (tm p) = false := by
        cases f : uvar (tm p) with
        | false => rfl
        | true => rw [L.vnil p (by omega) f] at hl; cases hl
      exact .sub _ _ f (List.getElem_mem hl) ho

theorem Lay.node {a b : T} {n : Nat} {tm : Nat → T} {fs : Nat → Nat} (L : Lay a b n tm fs) {x : Int} {p : T} (ho : Occ x p) : ∀ i, i < n → tm i = p → ∃ j, j < n ∧ uvar (tm j) = true ∧ (tm j).v = x := by
  induction ho with
  | here p hv h => intro i hi e; exact ⟨i, hi, by rw [e]; exact hv, by rw [e]; exact h⟩
  | sub p q hv ha _ ih =>
    intro i hi e
    obtain ⟨l, hl, hq⟩ := List.getElem_of_mem ha
    have hl' : l < (tm i).args.length := by rw [e]; exact hl
    obtain ⟨k1, k2⟩ := L.kids i hi l hl'
    refine ih (fs i + l) k1 ?_
    rw [k2, ← hq]
    simp [e]

theorem Bl.shape {tm : Nat → T} {fs h : Nat → Nat} {n : Nat} (hs : ∀ i, i < n → (tm i).shape = true) (hlt : ∀ i, i < n → h i < n) (hk : ∀ i, i < n → ∀ l, l < (tm i).args.length → fs i + l < n) {i : Nat} {t : T} (hb : Bl tm fs h i t) : i < n → t.shape = true := by
  induction hb with
  | mk i ts hl hkk ih =>
    intro hi
    have hh := hlt i hi
    have h1 := hs _ hh
    rw [T.shape_eq] at h1 ⊢
    by_cases f : (tm (h i)).fn.size = 0
    · rw [if_pos f] at h1
      have f' : (T.mk (tm (h i)).v (tm (h i)).fn ts).fn.size = 0 := f
      rw [if_pos f']
      simp only [Bool.and_eq_true, decide_eq_true_eq] at h1 ⊢
      exact ⟨h1.1, hl.trans h1.2⟩
    · rw [if_neg f] at h1
      have f' : ¬ (T.mk (tm (h i)).v (tm (h i)).fn ts).fn.size = 0 := f
      rw [if_neg f']
      simp only [Bool.and_eq_true, decide_eq_true_eq, List.all_eq_true] at h1 ⊢
      refine ⟨⟨h1.1.1, by show ts.length ≤ 16; rw [hl]; exact h1.1.2⟩, fun u hu => ?_⟩
      obtain ⟨l, hl2, rfl⟩ := List.getElem_of_mem hu
      have hl3 : l < ts.length := hl2
      exact ih l hl3 (hk _ hh l (by omega))

theorem tau_some {ν : Nv} {β : Nat → T} {x : Int} {t : T} (h : tauOf ν β x = some t) : ∃ k, ν x = some k ∧ t = β k.toNat := by
  unfold tauOf at h
  obtain ⟨k, h1, h2⟩ := Option.map_eq_some_iff.1 h
  exact ⟨k, h1, h2.symm⟩

/-- What is built is the most general unifier. -/
theorem mgu_of {a b : T} {n0 : Nat} {tm : Nat → T} {fs h : Nat → Nat} {ν : Nv} (L : Lay a b n0 tm fs) (H : Solved a b n0 tm fs h) (F : Firsts n0 tm ν) (hs : ∀ i, i < n0 → (tm i).shape = true) (β : Nat → T) (hβ : ∀ i, i < n0 → Bl tm fs h i (β i)) : Mgu a b (tauOf ν β) := by
  have h2 := L.two
  have key : ∀ i, i < n0 → uvar (tm i) = true → (tauOf ν β).sub (tm i).v = β i := fun i hi hv => by
    obtain ⟨k, hk⟩ := Option.ne_none_iff_exists'.1 (F.all i hi hv)
    obtain ⟨r, rfl, hr, hrv, hre⟩ := F.one _ k hk
    unfold Ta.sub tauOf
    rw [hk]
    show β ((r : Int).toNat) = β i
    rw [Int.toNat_natCast]
    exact ((hβ r hr).cls (H.vars r hr i hi hrv hv hre)).one (hβ i hi)
  have happ := Bl.app L H β hβ (tauOf ν β).sub key
  refine ⟨fun x => ⟨fun hx => ?_, fun hx => ?_⟩, ?_, fun θ hθ x t hx => ?_, fun x t hx hv => ?_, fun x t hx => ?_⟩
  · obtain ⟨t, ht⟩ := Option.ne_none_iff_exists'.1 hx
    obtain ⟨k, hk, _⟩ := tau_some ht
    obtain ⟨r, rfl, hr, hrv, hre⟩ := F.one x k hk
    exact L.occ x r hr (.here _ hrv hre)
  · obtain ⟨j, hj, hv, e⟩ : ∃ j, j < n0 ∧ uvar (tm j) = true ∧ (tm j).v = x := by
      rcases hx with hx | hx
      · exact L.node hx 0 (by omega) L.n0
      · exact L.node hx 1 (by omega) L.n1
    have := F.all j hj hv
    rw [e] at this
    unfold tauOf
    simpa using this
  · have e0 := happ 0 (by omega)
    have e1 := happ 1 (by omega)
    rw [L.n0] at e0
    rw [L.n1] at e1
    rw [e0, e1]
    exact ((hβ 0 (by omega)).cls H.tops).one (hβ 1 (by omega))
  · obtain ⟨k, hk, rfl⟩ := tau_some hx
    obtain ⟨r, rfl, hr, hrv, hre⟩ := F.one x k hk
    rw [Int.toNat_natCast, Bl.gen L H θ hθ (hβ r hr) hr, appV θ hrv, hre]
  · obtain ⟨k, hk, rfl⟩ := tau_some hx
    obtain ⟨r, rfl, hr, hrv, hre⟩ := F.one x k hk
    rw [Int.toNat_natCast] at hv ⊢
    obtain ⟨e1, e2, _⟩ := (hβ r hr).inv
    have hv' : uvar (tm (h r)) = true := by simpa [uvar, e2] using hv
    rw [e1, ← hre]
    exact (H.head r hr hv').2
  · obtain ⟨k, hk, rfl⟩ := tau_some hx
    obtain ⟨r, rfl, hr, hrv, hre⟩ := F.one x k hk
    rw [Int.toNat_natCast]
    exact Bl.shape hs H.lt (fun i hi l hl => (L.kids i hi l hl).1) (hβ r hr) hr

/-- What Unify answers. -/
def UnifyIs (a b : T) (e : Ending) (W : World) : Prop :=
  (¬ (a.rightW = 0 ∧ b.rightW = 0) ∧ e = .returned (.tuple #[.slice none 0 0, .bool false, .int .i64 1])) ∨
  ((a.rightW = 0 ∧ b.rightW = 0) ∧ (∀ θ, a.app θ ≠ b.app θ) ∧ e = .returned (.tuple #[.slice none 0 0, .bool false, .int .i64 0])) ∨
  ((a.rightW = 0 ∧ b.rightW = 0) ∧ ∃ τ, Mgu a b τ ∧
    (((∃ x t, τ x = some t ∧ ¬ (t.size ≤ 4000 ∧ t.depth ≤ 60)) ∧ e = .returned (.tuple #[.slice none 0 0, .bool false, .int .i64 3])) ∨
     ((∀ x t, τ x = some t → t.size ≤ 4000 ∧ t.depth ≤ 60) ∧ ∃ v ks, e = .returned (.tuple #[v, .bool true, .int .i64 0]) ∧ RiseT τ ks ∧ BindsAt W v (listB τ ks))))

end Go.Proofs.Ytblfbmdnkgebdaa

/-
  fits, of a method; Unify's parts, one behind the other.
-/
namespace Go.Proofs.Ytblfbmdnkgebdaa
open Go.RowKit Go.Maps

set_option maxHeartbeats 1000000 in
theorem fits_both (g : Nat) (p : Value) (eg : ∀ args w, (callFunc g args).run Try.prog w = .ok (.enter g args) w) (w : World) (Q R : World → Prop)
    (hc : Calls Try.prog g #[p] (fbox w) fun e w' => w'.heap[w.heap.size]? = some (.cells #[.bool false] 4 (0, 0)) ∧ ((e = .returned (.tuple #[]) ∧ Q w') ∨ (e = .panicked misfit ∧ R w'))) :
    Calls Try.prog 26 #[.func (.func g) #[p] #[]] w fun e w' => (∃ w1, e = .returned (.bool true) ∧ w1.heap[w.heap.size]? = some (.cells #[.bool false] 4 (0, 0)) ∧ Q w1 ∧ w' = w1.setCell ⟨w.heap.size, 0, none⟩ (.bool true)) ∨ (∃ w1, e = .returned (.bool false) ∧ w1.heap[w.heap.size]? = some (.cells #[.bool false] 4 (0, 0)) ∧ R w1 ∧ w' = w1.setCell ⟨w.heap.size, 0, none⟩ (.bool false)) := by
  have hmf : ∀ (fn : Fn) (first cap : Array Value) (w : World), (Instr.makeFunc fn first cap).run Try.prog w = .ok (.func fn first cap) w := fun _ _ _ _ => rfl
  go_enter_defers Try.func26, Try.ntmps26
  go_wp2_with fail
  go_at_fn g
  refine hc.mono ?_
  rintro e w1 ⟨hb, hd⟩
  obtain ⟨c1, z1⟩ := one_facts hb
  rcases hd with ⟨rfl, hq⟩ | ⟨rfl, hq⟩
  · go_wp2
    refine leaves_cons (f := 53) (args := #[.pointer (some ⟨w.heap.size, 0, none⟩)]) (by simp) (by simp [go_sem]) ?_
    refine (catch_idle ⟨w.heap.size, 0, none⟩ _).mono ?_
    rintro e u' w'' ⟨rfl, rfl, rfl⟩
    refine ⟨.bool true, ?_, .inl ⟨w1, rfl, hb, hq, rfl⟩⟩
    simp [results, Try.results26, go_sem, c1]
  · refine leaves_cons (f := 53) (args := #[.pointer (some ⟨w.heap.size, 0, none⟩)]) (by simp) (by simp [go_sem]) ?_
    refine (catch_panicking ⟨w.heap.size, 0, none⟩ false 113 _ [] _ c1 z1).mono ?_
    rintro e u' w'' ⟨rfl, rfl, rfl⟩
    refine ⟨.bool false, ?_, .inr ⟨w1, rfl, hb, hq, rfl⟩⟩
    simp [results, Try.results26, go_sem, c1]

theorem enter27 : ∀ args w, (callFunc 27 args).run Try.prog w = .ok (.enter 27 args) w := enters_of Try.func27 (by kernel_rfl) rfl
theorem enter28 : ∀ args w, (callFunc 28 args).run Try.prog w = .ok (.enter 28 args) w := enters_of Try.func28 (by kernel_rfl) rfl

end Go.Proofs.Ytblfbmdnkgebdaa

/-
  Unify's parts, one behind the other.
-/
namespace Go.Proofs.Ytblfbmdnkgebdaa
open Go.RowKit Go.Maps

/-- The graph when all that must become one is joined. -/
def U2 (V : World) (a bt : T) (g bv : Nat) (X : World) : Prop :=
  ∃ (w : World) (b c n0 : Nat) (tm : Nat → T) (fs h : Nat → Nat) (ν : Nv) (n : Nat) (ns : List Nd), MS V w V.heap.size g bv b c a bt n0 tm fs h ν n ∧ ML V w V.heap.size g bv b c n0 tm fs h ν n ns X ∧ (∀ i, opn ns i = false) ∧ Firsts n0 tm ν ∧ (∀ s k, ν s = some k → Fit64 s) ∧ n ≤ 1000000 ∧ V.heap.size ≤ b ∧ Below V.heap.size V w

/-- The graph when all is measured. -/
def U3 (V : World) (a bt : T) (g bv : Nat) (τ : Ta) (X : World) : Prop :=
  ∃ (w : World) (b c n0 : Nat) (tm : Nat → T) (fs h : Nat → Nat) (ν : Nv) (n : Nat) (ns : List Nd) (β : Nat → T), MS V w V.heap.size g bv b c a bt n0 tm fs h ν n ∧ ML V w V.heap.size g bv b c n0 tm fs h ν n ns X ∧ (∀ i, opn ns i = false) ∧ Firsts n0 tm ν ∧ (∀ s k, ν s = some k → Fit64 s) ∧ n ≤ 1000000 ∧ V.heap.size ≤ b ∧ Below V.heap.size V w ∧ (∀ i, i < n0 → Bl tm fs h i (β i)) ∧ τ = tauOf ν β

theorem only_below {V w X : World} {b : Nat} (hV : Below V.heap.size V w) (hb : V.heap.size ≤ b) (ho : Only [b] w X) : Below V.heap.size V X := hV.trans (ho.below hV.size (fun r hr => by simp at hr; omega))

theorem U2.cell {V : World} {a bt : T} {g bv : Nat} {X : World} (H : U2 V a bt g bv X) : X.cell? ⟨g, 1, none⟩ = some (.map (some bv)) ∧ Below V.heap.size V X := by
  obtain ⟨w, b, c, n0, tm, fs, h, ν, n, ns, hS, hM, _, _, _, _, hb, hV⟩ := H
  exact ⟨by simp [World.cell?, hM.gat.box], only_below hV hb hM.only⟩
theorem U3.cell {V : World} {a bt : T} {g bv : Nat} {τ : Ta} {X : World} (H : U3 V a bt g bv τ X) : X.cell? ⟨g, 1, none⟩ = some (.map (some bv)) ∧ Below V.heap.size V X := by
  obtain ⟨w, b, c, n0, tm, fs, h, ν, n, ns, β, hS, hM, _, _, _, _, hb, hV, _, _⟩ := H
  exact ⟨by simp [World.cell?, hM.gat.box], only_below hV hb hM.only⟩

theorem unite_fit {V : World} {a bt : T} {g bv : Nat} {ns : List Nd} {ν : Nv} {n : Nat} {v : Value} {W : World} (H : LdO V a bt g bv ns.length ns ν n v W) :
    Calls Try.prog 26 #[.func (.func 27) #[.pointer (some ⟨g, 0, none⟩)] #[]] W fun e W' => Below V.heap.size V W' ∧ ((e = .returned (.bool true) ∧ U2 V a bt g bv W') ∨ (e = .returned (.bool false) ∧ ∀ θ, a.app θ ≠ bt.app θ)) := by
  have h2 := H.two
  obtain ⟨b, c, rfl, hbl, _⟩ := H.i.gat.field (i := 0) (by omega)
  obtain ⟨hL, hG, hU⟩ := H.i.lay.done h2
  have hF := H.i.lay.firsts
  have hlen : ns.length = a.nn + bt.nn := by have := H.sum; simp [rest] at this; omega
  have hsm : ns.length ≤ 8000 := by have := H.i.tot; omega
  have hbf := below_box W (.cells #[.bool false] 4)
  have hbb : V.heap.size ≤ b := (H.i.gat.row.lt b rfl).1
  have hshp : ∀ i, i < ns.length → (tmOf ns i).shape = true := fun i hi => by
    rw [tmOf_eq (List.getElem?_eq_getElem hi)]; exact H.i.lay.shp _ (List.getElem_mem hi)
  have hVW := H.i.bel
  have hVf : Below V.heap.size V (fbox W) := hVW.trans (hbf.mono hVW.size)
  have hc := unite_any V (fbox W) V.heap.size g bv b c a bt ns.length (tmOf ns) (fsOf ns) ν n ns (hdOf ns) (H.i.gat.keep hbf) hG hL H.i.lay.shp hU H.i.lay.blk hsm (by have := hVf.size; omega)
  have hbox : ∀ X, Only [b] (fbox W) X → X.heap[W.heap.size]? = some (.cells #[.bool false] 4 (0, 0)) := fun X hX => (hX.block _ (by simp) (by simp; omega)).trans (MapKept.heap_alloc W (.cells #[.bool false] 4)).1
  refine (fits_both 27 _ enter27 W (fun w1 => Only [b] (fbox W) w1 ∧ ∃ ns' h', GAt V V.heap.size g bv ns' ν n (.slice (some ⟨b, 0, none⟩) ns'.length c) w1 ∧ Gr ns' ns.length (tmOf ns) (fsOf ns) h' ∧ Solved a bt ns.length (tmOf ns) (fsOf ns) h' ∧ Blank ns') (fun w1 => Only [b] (fbox W) w1 ∧ ∀ θ, a.app θ ≠ bt.app θ) (hc.mono fun e w' hx => ?_)).mono ?_
  · rcases hx with ⟨rfl, ns', h', k1, k2, k3, k4, k5⟩ | ⟨rfl, k5, k6⟩
    · exact ⟨hbox w' k5, .inl ⟨rfl, k5, ns', h', k1, k2, k3, k4⟩⟩
    · exact ⟨hbox w' k5, .inr ⟨rfl, k5, k6⟩⟩
  · rintro e W' (⟨w1, rfl, hb1, ⟨k5, ns', h', k1, k2, k3, k4⟩, rfl⟩ | ⟨w1, rfl, hb1, ⟨k5, k6⟩, rfl⟩)
    · have hV1 : Below V.heap.size V w1 := only_below hVf hbb k5
      have hVs : Below V.heap.size V (w1.setCell ⟨W.heap.size, 0, none⟩ (.bool true)) := hV1.setCell (p := ⟨W.heap.size, 0, none⟩) hVW.size _
      have lgg := (Array.getElem?_eq_some_iff.1 k1.box).1
      have hneg : ∀ k, k < W.heap.size → (w1.setCell ⟨W.heap.size, 0, none⟩ (.bool true)).heap[k]? = w1.heap[k]? := fun k hk => Below.heap_setCell _ _ _ k (by show k ≠ W.heap.size; omega)
      have lgW := (Array.getElem?_eq_some_iff.1 H.i.gat.box).1
      have lvW := H.i.gat.map.lt
      have gat' : GAt V V.heap.size g bv ns' ν n (.slice (some ⟨b, 0, none⟩) ns'.length c) (w1.setCell ⟨W.heap.size, 0, none⟩ (.bool true)) := ⟨(hneg g lgW).trans k1.box, row6_keep k1.row (fun k e => by cases e; exact hneg b hbl), k1.map.same (hneg bv lvW), k1.args, k1.ne, k1.own⟩
      have sz1 := k5.size
      have szf : (fbox W).heap.size = W.heap.size + 1 := by simp
      have blank0 : ∀ i, opn ns' i = false ∧ szn ns' i = 0 := fun i => by
        by_cases hi : i < ns'.length
        · rw [opn_eq hi, szn_eq hi]; exact k4 _ (List.getElem_mem hi)
        · unfold opn szn; rw [List.getElem?_eq_none (by omega)]; exact ⟨rfl, rfl⟩
      refine ⟨hVs, .inl ⟨rfl, w1.setCell ⟨W.heap.size, 0, none⟩ (.bool true), b, c, ns.length, tmOf ns, fsOf ns, h', ν, n, ns', ⟨hL, k3, by simp; omega, hVs.size, by simp; omega, by simp; omega, hsm, hshp⟩, ⟨gat', k2, fun r hr e => absurd (blank0 r).2 e, Only.refl _ _⟩, fun i => (blank0 i).1, hF, fun s k hk => ?_, by have := H.i.lay.cnt; omega, hbb, hVs⟩⟩
      obtain ⟨r, m, _, h2, h3, h4, _⟩ := H.i.lay.nu s k hk
      have := shape_var (H.i.lay.shp m (List.mem_of_getElem? h2)) h3
      unfold Fit64
      omega
    · exact ⟨(only_below hVf hbb k5).setCell (p := ⟨W.heap.size, 0, none⟩) hVW.size _, .inr ⟨rfl, k6⟩⟩

end Go.Proofs.Ytblfbmdnkgebdaa

/-
  Unify's parts: measured, told too great, listed.
-/
namespace Go.Proofs.Ytblfbmdnkgebdaa
open Go.RowKit Go.Maps

theorem MS.later {w0 w w' : World} {base g bv b c : Nat} {a bt : T} {n0 : Nat} {tm : Nat → T} {fs h : Nat → Nat} {ν : Nv} {n : Nat} (hS : MS w0 w base g bv b c a bt n0 tm fs h ν n) (hs : w.heap.size ≤ w'.heap.size) : MS w0 w' base g bv b c a bt n0 tm fs h ν n :=
  ⟨hS.lay, hS.sol, Nat.lt_of_lt_of_le hS.lb hs, Nat.le_trans hS.lw hs, Nat.lt_of_lt_of_le hS.lg hs, Nat.lt_of_lt_of_le hS.lv hs, hS.small, hS.shp⟩

theorem measure_fit {V : World} {a bt : T} {g bv : Nat} {W : World} (H : U2 V a bt g bv W) :
    Calls Try.prog 26 #[.func (.func 28) #[.pointer (some ⟨g, 0, none⟩)] #[]] W fun e W' => Below V.heap.size V W' ∧ ((e = .returned (.bool true) ∧ ∃ τ, Mgu a bt τ ∧ U3 V a bt g bv τ W') ∨ (e = .returned (.bool false) ∧ ∀ θ, a.app θ ≠ bt.app θ)) := by
  obtain ⟨w, b, c, n0, tm, fs, h, ν, n, ns, hS, hM, hop, hF, hfit, hn, hbb, hV⟩ := H
  have hVW := only_below hV hbb hM.only
  have hbf := below_box W (.cells #[.bool false] 4)
  have hVf : Below V.heap.size V (fbox W) := hVW.trans (hbf.mono hVW.size)
  have hwW := hM.only.size
  have lbW : b < W.heap.size := Nat.lt_of_lt_of_le hS.lb hwW
  have hc := measure_any V w V.heap.size g bv b c a bt n0 tm fs h ν n hS ns (fbox W) (hM.keep hbf) hop
  have hbox : ∀ X, Only [b] (fbox W) X → X.heap[W.heap.size]? = some (.cells #[.bool false] 4 (0, 0)) := fun X hX => (hX.block _ (by simp) (by simp; omega)).trans (MapKept.heap_alloc W (.cells #[.bool false] 4)).1
  refine (fits_both 28 _ enter28 W (fun w1 => Only [b] (fbox W) w1 ∧ ∃ t ns', Bl tm fs h 0 t ∧ ML V w V.heap.size g bv b c n0 tm fs h ν n ns' w1 ∧ ∀ i, opn ns' i = false) (fun w1 => Only [b] (fbox W) w1 ∧ ∀ φ, ¬ Rank n0 tm fs h φ) (hc.mono fun e w' hx => ?_)).mono ?_
  · obtain ⟨ho, hx⟩ := hx
    rcases hx with ⟨rfl, k⟩ | ⟨rfl, k⟩
    · exact ⟨hbox w' ho, .inl ⟨rfl, ho, k⟩⟩
    · exact ⟨hbox w' ho, .inr ⟨rfl, ho, k⟩⟩
  · rintro e W' (⟨w1, rfl, hb1, ⟨k5, t, ns', k1, k2, k3⟩, rfl⟩ | ⟨w1, rfl, hb1, ⟨k5, k6⟩, rfl⟩)
    · have hV1 : Below V.heap.size V w1 := only_below hVf hbb k5
      have hVs : Below V.heap.size V (w1.setCell ⟨W.heap.size, 0, none⟩ (.bool true)) := hV1.setCell (p := ⟨W.heap.size, 0, none⟩) hVW.size _
      have hall := Bl.all hS.lay hS.sol k1
      have H' : ∀ i, ∃ t, i < n0 → Bl tm fs h i t := fun i => by
        by_cases hi : i < n0
        · obtain ⟨t, ht⟩ := hall i hi
          exact ⟨t, fun _ => ht⟩
        · exact ⟨.mk 0 ⟨#[]⟩ [], fun h => absurd h hi⟩
      obtain ⟨β, hβ⟩ := Classical.axiomOfChoice H'
      refine ⟨hVs, .inl ⟨rfl, tauOf ν β, mgu_of hS.lay hS.sol hF hS.shp β hβ, w, b, c, n0, tm, fs, h, ν, n, ns', β, hS, k2.setBox hS.lb hS.lg hS.lv hwW _ _, k3, hF, hfit, hn, hbb, hV, hβ, rfl⟩⟩
    · exact ⟨(only_below hVf hbb k5).setCell (p := ⟨W.heap.size, 0, none⟩) hVW.size _, .inr ⟨rfl, fun θ hθ => k6 _ (rank_uni hS.lay hS.sol θ hθ)⟩⟩

/-- The graph ahead of listed. -/
def U4 (V : World) (a bt : T) (g bv : Nat) (τ : Ta) (X : World) : Prop :=
  ∃ (w : World) (b c n0 : Nat) (tm : Nat → T) (fs h : Nat → Nat) (ν : Nv) (n : Nat) (ns : List Nd) (β : Nat → T), MS V w V.heap.size g bv b c a bt n0 tm fs h ν n ∧ ML V w V.heap.size g bv b c n0 tm fs h ν n ns X ∧ Firsts n0 tm ν ∧ (∀ s k, ν s = some k → Fit64 s) ∧ n ≤ 1000000 ∧ V.heap.size ≤ b ∧ Below V.heap.size V w ∧ (∀ i, i < n0 → Bl tm fs h i (β i)) ∧ τ = tauOf ν β

/-- Every term of it fits. -/
def FitsT (τ : Ta) : Prop := ∀ x t, τ x = some t → t.size ≤ 4000 ∧ t.depth ≤ 60

theorem great_at {V : World} {a bt : T} {g bv : Nat} {τ : Ta} {W : World} (H : U3 V a bt g bv τ W) :
    Calls Try.prog 29 #[.pointer (some ⟨g, 0, none⟩)] W fun e W' => Below V.heap.size V W' ∧ ((e = .returned (.bool true) ∧ ¬ FitsT τ) ∨ (e = .returned (.bool false) ∧ FitsT τ ∧ U4 V a bt g bv τ W' ∧ W'.cell? ⟨g, 1, none⟩ = some (.map (some bv)))) := by
  obtain ⟨w, b, c, n0, tm, fs, h, ν, n, ns, β, hS, hM, hop, hF, hfit, hn, hbb, hV, hβ, rfl⟩ := H
  have hrank := rank_bl hS.sol.lt hS.sol.idem (fun i hi l hl => (hS.lay.kids i hi l hl).1) (fun i hi => ⟨β i, hβ i hi⟩)
  refine (great_any V w V.heap.size g bv b c a bt n0 tm fs h ν n hS (fun s k hk => ⟨hfit s k hk, by obtain ⟨r, e, hr, _⟩ := hF.one s k hk; exact ⟨r, e, hr⟩⟩) hrank ns W hM hop).mono ?_
  rintro e W' ⟨q, ns', rfl, k1, k2, k3, k4⟩
  have hV' := only_below hV hbb (hM.only.trans k2 (fun r hr => .inl hr))
  have hop' : True := trivial
  cases q with
  | true =>
    obtain ⟨s, k, hk, hns⟩ := k3 rfl
    refine ⟨hV', .inl ⟨rfl, fun hft => hns fun t ht => ?_⟩⟩
    obtain ⟨r, rfl, hr, _⟩ := hF.one s k hk
    rw [Int.toNat_natCast] at ht
    rw [ht.one (hβ r hr)]
    exact hft s (β r) (by simp [tauOf, hk])
  | false =>
    refine ⟨hV', .inr ⟨rfl, fun x t hx => ?_, ⟨w, b, c, n0, tm, fs, h, ν, n, ns', β, hS, k1, hF, hfit, hn, hbb, hV, hβ, rfl⟩, by simp [World.cell?, k1.gat.box]⟩⟩
    obtain ⟨k, hk, rfl⟩ := tau_some hx
    obtain ⟨r, rfl, hr, _⟩ := hF.one x k hk
    have := k4 rfl x r hk
    rw [Int.toNat_natCast] at this ⊢
    exact this (β r) (hβ r hr)

theorem list_at {V : World} {a bt : T} {g bv : Nat} {τ : Ta} {W : World} (H : U4 V a bt g bv τ W) :
    Calls Try.prog 30 #[.map (some bv), .func (.func 31) #[.pointer (some ⟨g, 0, none⟩)] #[]] W fun e W' => ∃ v ks, e = .returned v ∧ RiseT τ ks ∧ BindsAt W' v (listB τ ks) ∧ Below V.heap.size V W' := by
  obtain ⟨w, b, c, n0, tm, fs, h, ν, n, ns, β, hS, hM, hF, hfit, hn, hbb, hV, hβ, rfl⟩ := H
  refine (listedI_any V w V.heap.size g bv b c a bt n0 tm fs h ν n hS (fun s k hk => ⟨hfit s k hk, by obtain ⟨r, e, hr, _⟩ := hF.one s k hk; exact ⟨r, e, hr⟩⟩) β hβ ns W hM hn).mono ?_
  rintro e W' ⟨v, ks, rfl, h1, h2, h3⟩
  exact ⟨v, ks, rfl, h1, h2, only_below hV hbb (hM.only.trans h3 (fun r hr => .inl hr))⟩

end Go.Proofs.Ytblfbmdnkgebdaa

/-
  Unify: the walk.
-/
namespace Go.Proofs.Ytblfbmdnkgebdaa
open Go.RowKit Go.Maps

theorem laid_at (a b : T) (sa sb : Value) (w W : World) (hb : Below w.heap.size w W) (ha : ArgsAt w sa a.args) (hbb : ArgsAt w sb b.args) (h1 : a.rightW = 0) (h2 : b.rightW = 0) (hsa : a.size ≤ 1048576) (hsb : b.size ≤ 1048576) :
    Calls Try.prog 25 #[tval a sa, tval b sb] W fun e W' => ∃ V g bv ns ν n v, e = .returned (.pointer (some ⟨g, 0, none⟩)) ∧ LdO V a b g bv ns.length ns ν n v W' ∧ Below w.heap.size w V := by
  obtain ⟨x1, x2⟩ := right_zero h1 hsa
  obtain ⟨y1, y2⟩ := right_zero h2 hsb
  refine (laid_any a b sa sb W (ArgsAt.keep hb (Nat.le_refl _) ha) (ArgsAt.keep hb (Nat.le_refl _) hbb) x1 y1 (by omega)).mono ?_
  rintro e W' ⟨g, bv, ns, ν, n, v, rfl, h⟩
  exact ⟨_, g, bv, ns, ν, n, v, rfl, h, hb.trans ((below_box2 W _ _).mono hb.size)⟩

set_option maxRecDepth 100000 in
set_option maxHeartbeats 4000000 in
theorem unify_any (p t : T) (sp st : Value) (w : World) (hp : ArgsAt w sp p.args) (ht : ArgsAt w st t.args) (hps : p.size ≤ 1048576) (hts : t.size ≤ 1048576) :
    Calls Try.prog 9 #[tval p sp, tval t st] w fun e W => UnifyIs p t e W ∧ Below w.heap.size w W := by
  obtain ⟨pa, pc, rfl, _, _⟩ := hp.slice
  obtain ⟨ta, tc, rfl, _, _⟩ := ht.slice
  have hb2 := below_box2 w (tbox p (.slice pa p.args.length pc)) (tbox t (.slice ta t.args.length tc))
  obtain ⟨⟨p0, p1, p2⟩, ⟨t0, t1, t2⟩⟩ := tbox2_cells w p (.slice pa p.args.length pc) t (.slice ta t.args.length tc)
  have HB : Hid (Below w.heap.size w (tbox2 w p (.slice pa p.args.length pc) t (.slice ta t.args.length tc))) := hb2
  have HRp : Hid (∀ W, Below w.heap.size w W → Calls Try.prog 24 #[tval p (.slice pa p.args.length pc)] W fun e W' => e = .returned (.int .i64 p.rightW) ∧ Below W.heap.size W W') := fun W h => right_at p _ w W h hp hps
  have HRt : Hid (∀ W, Below w.heap.size w W → Calls Try.prog 24 #[tval t (.slice ta t.args.length tc)] W fun e W' => e = .returned (.int .i64 t.rightW) ∧ Below W.heap.size W W') := fun W h => right_at t _ w W h ht hts
  have hrp := HRp.out _ hb2
  have hmf : ∀ (fn : Fn) (first cap : Array Value) (w : World), (Instr.makeFunc fn first cap).run Try.prog w = .ok (.func fn first cap) w := fun _ _ _ _ => rfl
  by_cases h1 : p.rightW = 0
  · have h1' : (p.rightW != 0) = false := by rw [bne_eq_false_iff_eq]; exact h1
    by_cases h2 : t.rightW = 0
    · have h2' : (t.rightW != 0) = false := by rw [bne_eq_false_iff_eq]; exact h2
      have HLA : Hid (∀ W, Below w.heap.size w W → Calls Try.prog 25 #[tval p (.slice pa p.args.length pc), tval t (.slice ta t.args.length tc)] W fun e W' => ∃ V g bv ns ν n v, e = .returned (.pointer (some ⟨g, 0, none⟩)) ∧ LdO V p t g bv ns.length ns ν n v W' ∧ Below w.heap.size w V) := fun W h => laid_at p t _ _ w W h hp ht h1 h2 hps hts
      have HM : Hid (p.rightW = 0 ∧ t.rightW = 0) := ⟨h1, h2⟩
      clear h1 h2 hp ht hps hts hb2
      go_enter Try.func9, Try.ntmps9
      go_wp2_with (first
        | (go_at_call 24; refine hrt.mono ?_; rintro e W2 ⟨rfl, hb2'⟩; have c0 := kc hb2' (by have := HB1.out.2; simp at this; omega) a0; have c1 := kc hb2' (by have := HB1.out.2; simp at this; omega) a1; have c2 := kc hb2' (by have := HB1.out.2; simp at this; omega) a2; have d0 := kc hb2' (by have := HB1.out.2; simp at this; omega) b0; have d1 := kc hb2' (by have := HB1.out.2; simp at this; omega) b1; have d2 := kc hb2' (by have := HB1.out.2; simp at this; omega) b2; have HB2 : Hid (Below w.heap.size w W2) := HB1.out.1.trans (hb2'.mono HB1.out.1.size); have hla := HLA.out W2 HB2.out; clear hb2' hrt)
        | (go_at_call 24; refine hrp.mono ?_; rintro e W1 ⟨rfl, hb1⟩; have a0 := kc hb1 (by simp; omega) p0; have a1 := kc hb1 (by simp; omega) p1; have a2 := kc hb1 (by simp; omega) p2; have b0 := kc hb1 (by simp) t0; have b1 := kc hb1 (by simp) t1; have b2 := kc hb1 (by simp) t2; have HB1 : Hid (Below w.heap.size w W1 ∧ (tbox2 w p (.slice pa p.args.length pc) t (.slice ta t.args.length tc)).heap.size ≤ W1.heap.size) := ⟨HB.out.trans (hb1.mono (by simp; omega)), hb1.size⟩; have hrt := HRt.out W1 HB1.out.1; clear hb1 hrp)
        | (go_at_call 25; refine hla.mono ?_; rintro e W3 ⟨V, g, bv, ns, ν, n, v, rfl, hL, hV⟩; have HV := hid hV; have hun := unite_fit hL; clear hla hL hV c0 c1 c2 d0 d1 d2 a0 a1 a2 b0 b1 b2))
      refine hun.mono ?_
      clear hun
      rintro e W4 ⟨hb4, (⟨rfl, hU2⟩ | ⟨rfl, hno⟩)⟩
      · have hms := measure_fit hU2
        clear hU2
        go_wp2_with fail
        refine hms.mono ?_
        clear hms
        rintro e W5 ⟨hb5, (⟨rfl, τ, hMg, hU3⟩ | ⟨rfl, hno⟩)⟩
        · have hgr := great_at hU3
          clear hU3
          go_wp2_with fail
          refine hgr.mono ?_
          clear hgr
          rintro e W6 ⟨hb6, (⟨rfl, hnf⟩ | ⟨rfl, hft, hU4, g1⟩)⟩
          · have HNF := hid hnf
            clear hnf
            go_wp2
            refine bodyPost_ret (v := .tuple #[.slice none 0 0, .bool false, .int .i64 3]) (by simp [results, Try.results9, go_sem]) rfl ?_
            refine ⟨.inr (.inr ⟨HM.out, τ, hMg, .inl ⟨?_, rfl⟩⟩), HV.out.trans (hb6.mono HV.out.size)⟩
            exact Classical.byContradiction fun hc => HNF.out fun x u hx => Classical.byContradiction fun hc2 => hc ⟨x, u, hx, hc2⟩
          · have hli := list_at hU4
            have HFT := hid hft
            clear hU4 hft
            go_wp2_with fail
            refine hli.mono ?_
            clear hli
            rintro e W7 ⟨v, ks, rfl, k1, k2, hb7⟩
            go_wp2
            refine bodyPost_ret (v := .tuple #[v, .bool true, .int .i64 0]) (by simp [results, Try.results9, go_sem]) rfl ?_
            exact ⟨.inr (.inr ⟨HM.out, τ, hMg, .inr ⟨HFT.out, v, ks, rfl, k1, k2⟩⟩), HV.out.trans (hb7.mono HV.out.size)⟩
        · have HNO := hid hno
          clear hno
          go_wp2
          refine bodyPost_ret (v := .tuple #[.slice none 0 0, .bool false, .int .i64 0]) (by simp [results, Try.results9, go_sem]) rfl ?_
          exact ⟨.inr (.inl ⟨HM.out, HNO.out, rfl⟩), HV.out.trans (hb5.mono HV.out.size)⟩
      · have HNO := hid hno
        clear hno
        go_wp2
        refine bodyPost_ret (v := .tuple #[.slice none 0 0, .bool false, .int .i64 0]) (by simp [results, Try.results9, go_sem]) rfl ?_
        exact ⟨.inr (.inl ⟨HM.out, HNO.out, rfl⟩), HV.out.trans (hb4.mono HV.out.size)⟩
    · have HM : Hid (∀ W, UnifyIs p t (.returned (.tuple #[.slice none 0 0, .bool false, .int .i64 1])) W) := fun W => .inl ⟨fun h => h2 h.2, rfl⟩
      have h2' : (t.rightW != 0) = true := by rw [bne_iff_ne]; exact h2
      clear h1 h2 hp ht hps hts hb2
      go_enter Try.func9, Try.ntmps9
      go_wp2_with (first
        | (go_at_call 24; refine hrt.mono ?_; rintro e W2 ⟨rfl, hb2'⟩)
        | (go_at_call 24; refine hrp.mono ?_; rintro e W1 ⟨rfl, hb1⟩; have a0 := kc hb1 (by simp; omega) p0; have a1 := kc hb1 (by simp; omega) p1; have a2 := kc hb1 (by simp; omega) p2; have b0 := kc hb1 (by simp) t0; have b1 := kc hb1 (by simp) t1; have b2 := kc hb1 (by simp) t2; have HB1 : Hid (Below w.heap.size w W1 ∧ (tbox2 w p (.slice pa p.args.length pc) t (.slice ta t.args.length tc)).heap.size ≤ W1.heap.size) := ⟨HB.out.trans (hb1.mono (by simp; omega)), hb1.size⟩; have hrt := HRt.out W1 HB1.out.1; clear hb1 hrp))
      refine bodyPost_ret (v := .tuple #[.slice none 0 0, .bool false, .int .i64 1]) (by simp [results, Try.results9, go_sem]) rfl ?_
      exact ⟨HM.out _, HB1.out.1.trans (hb2'.mono HB1.out.1.size)⟩
  · have HM : Hid (∀ W, UnifyIs p t (.returned (.tuple #[.slice none 0 0, .bool false, .int .i64 1])) W) := fun W => .inl ⟨fun h => h1 h.1, rfl⟩
    have h1' : (p.rightW != 0) = true := by rw [bne_iff_ne]; exact h1
    clear h1 hb2 hp ht hps hts
    go_enter Try.func9, Try.ntmps9
    go_wp2_with (go_at_call 24; refine hrp.mono ?_; rintro e W1 ⟨rfl, hb1⟩)
    refine bodyPost_ret (v := .tuple #[.slice none 0 0, .bool false, .int .i64 1]) (by simp [results, Try.results9, go_sem]) rfl ?_
    exact ⟨HM.out _, HB.out.trans (hb1.mono (by simp; omega))⟩

end Go.Proofs.Ytblfbmdnkgebdaa

/-
  The chapter's examples: what Unify answers there.
-/
namespace Go.Proofs.Ytblfbmdnkgebdaa
open Go.RowKit Go.Maps

theorem rise_eq : ∀ {l m : List Int}, l.Pairwise (· < ·) → m.Pairwise (· < ·) → (∀ x, x ∈ l ↔ x ∈ m) → l = m
  | [], [], _, _, _ => rfl
  | [], b :: m, _, _, h => absurd ((h b).2 List.mem_cons_self) (by simp)
  | a :: l, [], _, _, h => absurd ((h a).1 List.mem_cons_self) (by simp)
  | a :: l, b :: m, hl, hm, h => by
    obtain ⟨l1, l2⟩ := List.pairwise_cons.1 hl
    obtain ⟨m1, m2⟩ := List.pairwise_cons.1 hm
    have e : a = b := by
      rcases List.mem_cons.1 ((h a).1 List.mem_cons_self) with e | e
      · exact e
      · rcases List.mem_cons.1 ((h b).2 List.mem_cons_self) with e' | e'
        · exact e'.symm
        · have := m1 a e; have := l1 b e'; omega
    subst e
    congr 1
    refine rise_eq l2 m2 fun x => ⟨fun hx => ?_, fun hx => ?_⟩
    · rcases List.mem_cons.1 ((h x).1 (List.mem_cons_of_mem _ hx)) with e | e
      · subst e; have := l1 x hx; omega
      · exact e
    · rcases List.mem_cons.1 ((h x).2 (List.mem_cons_of_mem _ hx)) with e | e
      · subst e; have := m1 x hx; omega
      · exact e

abbrev cn (c : UInt8) : T := .mk 0 ⟨#[c]⟩ []
abbrev fn2 (c : UInt8) (x y : T) : T := .mk 0 ⟨#[c]⟩ [x, y]
abbrev fn1 (c : UInt8) (x : T) : T := .mk 0 ⟨#[c]⟩ [x]

theorem cn_small (c : UInt8) : (cn c).size = 1 ∧ (cn c).depth = 1 := by
  constructor
  · rw [T.size_eq]; simp [T.args]
  · rw [T.depth_eq]; simp [T.args]

/-- What Unify says, where it says yes to a list. -/
def SaysL (a b : T) (l : List Bd) : Prop := ∀ e W, UnifyIs a b e W → ∃ v, e = .returned (.tuple #[v, .bool true, .int .i64 0]) ∧ BindsAt W v l

theorem says_of {a b : T} {l : List Bd} (hr : a.rightW = 0 ∧ b.rightW = 0) (θ : Int → T) (hθ : a.app θ = b.app θ) (h : ∀ τ, Mgu a b τ → FitsT τ ∧ ∀ ks, RiseT τ ks → listB τ ks = l) : SaysL a b l := by
  rintro e W (⟨h1, _⟩ | ⟨_, h1, _⟩ | ⟨_, τ, hM, h2⟩)
  · exact absurd hr h1
  · exact absurd hθ (h1 θ)
  · obtain ⟨hf, hl⟩ := h τ hM
    rcases h2 with ⟨⟨x, t, hx, hn⟩, _⟩ | ⟨_, v, ks, rfl, h3, h4⟩
    · exact absurd (hf x t hx) hn
    · rw [hl ks h3] at h4
      exact ⟨v, rfl, h4⟩

theorem occ_var {x y : Int} : Occ x (var y) ↔ y = x := by
  constructor
  · intro h
    cases h with
    | here _ _ h => exact h
    | sub _ a hv ha _ => cases ha
  · intro h; exact .here _ rfl h
theorem occ_fn {x : Int} {t : T} (hv : uvar t = false) : Occ x t ↔ ∃ a ∈ t.args, Occ x a := by
  constructor
  · intro h
    cases h with
    | here _ hv' _ => rw [hv] at hv'; cases hv'
    | sub _ a _ ha h => exact ⟨a, ha, h⟩
  · rintro ⟨a, ha, h⟩; exact .sub t a hv ha h

theorem sub_some {τ : Ta} {x : Int} (h : τ x ≠ none) : τ x = some (τ.sub x) := by
  obtain ⟨t, ht⟩ := Option.ne_none_iff_exists'.1 h
  unfold Ta.sub
  rw [ht]; rfl

theorem ex_one : SaysL (fn2 102 (var 0) (cn 98)) (fn2 102 (cn 97) (var 1)) [(0, cn 97), (1, cn 98)] := by
  refine says_of (by constructor <;> kernel_rfl) (fun x => if x = 0 then cn 97 else cn 98) (by rfl) fun τ hM => ?_
  have hu := hM.unif
  rw [appF _ (by rfl), appF _ (by rfl)] at hu
  injection hu with _ _ hu
  have hu' : [τ.sub 0, cn 98] = [cn 97, τ.sub 1] := hu
  injection hu' with h0 hu'
  injection hu' with h1 _
  have h1 := h1.symm
  have dom : ∀ x, τ x ≠ none ↔ x = 0 ∨ x = 1 := fun x => by
    rw [hM.dom x, occ_fn (by rfl), occ_fn (by rfl)]
    simp only [T.args, List.mem_cons, List.not_mem_nil, or_false, exists_eq_or_imp, exists_eq_left, occ_var]
    rw [occ_fn (by rfl), occ_fn (by rfl)]
    simp [T.args]
    omega
  have t0 : τ 0 = some (cn 97) := by rw [sub_some ((dom 0).2 (.inl rfl)), h0]
  have t1 : τ 1 = some (cn 98) := by rw [sub_some ((dom 1).2 (.inr rfl)), h1]
  refine ⟨fun x t hx => ?_, fun ks hk => ?_⟩
  · rcases (dom x).1 (by rw [hx]; simp) with rfl | rfl
    · rw [t0] at hx; cases hx; have := cn_small 97; omega
    · rw [t1] at hx; cases hx; have := cn_small 98; omega
  · have e : ks = [0, 1] := rise_eq hk.1 (by simp) fun x => by rw [hk.2 x, dom x]; simp
    subst e
    have b0 : bindOf τ 0 = some (0, cn 97) := bind_some t0 (.inl rfl)
    have b1 : bindOf τ 1 = some (1, cn 98) := bind_some t1 (.inl rfl)
    simp [listB, b0, b1]

theorem ex_two : ∀ e W, UnifyIs (var 0) (fn1 103 (var 0)) e W → e = .returned (.tuple #[.slice none 0 0, .bool false, .int .i64 0]) := by
  have hno : ∀ θ, (var 0).app θ ≠ (fn1 103 (var 0)).app θ := fun θ h => by
    rw [appV θ (by rfl), appF θ (by rfl)] at h
    have h : θ 0 = .mk 0 ⟨#[103]⟩ [θ 0] := h
    have h1 := congrArg T.nn h
    have h2 : (T.mk 0 ⟨#[103]⟩ [θ 0]).nn = 1 + (θ 0).nn := by rw [T.nn_eq]; simp [T.args]
    omega
  rintro e W (⟨h1, _⟩ | ⟨_, _, h1⟩ | ⟨_, τ, hM, _⟩)
  · exact absurd ⟨by kernel_rfl, by kernel_rfl⟩ h1
  · exact h1
  · exact absurd hM.unif (hno _)

theorem ex_three : SaysL (var 3) (var 1) [(3, var 1)] := by
  refine says_of (by constructor <;> kernel_rfl) (fun _ => cn 97) (by rfl) fun τ hM => ?_
  have dom : ∀ x, τ x ≠ none ↔ x = 3 ∨ x = 1 := fun x => by rw [hM.dom x, occ_var, occ_var]; omega
  have hu := hM.unif
  rw [appV _ (by rfl), appV _ (by rfl)] at hu
  have hu : τ.sub 3 = τ.sub 1 := hu
  obtain ⟨t, ht⟩ : ∃ t, τ.sub 3 = t := ⟨_, rfl⟩
  have t3 : τ 3 = some t := by rw [sub_some ((dom 3).2 (.inl rfl)), ht]
  have t1 : τ 1 = some t := by rw [sub_some ((dom 1).2 (.inr rfl)), ← hu, ht]
  have hg : ∀ θ : Int → T, θ 3 = θ 1 → t.app θ = θ 3 := fun θ h => hM.gen θ (by rw [appV _ (by rfl), appV _ (by rfl)]; exact h) 3 t t3
  have hv : uvar t = true := by
    cases hv : uvar t with
    | true => rfl
    | false =>
      have := hg (fun _ => var 7) rfl
      rw [appF _ hv] at this
      have h2 := congrArg T.fn this
      have h3 : t.fn = ⟨#[]⟩ := h2
      rw [uvar, h3] at hv
      cases hv
  have hy : t.v = 3 ∨ t.v = 1 := by
    have := hg (fun x => if x = 3 ∨ x = 1 then cn 97 else cn 98) rfl
    rw [appV _ hv] at this
    by_cases h : t.v = 3 ∨ t.v = 1
    · exact h
    · simp [h] at this
  have hle := hM.least 1 t t1 hv
  have hv1 : t.v = 1 := by omega
  have hta : t = var 1 := by
    have hs := shape_var (hM.shp 1 t t1) hv
    rw [T.eta t, hv1, hs.1]
    have : t.fn = ⟨#[]⟩ := ba_empty.1 (by simpa [uvar] using hv)
    rw [this]
    rfl
  subst hta
  refine ⟨fun x u hx => ?_, fun ks hk => ?_⟩
  · have : u = var 1 := by
      rcases (dom x).1 (by rw [hx]; simp) with rfl | rfl
      · rw [t3] at hx; cases hx; rfl
      · rw [t1] at hx; cases hx; rfl
    rw [this]
    have := var_size 1
    omega
  · have e : ks = [1, 3] := rise_eq hk.1 (by simp) fun x => by rw [hk.2 x, dom x]; simp; omega
    subst e
    have b1 : bindOf τ 1 = none := bind_none t1 rfl rfl
    have b3 : bindOf τ 3 = some (3, var 1) := bind_some t3 (.inr (by show (1 : Int) ≠ 3; omega))
    simp [listB, b1, b3]

end Go.Proofs.Ytblfbmdnkgebdaa
