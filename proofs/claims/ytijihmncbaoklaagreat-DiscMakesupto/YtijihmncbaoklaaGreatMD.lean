import Derived.Test.YtijihmncbaoklaaGreatZHH
import Derived.Test.YtijihmncbaoklaaGreatTA
import Derived.Test.YtijihmncbaoklaaGreatVJ
import Derived.Test.YtijihmncbaoklaaGreatUN
import Derived.Maps.AppendAt

/-
  What matches is among the ends; an instance of a term matches it.
-/
namespace Go.Proofs.YtijihmncbaoklaaGreat
open Go.RowKit Go.Maps

theorem app_shape (σ : Int → T) (hσ : ∀ n, 0 ≤ n → n < 1000000 → (σ n).shape = true) (t : T) : t.shape = true → (t.app σ).shape = true := by
  induction t using T.ind with
  | _ t ih =>
    intro hs
    rw [T.app_eq]
    rw [T.shape_eq] at hs
    by_cases h0 : t.fn.size = 0
    · rw [if_pos h0] at hs ⊢
      simp only [Bool.and_eq_true, decide_eq_true_eq] at hs
      exact hσ _ hs.1.1 hs.1.2
    · rw [if_neg h0] at hs ⊢
      simp only [Bool.and_eq_true, decide_eq_true_eq, List.all_eq_true] at hs
      rw [T.shape_eq, if_neg (show ¬ (T.mk 0 t.fn (t.args.map (T.app σ))).fn.size = 0 from h0)]
      simp only [Bool.and_eq_true, decide_eq_true_eq, List.all_eq_true]
      refine ⟨⟨⟨rfl, hs.1.1.2⟩, by simpa [T.args] using hs.1.2⟩, fun x hx => ?_⟩
      obtain ⟨y, hy, rfl⟩ := List.mem_map.1 hx
      exact ih y hy (hs.2 y hy)

theorem fit_inst (σ : Int → T) (p : T) : p.shape = true → Fit (fun x => some (σ x)) p (p.app σ) := by
  induction p using T.ind with
  | _ p ih =>
    intro hs
    cases hv : uvar p with
    | true => exact .var _ _ hv (by rw [appV _ hv])
    | false =>
      rw [appF _ hv]
      refine .fn _ _ hv rfl (by simp [T.args]) fun i h1 h2 => ?_
      have : (T.mk 0 p.fn (p.args.map (T.app σ))).args[i] = p.args[i].app σ := by simp [T.args]
      rw [this]
      exact ih _ (List.getElem_mem h1) ((shape_fn5 hs hv).2.2 _ (List.getElem_mem h1))

theorem mres_fit {θ : Ta} {p t : T} (h : Fit θ p t) : mres p t ≠ none := fun e => by
  have := (mrun_says (mres_run p t)).2 e θ (ext_none θ)
  exact this (by intro q hq; rw [List.mem_singleton.1 hq]; exact h)

theorem mres_inst (σ : Int → T) {p : T} (hs : p.shape = true) : mres p (p.app σ) ≠ none := mres_fit (fit_inst σ p hs)

theorem mres_gives {p t : T} {τ : Ta} (h : mres p t = some τ) : Fit τ p t := by
  have := ((mrun_says (mres_run p t)).1 τ h).2.1 (p, t) (by simp)
  exact this

theorem fpath_nil : fpath [] = [] := rfl

/-- Where the patterns match what is left, and all nodes on their way are there, their way's end is told. -/
theorem ends_fit {P : Path → Prop} {θ : Ta} : ∀ (n : Nat) (q : Path) (lp lt : List T), fsize lt ≤ n → (∀ x ∈ lp, x.shape = true) → lp.length = lt.length → (∀ z ∈ lp.zip lt, Fit θ z.1 z.2) → (∀ s, s <+: fpath lp → P (q ++ s)) → q ++ fpath lp ∈ ends P q lt := by
  intro n
  induction n with
  | zero =>
    intro q lp lt hn hsh hl hf hP
    cases lt with
    | nil =>
      cases lp with
      | nil => rw [fpath_nil, List.append_nil, ends_nil_yes (by simpa using hP [] (by simp))]; simp
      | cons a r => simp at hl
    | cons t r => rw [fsize_cons] at hn; have := pre_pos t; omega
  | succ n ih =>
    intro q lp lt hn hsh hl hf hP
    cases lt with
    | nil =>
      cases lp with
      | nil => rw [fpath_nil, List.append_nil, ends_nil_yes (by simpa using hP [] (by simp))]; simp
      | cons a r => simp at hl
    | cons t r =>
      cases lp with
      | nil => simp at hl
      | cons p s =>
        have hq : P q := by simpa using hP [] (by simp)
        have hl' : s.length = r.length := by simpa using hl
        have hpt : Fit θ p t := hf (p, t) (by simp)
        have hs : ∀ z ∈ s.zip r, Fit θ z.1 z.2 := fun z hz => hf z (by simp [hz])
        have hssh : ∀ x ∈ s, x.shape = true := fun x hx => hsh x (by simp [hx])
        have hpsh := hsh p (by simp)
        have hn1 : fsize r ≤ n := by rw [fsize_cons] at hn; have := pre_pos t; omega
        cases hv : uvar p with
        | true =>
          have hargs := (shape_var hpsh hv).1
          have hsym : p.sym = star := by
            have h0 : p.fn = ⟨#[]⟩ := ba_empty.1 (by simpa [uvar] using hv)
            unfold T.sym star
            rw [hargs, h0]
            rfl
          have e : fpath (p :: s) = star :: fpath s := by rw [path_cons, hsym, hargs]; rfl
          rw [e] at hP ⊢
          have key : q ++ [star] ++ fpath s ∈ ends P (q ++ [star]) r := ih (q ++ [star]) s r hn1 hssh hl' hs (fun z hz => by
            have := hP (star :: z) (by obtain ⟨y, hy⟩ := hz; exact ⟨y, by simp [← hy]⟩)
            simpa using this)
          have key' : q ++ star :: fpath s ∈ ends P (q ++ [star]) r := by simpa using key
          by_cases h1 : t.sym = star
          · rw [ends_star hq h1]; exact key'
          · rw [ends_fn hq h1]; exact List.mem_append_left _ key'
        | false =>
          obtain ⟨h1, h2, h3⟩ := (fit_fn hv).1 hpt
          have hsym : t.sym = p.sym := by unfold T.sym; rw [h1, h2]
          have hne : t.sym ≠ star := fun e => by
            have h4 : t.fn = ⟨#[]⟩ := congrArg (fun z : Sym => z.1) e
            rw [← h1] at h4
            have : uvar p = true := by unfold uvar; rw [h4]; rfl
            rw [hv] at this
            cases this
          have e : fpath (p :: s) = p.sym :: fpath (p.args ++ s) := path_cons p s
          rw [e] at hP ⊢
          have hzip : (p.args ++ s).zip (t.args ++ r) = p.args.zip t.args ++ s.zip r := List.zip_append h2
          have hn2 : fsize (t.args ++ r) ≤ n := by rw [fsize_open] at hn; omega
          have key : q ++ [t.sym] ++ fpath (p.args ++ s) ∈ ends P (q ++ [t.sym]) (t.args ++ r) := ih (q ++ [t.sym]) (p.args ++ s) (t.args ++ r) hn2
            (fun x hx => by
              rcases List.mem_append.1 hx with h | h
              · exact (shape_fn5 hpsh hv).2.2 x h
              · exact hssh x h) (by simp [h2, hl']) (fun z hz => by
              rw [hzip] at hz
              rcases List.mem_append.1 hz with h | h
              · exact h3 z h
              · exact hs z h) (fun z hz => by
              have := hP (p.sym :: z) (by obtain ⟨y, hy⟩ := hz; exact ⟨y, by simp [← hy]⟩)
              rw [hsym]
              simpa using this)
          have key' : q ++ p.sym :: fpath (p.args ++ s) ∈ ends P (q ++ [t.sym]) (t.args ++ r) := by rw [hsym] at key ⊢; simpa using key
          rw [ends_fn hq hne]
          exact List.mem_append_right _ key'

theorem ends_one {P : Path → Prop} {θ : Ta} {p t : T} (hs : p.shape = true) (h : Fit θ p t) (hP : ∀ s, s <+: p.path → P s) : p.path ∈ ends P [] [t] := by
  have e : fpath [p] = p.path := by unfold fpath; simp
  have := ends_fit (P := P) (θ := θ) (fsize [t]) [] [p] [t] (Nat.le_refl _) (by simpa using hs) rfl (by simpa using h) (by rw [e]; simpa using hP)
  rwa [e, List.nil_append] at this

/-- What Apply answers, whatever the binds. -/
noncomputable def aE (l : List Bd) (t : T) : Int := if isSub l = true then apE l t else 1
noncomputable def aT (l : List Bd) (t : T) : T := if isSub l = true then apT l t else zt

theorem apply_tot (l : List Bd) (hl : ∀ x ∈ l, x.2.size ≤ 1048576) (t : T) (hs : t.size ≤ 1048576) (v sl : Value) (w : World) (hb : BindsAt w v l) (ha : ArgsAt w sl t.args) :
    Calls Tryz.prog 22 #[v, tval t sl] w fun e W' => ∃ sl', e = .returned (.tuple #[tval (aT l t) sl', .int .i64 (aE l t)]) ∧ ArgsFr w.heap.size W' sl' (aT l t).args ∧ Below w.heap.size w W' := by
  by_cases h : isSub l = true
  · have e1 : aE l t = apE l t := if_pos h
    have e2 : aT l t = apT l t := if_pos h
    rw [e1, e2]
    exact apply_all l (sub_of h hl).1 t hs v sl w hb ha
  · have e1 : aE l t = 1 := if_neg h
    have e2 : aT l t = zt := if_neg h
    rw [e1, e2]
    refine (apply_arg l (fun x hx => (short_of x.2 (by have := hl x hx; omega)).1) t (short_of t (by omega)).1 (.inl (by simpa using h)) v sl w hb ha).mono ?_
    rintro e W' ⟨rfl, hb⟩
    exact ⟨_, rfl, ArgsFr.nil _ _, hb⟩

/-- The term that is asked: what the binds make of a kept one, or itself. -/
noncomputable def askT (l : List Bd) (p : T) : T := if aE l p = 0 then aT l p else p

theorem OkT.fits {t : T} (h : OkT t) : fitsW t = 0 := by
  unfold fitsW
  rw [if_neg (by have := h.depth; omega), if_neg (by have := h.size; omega)]
theorem ok_fits {t : T} (hs : t.shape = true) (h : fitsW t = 0) : OkT t := by
  unfold fitsW at h
  split at h
  · cases h
  · split at h
    · cases h
    · exact ⟨hs, by omega, by omega⟩

theorem ask_ok {l : List Bd} (hl : ∀ x ∈ l, x.2.size ≤ 1048576) {p : T} (hp : OkT p) : OkT (askT l p) ∧ ∃ θ, Fit θ p (askT l p) := by
  have self : OkT p ∧ ∃ θ, Fit θ p p := ⟨hp, fun x => some (var x), by have := fit_inst var p hp.shape; rwa [app_var p hp.shape] at this⟩
  unfold askT
  by_cases h : aE l p = 0
  · rw [if_pos h]
    by_cases hs : isSub l = true
    · have e1 : aE l p = apE l p := if_pos hs
      have e2 : aT l p = apT l p := if_pos hs
      rw [e1] at h
      rw [e2]
      obtain ⟨h1, h2⟩ := ap_zero h
      rw [h2]
      have h3 : fitsW (p.app (img l)) = 0 := by unfold apE at h; rwa [if_pos h1] at h
      exact ⟨ok_fits (app_shape _ (fun n g1 g2 => ((sub_of hs hl).2 n ⟨g1, g2⟩).shape) p hp.shape) h3, _, fit_inst (img l) p hp.shape⟩
    · have e1 : aE l p = 1 := if_neg hs
      rw [e1] at h
      cases h
  · rw [if_neg h]
    exact self

/-- Its binds make a pattern that matches the term. -/
theorem told_back {p t : T} {τ : Ta} {ks : List Int} (hp : OkT p) (ht : OkT t) (hm : mres p t = some τ) (hk : RiseT τ ks) : (∀ x ∈ listB τ ks, x.2.size ≤ 1048576) ∧ aE (listB τ ks) p = 0 ∧ aT (listB τ ks) p = t := by
  obtain ⟨h1, h2⟩ := match_sub hp ht hm hk
  have hs : isSub (listB τ ks) = true := isSub_iff.2 h1.sub
  have hf : fitsW (p.app (img (listB τ ks))) = 0 := by rw [h2]; exact ht.fits
  refine ⟨fun x hx => by have := (h1.rt x hx).size; omega, ?_, ?_⟩
  · show (if _ then _ else _) = _
    rw [if_pos hs]
    unfold apE
    rw [if_pos hp.right, hf]
  · show (if _ then _ else _) = _
    rw [if_pos hs]
    unfold apT
    rw [if_pos ⟨hp.right, hf⟩, h2]

end Go.Proofs.YtijihmncbaoklaaGreat

/-
  A tree, with terms or without; Insert and Generals on it.
-/
namespace Go.Proofs.YtijihmncbaoklaaGreat
open Go.RowKit Go.Maps

/-- What lies on the way to the end of a kept term. -/
def OnWay (es : List Kpt) (q : Path) : Prop := ∃ e ∈ es, q <+: e.2.1.path

def keyT (e : Kpt) : Int × T := (e.1, e.2.1)

/-- A tree: which terms it keeps, in which blocks. -/
def Tst (W : World) (x : Nat) (es : List Kpt) (K : List Nat) : Prop :=
  (es = [] ∧ Emp W x ∧ K = []) ∨ (es ≠ [] ∧ ∃ P y B M, Dsc W x es P y B M ∧ K = M :: B)

theorem Tst.keep {W W' : World} {x : Nat} {es : List Kpt} {K : List Nat} (h : Tst W x es K) (hb : Below W.heap.size W W') : Tst W' x es K := by
  rcases h with ⟨h1, h2, h3⟩ | ⟨h1, P, y, B, M, h2, h3⟩
  · exact .inl ⟨h1, (hb.block x (Array.getElem?_eq_some_iff.1 h2).1).trans h2, h3⟩
  · exact .inr ⟨h1, P, y, B, M, h2.keep hb, h3⟩

theorem Tst.lt {W : World} {x : Nat} {es : List Kpt} {K : List Nat} (h : Tst W x es K) : ∀ r ∈ x :: K, r < W.heap.size := by
  intro r hr
  rcases h with ⟨_, h2, rfl⟩ | ⟨_, P, y, B, M, h2, rfl⟩
  · rw [List.mem_singleton.1 hr]; exact (Array.getElem?_eq_some_iff.1 h2).1
  · rcases List.mem_cons.1 hr with rfl | hr
    · exact (Array.getElem?_eq_some_iff.1 h2.tre.box).1
    · rcases List.mem_cons.1 hr with rfl | hr
      · exact h2.mp.lt
      · exact h2.tre.blt r hr

theorem Tst.args {W : World} {x : Nat} {es : List Kpt} {K : List Nat} (h : Tst W x es K) : ∀ e ∈ es, ArgsP (fun b => b ∉ x :: K) W e.2.2 e.2.1.args := by
  rcases h with ⟨h1, _, _⟩ | ⟨_, P, y, B, M, h2, rfl⟩
  · rw [h1]; intro e he; cases he
  · exact h2.ags

theorem Tst.ids {W : World} {x : Nat} {es : List Kpt} {K : List Nat} (h : Tst W x es K) : (es.map (·.1)).Nodup := by
  rcases h with ⟨h1, _, _⟩ | ⟨_, P, y, B, M, h2, rfl⟩
  · rw [h1]; simp
  · exact h2.ids

theorem args_both {P Q : Nat → Prop} {W : World} {sl : Value} {l : List T} (h : ArgsP P W sl l) : ArgsP Q W sl l → ArgsP (fun b => P b ∧ Q b) W sl l := by
  induction h with
  | mk a c l s hc hm at0 sub ih =>
    intro h2
    generalize hv : Value.slice a l.length c = v at h2
    cases h2 with
    | mk a2 c2 _ s2 hc2 hm2 at2 sub2 =>
      simp only [Value.slice.injEq, true_and] at hv
      obtain ⟨rfl, rfl⟩ := hv
      refine .mk a c l s hc hm (fun h0 => ?_) (fun i hi => ih i hi ?_)
      · obtain ⟨b, o, hb, hlt, rfl, hcell⟩ := at0 h0
        obtain ⟨b', o', hb', hlt', he, _⟩ := at2 h0
        cases he
        exact ⟨b, o, ⟨hb, hb'⟩, hlt, rfl, hcell⟩
      · obtain ⟨b, o, hb, hlt, rfl, hcell⟩ := at0 (by omega)
        obtain ⟨b', o', hb', hlt', he, hcell'⟩ := at2 (by omega)
        cases he
        have e1 := (hcell i hi).2.2
        have e2 := (hcell' i hi).2.2
        rw [e1] at e2
        rw [Option.some.inj e2]
        exact sub2 i hi

/-- Another tree's blocks, and what it keeps, stay. -/
theorem Tst.other {W W' : World} {x : Nat} {es : List Kpt} {K L : List Nat} (h : Tst W x es K) (hO : Only L W W') (hd : ∀ r ∈ x :: K, r ∉ L) (ha : ∀ e ∈ es, ArgsP (fun b => b ∉ L) W e.2.2 e.2.1.args) : Tst W' x es K := by
  have hlt := h.lt
  have blk : ∀ r ∈ x :: K, W'.heap[r]? = W.heap[r]? := fun r hr => hO.block r (hlt r hr) (hd r hr)
  have hags := h.args
  rcases h with ⟨h1, h2, h3⟩ | ⟨h1, P, y, B, M, h2, rfl⟩
  · exact .inl ⟨h1, (blk x (by simp)).trans h2, h3⟩
  · refine .inr ⟨h1, P, y, B, M, { h2 with tre := ⟨h2.tre.tri.keep (fun r hr => blk r (by simp [hr])), fun r hr => Nat.lt_of_lt_of_le (h2.tre.blt r hr) hO.size, (blk x (by simp)).trans h2.tre.box, h2.tre.xB, h2.tre.zer⟩, mp := h2.mp.same (blk M (by simp)), ags := fun e he => ?_ }, rfl⟩
    have h3 := args_both (hags e he) (ha e he)
    exact h3.keep hO.size (fun k hk hl => ⟨hk.1, hO.block k hl hk.2⟩)

/-- What a call leaves of a tree. -/
structure OpP (x : Nat) (es : List Kpt) (K : List Nat) (W : World) (es' : List Kpt) (K' : List Nat) (W' : World) : Prop where
  st : Tst W' x es' K'
  only : Only (x :: K) W W'
  blk : ∀ r ∈ K', r ∈ K ∨ W.heap.size ≤ r
  ags : ∀ e ∈ es', e ∈ es ∨ ArgsP (fun k => W.heap.size ≤ k) W' e.2.2 e.2.1.args

theorem OpP.same {x : Nat} {es : List Kpt} {K : List Nat} {W W' : World} (h : Tst W x es K) (hb : Below W.heap.size W W') : OpP x es K W es K W' :=
  ⟨h.keep hb, Only.of_below hb, fun _ hr => .inl hr, fun _ he => .inl he⟩

/-- Insert of a term that is not right. -/
theorem insert_bad {x : Nat} (t : T) (sl : Value) (id : Int) (W : World) (ha : ArgsAt W sl t.args) (hr : t.rightW ≠ 0) (hsz : t.size ≤ 1048576) :
    Calls Tryz.prog 9 #[.pointer (some ⟨x, 0, none⟩), .int .i64 id, tval t sl] W fun e W' => e = .returned (.int .i64 1) ∧ Below W.heap.size W W' := by
  obtain ⟨a, c, rfl, _, _⟩ := ha.slice
  have hb := below_box W (tbox t (.slice a t.args.length c))
  obtain ⟨t0, t1, t2⟩ := tbox_cells W t (.slice a t.args.length c)
  have hrt := right_at t (.slice a t.args.length c) W (W.alloc (tbox t (.slice a t.args.length c))) hb ha hsz
  have hr' : (t.rightW != 0) = true := by rw [bne_iff_ne]; exact hr
  have HB := hid hb
  clear ha hb
  go_enter Tryz.func9, Tryz.ntmps9
  go_wp2_with fail
  refine hrt.mono ?_
  rintro e W2 ⟨rfl, hb2⟩
  clear hrt
  go_wp2
  go_ret
  exact ⟨rfl, HB.out.trans (hb2.mono HB.out.size)⟩

theorem args_lt {Q : Nat → Prop} {W : World} {sl : Value} {l : List T} (h : ArgsP Q W sl l) : ArgsP (fun k => k < W.heap.size) W sl l := by
  induction h with
  | mk a c l s hc hm at0 sub ih =>
    refine .mk a c l s hc hm (fun h0 => ?_) ih
    obtain ⟨b, o, hb, hlt, rfl, hcell⟩ := at0 h0
    exact ⟨b, o, hlt, hlt, rfl, hcell⟩

theorem len_emp {x : Nat} {W : World} (h : Emp W x) : Calls Tryz.prog 13 #[.pointer (some ⟨x, 0, none⟩)] W fun e W' => e = .returned (.int .i64 0) ∧ W' = W := by
  have c1 : W.cell? ⟨x, 1, none⟩ = some (.map none) := cell_store (vs := [_, _, _]) h rfl
  have hl : (Builtin.len_ #[61] 3 #[.map none]).run Tryz.prog W = .ok (.int .i64 0) W := by kernel_rfl
  clear h
  go_enter Tryz.func13, Tryz.ntmps13
  go_wp2
  go_ret
  exact ⟨rfl, rfl⟩

theorem tlen {W : World} {x : Nat} {es : List Kpt} {K : List Nat} (h : Tst W x es K) : Calls Tryz.prog 13 #[.pointer (some ⟨x, 0, none⟩)] W fun e W' => e = .returned (.int .i64 es.length) ∧ W' = W := by
  rcases h with ⟨rfl, h1, _⟩ | ⟨_, P, y, B, M, h1, _⟩
  · exact len_emp h1
  · exact len_dsc h1

/-- What Generals tells. -/
def TGenP (es : List Kpt) (t : T) (w : World) (e : Ending) (W : World) : Prop :=
  ∃ v hs, e = .returned v ∧ W.ownsRow w.heap.size 57 2 v hs.length (flH hs) ∧ SortedH hs ∧ Below w.heap.size w W ∧ (∀ h ∈ hs, ∃ e ∈ es, e.1 = h.1 ∧ ∃ τ ks, mres e.2.1 t = some τ ∧ RiseT τ ks ∧ BindsAt W h.val (listB τ ks)) ∧
    (∀ z, z ∈ hs.map (·.1) ↔ t.rightW = 0 ∧ ∃ e ∈ es, e.1 = z ∧ e.2.1.path ∈ ends (OnWay es) [] [t] ∧ mres e.2.1 t ≠ none) ∧ (hs.map (·.1)).Nodup

theorem tgen_none {es : List Kpt} {t : T} {w W : World} (hb : Below w.heap.size w W) (hno : t.rightW ≠ 0 ∨ es = []) : TGenP es t w (.returned (.slice none 0 0)) W := by
  refine ⟨_, [], rfl, World.ownsRow_nil _ _ _ _, fun i j hj => absurd hj (by simp), hb, by simp, fun z => ⟨fun h => by simp at h, fun ⟨h1, e, he, _⟩ => ?_⟩, by simp⟩
  rcases hno with h | h
  · exact absurd h1 h
  · rw [h] at he; cases he

theorem tgen {W : World} {x : Nat} {es : List Kpt} {K : List Nat} (h : Tst W x es K) (hl : es.length ≤ 200) (t : T) (sl : Value) (ha : ArgsAt W sl t.args) (hsz : t.size ≤ 1048576) :
    Calls Tryz.prog 17 #[.pointer (some ⟨x, 0, none⟩), tval t sl] W (TGenP es t W) := by
  by_cases hok : t.rightW = 0 ∧ es ≠ []
  · obtain ⟨hr, hne⟩ := hok
    rcases h with ⟨h0, _⟩ | ⟨_, P, y, B, M, h1, _⟩
    · exact absurd h0 hne
    · refine (generals_any h1 hne hl t sl ha hr hsz sort_ok).mono ?_
      rintro e W' ⟨v, hs, rfl, g1, g2, g3, g4, g5, g6⟩
      have hP : (fun q => q ∈ P) = OnWay es := by funext q; exact propext (h1.mem q)
      refine ⟨v, hs, rfl, g1, g2, g3, g4, fun z => ?_, g6⟩
      rw [g5 z]
      have e : ends (· ∈ P) [] [t] = ends (OnWay es) [] [t] := congrArg (fun F => ends F [] [t]) hP
      rw [e]
      exact ⟨fun h => ⟨hr, h⟩, fun h => h.2⟩
  · have hno : t.rightW ≠ 0 ∨ es = [] := by
      by_cases h1 : t.rightW = 0
      · exact .inr (Classical.not_not.1 fun h2 => hok ⟨h1, h2⟩)
      · exact .inl h1
    obtain ⟨a, c, rfl, _, _⟩ := ha.slice
    obtain ⟨W2, hW2⟩ : ∃ X, (W.alloc (.cells #[.pointer (some ⟨x, 0, none⟩)] 24)).alloc (tbox t (.slice a t.args.length c)) = X := ⟨_, rfl⟩
    have b2 : Below W.heap.size W W2 := by rw [← hW2]; exact below_box2 _ _ _
    have z2 : W2.heap[W.heap.size]? = some (.cells #[.pointer (some ⟨x, 0, none⟩)] 24 (0, 0)) := by
      rw [← hW2, Below.heap_alloc _ _ _ (by simp)]
      exact (MapKept.heap_alloc _ _).1
    have t2 : W2.heap[W.heap.size + 1]? = some (.cells #[.int .i64 t.v, .string t.fn, .slice a t.args.length c] 32 (0, 0)) := by
      have := (MapKept.heap_alloc (W.alloc (.cells #[.pointer (some ⟨x, 0, none⟩)] 24)) (tbox t (.slice a t.args.length c))).1
      rw [World.size_alloc] at this
      rw [← hW2]; exact this
    have hln := tlen (h.keep b2)
    have hrt := right_at t (.slice a t.args.length c) W W2 b2 ha hsz
    have x0 : W2.cell? ⟨W.heap.size, 0, none⟩ = some (.pointer (some ⟨x, 0, none⟩)) := cell_store (vs := [_]) z2 rfl
    obtain ⟨y0, y1, y2⟩ : W2.cell? ⟨W.heap.size + 1, 0, none⟩ = some (.int .i64 t.v) ∧ W2.cell? ⟨W.heap.size + 1, 1, none⟩ = some (.string t.fn) ∧ W2.cell? ⟨W.heap.size + 1, 2, none⟩ = some (.slice a t.args.length c) := ⟨cell_store (vs := [_, _, _]) t2 rfl, cell_store (vs := [_, _, _]) t2 rfl, cell_store (vs := [_, _, _]) t2 rfl⟩
    have HB := hid b2
    have HN : Hid (t.rightW ≠ 0 ∨ es = []) := hno
    clear h ha b2 z2 t2 hok
    by_cases h0 : es = []
    · subst h0
      clear hno hrt
      go_enter Tryz.func17, Tryz.ntmps17
      go_upto_region 1 with fail
      try rw [hW2]
      go_wp2_with fail
      refine hln.mono ?_
      rintro e w' ⟨rfl, hw'⟩
      rw [hw']
      clear hw' hln
      go_wp2
      go_ret
      exact tgen_none HB.out (.inr rfl)
    · have hr' : (t.rightW != 0) = true := by
        rcases hno with h | h
        · rw [bne_iff_ne]; exact h
        · exact absurd h h0
      have hl0 : ((es.length : Int) == 0) = false := by
        rw [beq_eq_false_iff_ne]
        intro e
        exact h0 (List.length_eq_zero_iff.1 (by omega))
      clear hno h0
      go_enter Tryz.func17, Tryz.ntmps17
      go_upto_region 1 with fail
      try rw [hW2]
      go_wp2_with fail
      refine hln.mono ?_
      rintro e w' ⟨rfl, hw'⟩
      rw [hw']
      clear hw' hln
      go_wp2_with fail
      refine hrt.mono ?_
      rintro e W3 ⟨rfl, hb3⟩
      clear hrt
      go_wp2
      go_ret
      exact tgen_none (HB.out.trans (hb3.mono HB.out.size)) HN.out

theorem wrap_id {z : Int} (h0 : 0 ≤ z) (h1 : z ≤ 1000000) : IntKind.i64.wrap z = z := by
  obtain ⟨n, rfl⟩ := Int.eq_ofNat_of_zero_le h0
  cases n with
  | zero => rfl
  | succ k => have := wrap_succ (n := k) (n1 := k + 1) rfl (by omega); push_cast at this ⊢; exact this

theorem row_below {W W' : World} {u : Nat} {e : TypeId} {k : Nat} {v : Value} {n : Nat} {xs : List Value} (h : W.ownsRow u e k v n xs) (hb : Below W.heap.size W W') : W'.ownsRow u e k v n xs := row6_keep h (fun g hg => hb.block g (h.lt g hg).2)

theorem rowH_nth {W : World} {u n c : Nat} {a : Option Addr} {h : List HE} (hr : W.ownsRow u 57 2 (.slice a n c) n (flH h)) (hl : h.length = n) {i : Nat} (hi : i < h.length) : ∃ g, a = some ⟨g, 0, none⟩ ∧ n ≤ c ∧ c ≤ maxLen ∧ W.cell? ⟨g, i * 2, none⟩ = some (.int .i64 (h[i]).1) ∧ W.cell? ⟨g, i * 2 + 1, none⟩ = some (h[i]).val := by
  obtain ⟨f0, f1⟩ := flH_get h i hi
  rcases hr.2 with ⟨_, h0⟩ | ⟨g, cap, cur, e, hg1, hg2, hg3, hg4, _, _⟩
  · omega
  · cases e
    have cl : ∀ k v, (flH h)[k]? = some v → W.cell? ⟨g, k, none⟩ = some v := fun k v hk => by
      have := hr.cells rfl k v hk
      rwa [Addr.add_mid, Nat.zero_add] at this
    exact ⟨g, rfl, hg3, hg4, cl _ _ f0, cl _ _ f1⟩

/-- Insert, whatever the term. -/
theorem tinsE {W : World} {x : Nat} {es : List Kpt} {K : List Nat} (h : Tst W x es K) (hl : es.length ≤ 200) (t : T) (sl : Value) (id : Int) (ha : ArgsAt W sl t.args) (hsz : t.size ≤ 1048576) (hfit : Fit64 id) (hno : ∀ e ∈ es, e.1 ≠ id) :
    Calls Tryz.prog 9 #[.pointer (some ⟨x, 0, none⟩), .int .i64 id, tval t sl] W fun e W' => e = .returned (.int .i64 (if t.rightW = 0 then 0 else 1)) ∧ ∃ es' K', OpP x es K W es' K' W' ∧ es'.map keyT = es.map keyT ++ (if t.rightW = 0 then [(id, t)] else []) := by
  by_cases hr : t.rightW = 0
  · simp only [if_pos hr]
    have fin : ∀ W', InsP x es K id t W W' → ∃ es' K', OpP x es K W es' K' W' ∧ es'.map keyT = es.map keyT ++ [(id, t)] := by
      rintro W' ⟨s, P, y, B, M, h1, h2, h3, h4⟩
      refine ⟨_, M :: B, ⟨.inr ⟨by simp, P, y, B, M, h1, rfl⟩, h2, h3, fun e he => ?_⟩, by simp [keyT]⟩
      rcases List.mem_append.1 he with he | he
      · exact .inl he
      · rw [List.mem_singleton.1 he]; exact .inr h4
    rcases h with ⟨rfl, h1, rfl⟩ | ⟨_, P, y, B, M, h1, rfl⟩
    · refine (insert_emp h1 t sl id ha hr hsz hfit).mono ?_
      rintro e W' ⟨rfl, h2⟩
      exact ⟨rfl, fin W' h2⟩
    · refine (insert_dsc h1 hl t sl id ha hr hsz hfit hno).mono ?_
      rintro e W' ⟨rfl, h2⟩
      exact ⟨rfl, fin W' h2⟩
  · simp only [if_neg hr, List.append_nil]
    refine (insert_bad t sl id W ha hr hsz).mono ?_
    rintro e W' ⟨hv, hb⟩
    exact ⟨hv, es, K, OpP.same h hb, rfl⟩

end Go.Proofs.YtijihmncbaoklaaGreat

/-
  A tree and a row of the terms that it keeps, in one memory.
-/
namespace Go.Proofs.YtijihmncbaoklaaGreat
open Go.RowKit Go.Maps

/-- A row of terms, as cells. -/
def flT (q : List (T × Value)) : List Value := q.flatMap fun p => [.int .i64 p.1.v, .string p.1.fn, p.2]
theorem flT_snoc (q : List (T × Value)) (p : T × Value) : flT (q ++ [p]) = flT q ++ [.int .i64 p.1.v, .string p.1.fn, p.2] := by simp [flT]
theorem flT_get : ∀ (q : List (T × Value)) (i : Nat) (h : i < q.length), (flT q)[i * 3]? = some (.int .i64 q[i].1.v) ∧ (flT q)[i * 3 + 1]? = some (.string q[i].1.fn) ∧ (flT q)[i * 3 + 2]? = some q[i].2
  | p :: r, 0, _ => by simp [flT]
  | p :: r, i + 1, h => by
    have := flT_get r i (by simpa using h)
    have e : flT (p :: r) = [.int .i64 p.1.v, .string p.1.fn, p.2] ++ flT r := by simp [flT]
    have l3 : ([.int .i64 p.1.v, .string p.1.fn, p.2] : List Value).length = 3 := rfl
    rw [e]
    refine ⟨?_, ?_, ?_⟩
    · rw [List.getElem?_append_right (by rw [l3]; omega), l3, show (i + 1) * 3 - 3 = i * 3 by omega]; simpa using this.1
    · rw [List.getElem?_append_right (by rw [l3]; omega), l3, show (i + 1) * 3 + 1 - 3 = i * 3 + 1 by omega]; simpa using this.2.1
    · rw [List.getElem?_append_right (by rw [l3]; omega), l3, show (i + 1) * 3 + 2 - 3 = i * 3 + 2 by omega]; simpa using this.2.2

/-- Terms numbered as they stand. -/
def numd (q : List T) : List (Int × T) := q.zipIdx.map fun p => ((p.2 : Int), p.1)
theorem numd_nil : numd [] = [] := rfl
theorem numd_snoc (q : List T) (t : T) : numd (q ++ [t]) = numd q ++ [((q.length : Int), t)] := by
  unfold numd
  rw [List.zipIdx_append]
  simp
theorem numd_mem {q : List T} {e : Int × T} : e ∈ numd q ↔ ∃ i, ∃ h : i < q.length, e = ((i : Int), q[i]) := by
  unfold numd
  rw [List.mem_map]
  constructor
  · rintro ⟨⟨t, i⟩, h, rfl⟩
    have := List.mem_zipIdx h
    obtain ⟨h1, h2, h3⟩ := this
    exact ⟨i, by omega, by simpa using h3⟩
  · rintro ⟨i, h, rfl⟩
    refine ⟨(q[i], i), ?_, rfl⟩
    rw [List.mem_zipIdx_iff_getElem?]
    simp [h]
theorem numd_len (q : List T) : (numd q).length = q.length := by simp [numd]

/-- The tree x and the row v, in blocks from n0 on, apart; the terms are those of the row, which came in. -/
structure One (w : World) (n0 x : Nat) (es : List Kpt) (K : List Nat) (q : List (T × Value)) (v : Value) (W : World) : Prop where
  st : Tst W x es K
  low : ∀ r ∈ x :: K, n0 ≤ r
  row : W.ownsRow n0 32 3 v q.length (flT q)
  mine : ∀ g, v.ownBlock = some g → g ∉ x :: K ∧ ∀ e ∈ es, ArgsP (fun k => k ≠ g) W e.2.2 e.2.1.args
  key : es.map keyT = numd (q.map (·.1))
  arg : ∀ p ∈ q, ArgsAt w p.2 p.1.args
  okt : ∀ p ∈ q, OkT p.1
  bel : Below n0 w W
  n0l : n0 ≤ W.heap.size
  wl : w.heap.size ≤ n0

section
variable {w : World} {n0 x : Nat} {es : List Kpt} {K : List Nat} {q : List (T × Value)} {v : Value} {W W' : World}

theorem One.keep (h : One w n0 x es K q v W) (hb : Below W.heap.size W W') : One w n0 x es K q v W' :=
  { h with
    st := h.st.keep hb
    row := row6_keep h.row (fun g hg => hb.block g (h.row.lt g hg).2)
    mine := fun g hg => ⟨(h.mine g hg).1, fun e he => ((h.mine g hg).2 e he).keep hb.size (fun k hk hl => ⟨hk, hb.block k hl⟩)⟩
    bel := h.bel.trans (hb.mono h.n0l)
    n0l := Nat.le_trans h.n0l hb.size }

theorem One.args (h : One w n0 x es K q v W) (p : T × Value) (hp : p ∈ q) : ArgsAt W p.2 p.1.args := ArgsAt.keep (h.bel.mono h.wl) (Nat.le_refl _) (h.arg p hp)

theorem One.len (h : One w n0 x es K q v W) : es.length = q.length := by
  have := congrArg List.length h.key
  rw [numd_len] at this
  simpa using this

theorem One.start (hE : Emp W x) (hx : n0 ≤ x) (hb : Below n0 w W) (hw : w.heap.size ≤ n0) : One w n0 x [] [] [] (.slice none 0 0) W where
  st := .inl ⟨rfl, hE, rfl⟩
  low := by simpa using hx
  row := World.ownsRow_nil _ _ _ _
  mine := by simp [Value.ownBlock]
  key := rfl
  arg := by simp
  okt := by simp
  bel := hb
  n0l := by have := (Array.getElem?_eq_some_iff.1 hE).1; omega
  wl := hw

/-- Behind Insert: the row is as it was. -/
structure Mid (w : World) (n0 x : Nat) (es es' : List Kpt) (K' : List Nat) (q : List (T × Value)) (t : T) (v : Value) (W : World) : Prop where
  st : Tst W x es' K'
  low : ∀ r ∈ x :: K', n0 ≤ r
  row : W.ownsRow n0 32 3 v q.length (flT q)
  mine : ∀ g, v.ownBlock = some g → g ∉ x :: K' ∧ ∀ e ∈ es', ArgsP (fun k => k ≠ g) W e.2.2 e.2.1.args
  key : es'.map keyT = numd (q.map (·.1) ++ [t])
  arg : ∀ p ∈ q, ArgsAt w p.2 p.1.args
  okt : ∀ p ∈ q, OkT p.1
  bel : Below n0 w W
  n0l : n0 ≤ W.heap.size
  wl : w.heap.size ≤ n0

theorem mine_op (h : One w n0 x es K q v W) {es' : List Kpt} {K' : List Nat} (ho : OpP x es K W es' K' W') : ∀ g, v.ownBlock = some g → g ∉ x :: K' ∧ ∀ e ∈ es', ArgsP (fun k => k ≠ g) W' e.2.2 e.2.1.args := fun g hg => by
  have hgl := (h.row.lt g hg).2
  obtain ⟨m1, m2⟩ := h.mine g hg
  refine ⟨fun hm => ?_, fun e he => ?_⟩
  · rcases List.mem_cons.1 hm with rfl | hm
    · exact m1 (by simp)
    · rcases ho.blk g hm with h1 | h1
      · exact m1 (List.mem_cons_of_mem _ h1)
      · omega
  · rcases ho.ags e he with h1 | h1
    · exact (args_both (m2 e h1) (h.st.args e h1)).keep ho.only.size (fun k hk hl => ⟨hk.1, ho.only.block k hl hk.2⟩)
    · exact h1.keep (Nat.le_refl _) (fun k hk _ => ⟨by omega, rfl⟩)

theorem One.ins (h : One w n0 x es K q v W) {es' : List Kpt} {K' : List Nat} (ho : OpP x es K W es' K' W') {t : T} (hk : es'.map keyT = es.map keyT ++ [((q.length : Int), t)]) : Mid w n0 x es es' K' q t v W' where
  st := ho.st
  low := fun r hr => by
    rcases List.mem_cons.1 hr with rfl | hr
    · exact h.low _ (by simp)
    · rcases ho.blk r hr with h1 | h1
      · exact h.low r (List.mem_cons_of_mem _ h1)
      · have := h.n0l; omega
  row := row6_keep h.row (fun g hg => ho.only.block g (h.row.lt g hg).2 (h.mine g hg).1)
  mine := mine_op h ho
  key := by rw [hk, h.key, numd_snoc, List.length_map]
  arg := h.arg
  okt := h.okt
  bel := only_below h.bel h.n0l ho.only h.low
  n0l := Nat.le_trans h.n0l ho.only.size
  wl := h.wl

theorem One.ins_no (h : One w n0 x es K q v W) {es' : List Kpt} {K' : List Nat} (ho : OpP x es K W es' K' W') (hk : es'.map keyT = es.map keyT) : One w n0 x es' K' q v W' where
  st := ho.st
  low := fun r hr => by
    rcases List.mem_cons.1 hr with rfl | hr
    · exact h.low _ (by simp)
    · rcases ho.blk r hr with h1 | h1
      · exact h.low r (List.mem_cons_of_mem _ h1)
      · have := h.n0l; omega
  row := row6_keep h.row (fun g hg => ho.only.block g (h.row.lt g hg).2 (h.mine g hg).1)
  mine := mine_op h ho
  key := by rw [hk, h.key]
  arg := h.arg
  okt := h.okt
  bel := only_below h.bel h.n0l ho.only h.low
  n0l := Nat.le_trans h.n0l ho.only.size
  wl := h.wl

theorem Mid.keep {es' : List Kpt} {K' : List Nat} {t : T} (h : Mid w n0 x es es' K' q t v W) (hb : Below W.heap.size W W') : Mid w n0 x es es' K' q t v W' :=
  { h with
    st := h.st.keep hb
    row := row6_keep h.row (fun g hg => hb.block g (h.row.lt g hg).2)
    mine := fun g hg => ⟨(h.mine g hg).1, fun e he => ((h.mine g hg).2 e he).keep hb.size (fun k hk hl => ⟨hk, hb.block k hl⟩)⟩
    bel := h.bel.trans (hb.mono h.n0l)
    n0l := Nat.le_trans h.n0l hb.size }

/-- Behind append. -/
theorem Mid.push {es' : List Kpt} {K' : List Nat} {t : T} {s v' : Value} (h : Mid w n0 x es es' K' q t v W) (hr : W'.ownsRow n0 32 3 v' (q.length + 1) (flT q ++ [.int .i64 t.v, .string t.fn, s])) (hg : W.grownBy W' v.ownBlock) (hv : v'.ownBlock = v.ownBlock ∨ v'.ownBlock = some W.heap.size) (ha : ArgsAt w s t.args) (ht : OkT t) : One w n0 x es' K' (q ++ [(t, s)]) v' W' := by
  have hgs := hg.size
  have hO : Only (match v.ownBlock with | some g => [g] | none => []) W W' := Only.of_grown hg (fun r e => by rw [e]; simp)
  have hst : Tst W' x es' K' := h.st.other hO (fun r hr' hm => by
      cases e : v.ownBlock with
      | none => rw [e] at hm; cases hm
      | some g => rw [e] at hm; rw [List.mem_singleton.1 hm] at hr'; exact (h.mine g e).1 hr') (fun e he => by
      cases e' : v.ownBlock with
      | none => exact ((h.st.args e he).keep (Nat.le_refl _) (fun k _ _ => ⟨by simp, rfl⟩))
      | some g => exact (((h.mine g e').2 e he).keep (Nat.le_refl _) (fun k hk _ => ⟨by simpa using hk, rfl⟩)))
  refine ⟨hst, h.low, by rw [flT_snoc, List.length_append]; exact hr, fun g hg' => ?_, by rw [h.key]; simp, fun p hp => ?_, fun p hp => ?_, ?_, Nat.le_trans h.n0l hgs, h.wl⟩
  · rcases hv with e | e
    · rw [e] at hg'
      obtain ⟨m1, m2⟩ := h.mine g hg'
      refine ⟨m1, fun y hy => (m2 y hy).keep hgs (fun k hk hl => ⟨hk, hg.block k hl (fun e' => hk (by rw [hg'] at e'; cases e'; rfl))⟩)⟩
    · rw [e] at hg'
      cases hg'
      refine ⟨fun hm => ?_, fun y hy => ?_⟩
      · have := h.st.lt _ hm; omega
      · cases e' : v.ownBlock with
        | none => exact (args_lt (h.st.args y hy)).keep hgs (fun k hk hl => ⟨by omega, hg.block k hl (by rw [e']; simp)⟩)
        | some g => exact (args_both ((h.mine g e').2 y hy) (args_lt (h.st.args y hy))).keep hgs (fun k hk hl => ⟨by have := hk.2; omega, hg.block k hl (by rw [e']; intro e2; cases e2; exact hk.1 rfl)⟩)
  · rcases List.mem_append.1 hp with hp | hp
    · exact h.arg p hp
    · rw [List.mem_singleton.1 hp]; exact ha
  · rcases List.mem_append.1 hp with hp | hp
    · exact h.okt p hp
    · rw [List.mem_singleton.1 hp]; exact ht
  · refine h.bel.trans ⟨hg.os, hg.tape, hg.output, hgs, fun k hk => ?_⟩
    refine hg.block k (by have := h.n0l; omega) (fun e => ?_)
    have := (h.row.lt k e.symm).1
    omega

end

end Go.Proofs.YtijihmncbaoklaaGreat

/-
  What the law's loops know.
-/
namespace Go.Proofs.YtijihmncbaoklaaGreat
open Go.RowKit Go.Maps

theorem wrap_small {n : Int} (h0 : 0 ≤ n) (h : n ≤ 4194304) : wrap64 n = n := by unfold wrap64; omega
theorem lit3 (w : World) (a b c : Value) (ty : TypeId) : ∀ j u, [a, b, c][j]? = some u → (w.alloc (.cells #[a, b, c] ty)).cell? ((⟨w.heap.size, 0, none⟩ : Addr).add j) = some u := by
  intro j u hj
  have ea : (⟨w.heap.size, 0, none⟩ : Addr).add j = ⟨w.heap.size, j, none⟩ := by unfold Addr.add; split <;> simp_all
  rw [ea, World.cell?_alloc_new]
  simpa using hj

section
variable {w : World} {n0 x : Nat} {es : List Kpt} {K : List Nat} {q : List (T × Value)} {v : Value} {W W' : World}

/-- A kept term in its row. -/
theorem One.nth {a : Option Addr} {c n : Nat} (h : One w n0 x es K q (.slice a n c) W) {i : Nat} (hi : i < q.length) : ∃ g, a = some ⟨g, 0, none⟩ ∧ n = q.length ∧ n ≤ c ∧ c ≤ maxLen ∧ W.cell? ⟨g, i * 3, none⟩ = some (.int .i64 q[i].1.v) ∧ W.cell? ⟨g, i * 3 + 1, none⟩ = some (.string q[i].1.fn) ∧ W.cell? ⟨g, i * 3 + 2, none⟩ = some q[i].2 ∧ ArgsAt W q[i].2 q[i].1.args := by
  obtain ⟨f0, f1, f2⟩ := flT_get q i hi
  have hr := h.row
  have ha := h.args q[i] (List.getElem_mem hi)
  rcases hr.2 with ⟨_, h0⟩ | ⟨g, cap, cur, e, hg1, hg2, hg3, hg4, _, _⟩
  · omega
  · cases e
    have cl : ∀ k v, (flT q)[k]? = some v → W.cell? ⟨g, k, none⟩ = some v := fun k v hk => by
      have := hr.cells rfl k v hk
      rwa [Addr.add_mid, Nat.zero_add] at this
    exact ⟨g, rfl, rfl, hg3, hg4, cl _ _ f0, cl _ _ f1, cl _ _ f2, ha⟩

theorem One.form (h : One w n0 x es K q v W) : ∃ a c, v = .slice a q.length c := by
  obtain ⟨a, c, e⟩ := rowB_form h.row
  exact ⟨a, c, e⟩

theorem One.of (h : One w n0 x es K q v W) {e : Kpt} (he : e ∈ es) : ∃ j, ∃ hj : j < q.length, e.1 = (j : Int) ∧ e.2.1 = q[j].1 := by
  have h1 : keyT e ∈ numd (q.map (·.1)) := by rw [← h.key]; exact List.mem_map.2 ⟨e, he, rfl⟩
  obtain ⟨j, hj, h2⟩ := numd_mem.1 h1
  have hj' : j < q.length := by simpa using hj
  refine ⟨j, hj', congrArg (fun k : Int × T => k.1) h2, ?_⟩
  have h3 : e.2.1 = (q.map (·.1))[j] := congrArg (fun k : Int × T => k.2) h2
  rw [h3, List.getElem_map]

theorem One.has (h : One w n0 x es K q v W) {j : Nat} (hj : j < q.length) : ∃ e ∈ es, e.1 = (j : Int) ∧ e.2.1 = q[j].1 := by
  have h1 : ((j : Int), q[j].1) ∈ es.map keyT := by
    rw [h.key]
    exact numd_mem.2 ⟨j, by simpa using hj, by simp⟩
  obtain ⟨e, he, h2⟩ := List.mem_map.1 h1
  exact ⟨e, he, congrArg (fun k : Int × T => k.1) h2, congrArg (fun k : Int × T => k.2) h2⟩

/-- What Generals told of the term t: each hit's binds make its pattern t; the pattern at i is among them. -/
structure Hits (q : List (T × Value)) (t : T) (i : Nat) (v : Value) (hs : List HE) (W : World) : Prop where
  row : ∃ u, W.ownsRow u 57 2 v hs.length (flH hs)
  hit : ∀ h ∈ hs, ∃ j, ∃ hj : j < q.length, h.1 = (j : Int) ∧ ∃ bs, BindsAt W h.val bs ∧ (∀ y ∈ bs, y.2.size ≤ 1048576) ∧ aE bs q[j].1 = 0 ∧ aT bs q[j].1 = t
  own : (i : Int) ∈ hs.map (·.1)
  len : hs.length ≤ 30

theorem Hits.keep {t : T} {i : Nat} {hs : List HE} (h : Hits q t i v hs W) (hb : Below W.heap.size W W') : Hits q t i v hs W' := by
  obtain ⟨u, hr⟩ := h.row
  refine ⟨⟨u, row_below hr hb⟩, fun y hy => ?_, h.own, h.len⟩
  obtain ⟨j, hj, h1, bs, h2, h3⟩ := h.hit y hy
  exact ⟨j, hj, h1, bs, h2.keep hb, h3⟩

theorem One.hits (h : One w n0 x es K q v W) (hq : q.length ≤ 30) {i : Nat} (hi : i < q.length) {t : T} (ht : OkT t) (hf : ∃ θ, Fit θ q[i].1 t) {e : Ending} (hg : TGenP es t W e W') : ∃ v' hs, e = .returned v' ∧ Hits q t i v' hs W' ∧ Below W.heap.size W W' := by
  obtain ⟨v', hs, he, g1, g2, g3, g4, g5, g6⟩ := hg
  obtain ⟨θ, hθ⟩ := hf
  refine ⟨v', hs, he, ⟨⟨_, g1⟩, fun y hy => ?_, ?_, ?_⟩, g3⟩
  · obtain ⟨e1, h1, h2, τ, ks, h3, h4, h5⟩ := g4 y hy
    obtain ⟨j, hj, k1, k2⟩ := h.of h1
    rw [k2] at h3
    obtain ⟨r1, r2, r3⟩ := told_back (h.okt q[j] (List.getElem_mem hj)) ht h3 h4
    exact ⟨j, hj, by rw [← h2, k1], _, h5, r1, r2, r3⟩
  · obtain ⟨e1, h1, h2, h3⟩ := h.has hi
    refine (g5 _).2 ⟨ht.right, e1, h1, h2, ?_, ?_⟩
    · rw [h3]
      refine ends_one (h.okt q[i] (List.getElem_mem hi)).shape hθ (fun s hs => ⟨e1, h1, by rw [h3]; exact hs⟩)
    · rw [h3]; exact mres_fit hθ
  · have := nodup_len (hs.map (·.1)) (es.map (·.1)) g6 (fun z hz => by obtain ⟨_, e, he, h4, _⟩ := (g5 z).1 hz; exact List.mem_map.2 ⟨e, he, h4⟩)
    simp only [List.length_map, h.len] at this
    omega

/-- A hit in its row. -/
theorem Hits.nth {t : T} {i : Nat} {hs : List HE} {a : Option Addr} {c n : Nat} (h : Hits q t i (.slice a n c) hs W) {k : Nat} (hk : k < hs.length) : ∃ g j, ∃ hj : j < q.length, ∃ xa xm xc bs, a = some ⟨g, 0, none⟩ ∧ n = hs.length ∧ n ≤ c ∧ c ≤ maxLen ∧ W.cell? ⟨g, k * 2, none⟩ = some (.int .i64 (j : Int)) ∧ W.cell? ⟨g, k * 2 + 1, none⟩ = some (.slice xa xm xc) ∧ (hs[k]).1 = (j : Int) ∧ BindsAt W (.slice xa xm xc) bs ∧ (∀ y ∈ bs, y.2.size ≤ 1048576) ∧ aE bs q[j].1 = 0 ∧ aT bs q[j].1 = t := by
  obtain ⟨u, hr⟩ := h.row
  have hn : n = hs.length := by
    obtain ⟨_, _, e⟩ := rowB_form hr
    cases e; rfl
  subst hn
  obtain ⟨g, e1, p1, q1, d0, d1⟩ := rowH_nth hr rfl hk
  obtain ⟨j, hj, h1, bs, h2, h3, h4, h5⟩ := h.hit hs[k] (List.getElem_mem hk)
  rw [h1] at d0
  exact ⟨g, j, hj, _, _, _, bs, e1, rfl, p1, q1, d0, d1, h1, h2, h3, h4, h5⟩

theorem Hits.form {t : T} {i : Nat} {hs : List HE} (h : Hits q t i v hs W) : ∃ a c, v = .slice a hs.length c := by
  obtain ⟨u, hr⟩ := h.row
  obtain ⟨a, c, e⟩ := rowB_form hr
  exact ⟨a, c, e⟩

/-- Whether a number is among the first hits. -/
def among (hs : List HE) (k i : Nat) : Bool := ((hs.take k).map (·.1)).contains (i : Int)
theorem among_zero (hs : List HE) (i : Nat) : among hs 0 i = false := by simp [among]
theorem among_succ {hs : List HE} {k i : Nat} (hk : k < hs.length) : among hs (k + 1) i = (among hs k i || ((hs[k]).1 == (i : Int))) := by
  unfold among
  rw [List.take_add_one, List.getElem?_eq_getElem hk]
  simp only [Option.toList_some, List.map_append, List.map_cons, List.map_nil, List.contains_append, List.contains_cons, List.contains_nil, Bool.or_false]
  rw [Bool.beq_comm]
theorem among_all {hs : List HE} {i : Nat} (h : (i : Int) ∈ hs.map (·.1)) : among hs hs.length i = true := by
  unfold among
  rw [List.take_length, List.contains_iff_mem]
  exact h

end

end Go.Proofs.YtijihmncbaoklaaGreat
