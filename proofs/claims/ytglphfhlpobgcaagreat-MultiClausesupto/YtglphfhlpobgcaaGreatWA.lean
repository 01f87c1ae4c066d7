import Derived.Test.YtglphfhlpobgcaaGreatKA
import Derived.Test.YtglphfhlpobgcaaGreatLV
import Derived.Test.YtglphfhlpobgcaaGreatRB
namespace Go.Proofs.YtglphfhlpobgcaaGreat
open Go.RowKit Go.Maps
theorem wrap_small {a : Int} (h : -9223372036854775808 <= a) (h' : a <= 9223372036854775807) : wrap64 a = a := by
 simp only [wrap64]; omega
theorem size_pos (t : T) : 1 <= t.size := by
 induction t using T.ind with
 | _ t ih =>
  rw [t.size_eq]
  have : 0 <= (t.args.map T.size).sum := sum_nonneg (fun x hx => by
   obtain ⟨a, ha, rfl⟩ := List.mem_map.1 hx
   have := ih a ha
   omega)
  omega
theorem ArgsP.nth {P : Nat -> Prop} {W : World} {a : Option Addr} {c n : Nat} {l : List T} (h : ArgsP P W (.slice a n c) l) {i : Nat} (hi : i < l.length) :
  ∃ b o s, a = some ⟨b, o, none⟩ ∧ P b ∧ b < W.heap.size ∧ W.cell? ⟨b, o + i * 3, none⟩ = some (.int .i64 l[i].v) ∧ W.cell? ⟨b, o + i * 3 + 1, none⟩ = some (.string l[i].fn) ∧ W.cell? ⟨b, o + i * 3 + 2, none⟩ = some s ∧ ArgsP P W s l[i].args := by
 cases h with
 | mk a c _ s hc hm at0 sub =>
  obtain ⟨b, o, hP, hlt, rfl, hcell⟩ := at0 (by omega)
  obtain ⟨h1, h2, h3⟩ := hcell i hi
  exact ⟨b, o, s i, rfl, hP, hlt, h1, h2, h3, sub i hi⟩
theorem ArgsP.len {P : Nat -> Prop} {W : World} {sl : Value} {l : List T} (h : ArgsP P W sl l) : l.length <= 9223372036854775807 := by
 cases h with
 | mk a c _ s hc hm at0 sub => omega
theorem right_facts {t : T} (h : t.rightW = 0) (hz : t.size <= 1048576) : t.shape = true ∧ t.size <= 4000 := by
 have hp := size_pos t
 unfold T.rightW at h
 split at h
 ·omega
 ·rename_i h1
  split at h
  ·omega
  ·split at h
   ·omega
   ·rename_i h3
    rw [wrap_small (by omega) (by omega)] at h3
    exact ⟨by simpa using h1, by omega⟩
structure Tri (w : World) (vn vw : Value) (x : T) (sx : Value) (y : T) (sy : Value) (X : World) : Prop where
 g0 : X.cell? ⟨w.heap.size, 0, none⟩ = some vn
 g1 : X.cell? ⟨w.heap.size, 1, none⟩ = some vw
 a0 : X.cell? ⟨w.heap.size + 1, 0, none⟩ = some (.int .i64 x.v)
 a1 : X.cell? ⟨w.heap.size + 1, 1, none⟩ = some (.string x.fn)
 a2 : X.cell? ⟨w.heap.size + 1, 2, none⟩ = some sx
 b0 : X.cell? ⟨w.heap.size + 1 + 1, 0, none⟩ = some (.int .i64 y.v)
 b1 : X.cell? ⟨w.heap.size + 1 + 1, 1, none⟩ = some (.string y.fn)
 b2 : X.cell? ⟨w.heap.size + 1 + 1, 2, none⟩ = some sy
 bel : Below w.heap.size w X
 siz : w.heap.size + 3 <= X.heap.size
theorem Tri.keep {w : World} {vn vw : Value} {x : T} {sx : Value} {y : T} {sy : Value} {X X' : World} (h : Tri w vn vw x sx y sy X) (hb : Below X.heap.size X X') : Tri w vn vw x sx y sy X' := by
 have hs := h.siz
 exact ⟨kc hb (by omega) h.g0, kc hb (by omega) h.g1, kc hb (by omega) h.a0, kc hb (by omega) h.a1, kc hb (by omega) h.a2, kc hb (by omega) h.b0, kc hb (by omega) h.b1, kc hb (by omega) h.b2, h.bel.trans (hb.mono h.bel.size), Nat.le_trans hs hb.size⟩
theorem tri_made (w : World) (vn vw : Value) (ty : TypeId) (x : T) (sx : Value) (y : T) (sy : Value) : Tri w vn vw x sx y sy (((w.alloc (.cells #[vn, vw] ty)).alloc (tbox x sx)).alloc (tbox y sy)) := by
 obtain ⟨c0, c1⟩ := box2_cells w vn vw ty
 have hb := below_box w (.cells #[vn, vw] ty)
 obtain ⟨⟨t0, t1, t2⟩, u0, u1, u2⟩ := tbox2_cells (w.alloc (.cells #[vn, vw] ty)) x sx y sy
 have hb2 := below_box2 (w.alloc (.cells #[vn, vw] ty)) (tbox x sx) (tbox y sy)
 rw [World.size_alloc] at t0 t1 t2 u0 u1 u2
 exact ⟨kc hb2 (by simp) c0, kc hb2 (by simp) c1, t0, t1, t2, u0, u1, u2, hb.trans (hb2.mono (by simp)), by simp⟩
inductive lg (g : Sg) : T -> T -> Prop
 | arg {a b : T} (h0 : a.fn.size ≠ 0) (h : b ∈ a.args) : lg g a b
 | deep {a b : T} (x : T) (h0 : a.fn.size ≠ 0) (h : x ∈ a.args) (h1 : lg g x b) : lg g a b
 | head {a b : T} (h0 : a.fn.size ≠ 0) (h1 : b.fn.size ≠ 0) (h : ∀ y ∈ b.args, lg g a y) (hs : g.sym a.fn b.fn a.args.length b.args.length) : lg g a b
 | lex {a b : T} (l : List T) (x y : T) (r s : List T) (h0 : a.fn.size ≠ 0) (hf : a.fn = b.fn) (hn : a.args.length = b.args.length) (h : ∀ y ∈ b.args, lg g a y) (ha : a.args = l ++ x :: r) (hb : b.args = l ++ y :: s) (hxy : x ≠ y) (h1 : lg g x y) : lg g a b
def lx (R : T -> T -> Prop) : List T -> List T -> Prop
 | x :: r, y :: s => (x = y ∧ lx R r s) ∨ (x ≠ y ∧ R x y)
 | _, _ => False
theorem lx_split {R : T -> T -> Prop} : ∀ {A B : List T}, lx R A B -> ∃ l x y r s, A = l ++ x :: r ∧ B = l ++ y :: s ∧ x ≠ y ∧ R x y
 | [], _, h => h.elim
 | _ :: _, [], h => h.elim
 | x :: r, y :: s, h => by
  rcases h with ⟨rfl, h⟩ | ⟨h1, h⟩
  ·obtain ⟨l, x', y', r', s', h1, h2, h3, h4⟩ := lx_split h
   exact ⟨x :: l, x', y', r', s', by rw [h1]; rfl, by rw [h2]; rfl, h3, h4⟩
  ·exact ⟨[], x, y, r, s, rfl, rfl, h1, h⟩
theorem lx_mk {R : T -> T -> Prop} {x y : T} {r s : List T} (h1 : x ≠ y) (h : R x y) : ∀ l : List T, lx R (l ++ x :: r) (l ++ y :: s)
 | [] => .inr ⟨h1, h⟩
 | _ :: l => .inl ⟨rfl, lx_mk h1 h l⟩
theorem lg.of_lx {g : Sg} {a b : T} (h0 : a.fn.size ≠ 0) (hf : a.fn = b.fn) (hn : a.args.length = b.args.length) (h : ∀ y ∈ b.args, lg g a y) (hl : lx (lg g) a.args b.args) : lg g a b := by
 obtain ⟨l, x, y, r, s, h1, h2, h3, h4⟩ := lx_split hl
 exact .lex l x y r s h0 hf hn h h1 h2 h3 h4
theorem lg_iff {g : Sg} {a b : T} : lg g a b ↔ a.fn.size ≠ 0 ∧ ((∃ x ∈ a.args, x = b ∨ lg g x b) ∨ (b.fn.size ≠ 0 ∧ (∀ y ∈ b.args, lg g a y) ∧ (g.sym a.fn b.fn a.args.length b.args.length ∨ (a.fn = b.fn ∧ a.args.length = b.args.length ∧ lx (lg g) a.args b.args)))) := by
 constructor
 ·intro h
  cases h with
  | arg h0 h => exact ⟨h0, .inl ⟨b, h, .inl rfl⟩⟩
  | deep x h0 h h1 => exact ⟨h0, .inl ⟨x, h, .inr h1⟩⟩
  | head h0 h1 h hs => exact ⟨h0, .inr ⟨h1, h, .inl hs⟩⟩
  | lex l x y r s h0 hf hn h ha hb hxy h1 => exact ⟨h0, .inr ⟨hf ▸ h0, h, .inr ⟨hf, hn, by rw [ha, hb]; exact lx_mk hxy h1 l⟩⟩⟩
 ·rintro ⟨h0, ⟨x, hx, rfl | h⟩ | ⟨h1, h, hs | ⟨hf, hn, hl⟩⟩⟩
  ·exact .arg h0 hx
  ·exact .deep x h0 hx h
  ·exact .head h0 h1 h hs
  ·exact .of_lx h0 hf hn h hl
theorem arg_lt {t a : T} (h : a ∈ t.args) : a.size < t.size := by
 rw [t.size_eq]
 have hp : ∀ l : List T, 0 <= (l.map T.size).sum := fun l => sum_nonneg (fun x hx => by obtain ⟨b, _, rfl⟩ := List.mem_map.1 hx; have := size_pos b; omega)
 have : ∀ l : List T, a ∈ l -> a.size <= (l.map T.size).sum := by
  intro l
  induction l with
  | nil => intro h; cases h
  | cons x r ih =>
   intro h
   simp only [List.map_cons, List.sum_cons]
   have := hp r
   rcases List.mem_cons.1 h with rfl | h
   ·omega
   ·have := ih h
    have := size_pos x
    omega
 have := this _ h
 omega
theorem lx_trans {g : Sg} : ∀ (A B C : List T), (∀ x ∈ A, ∀ y ∈ B, ∀ z ∈ C, lg g x y -> lg g y z -> lg g x z ∧ x ≠ z) -> lx (lg g) A B -> lx (lg g) B C -> lx (lg g) A C
 | [], _, _, _, h, _ => h.elim
 | _ :: _, [], _, _, h, _ => h.elim
 | _ :: _, _ :: _, [], _, _, k => k.elim
 | x :: r, y :: s, z :: t, ht, h, k => by
  rcases h with ⟨rfl, h⟩ | ⟨h1, h⟩ <;> rcases k with ⟨rfl, k⟩ | ⟨k1, k⟩
  ·exact .inl ⟨rfl, lx_trans r s t (fun a ha b hb c hc => ht a (by simp [ha]) b (by simp [hb]) c (by simp [hc])) h k⟩
  ·exact .inr ⟨k1, k⟩
  ·exact .inr ⟨h1, h⟩
  ·have := ht x (by simp) y (by simp) z (by simp) h k
   exact .inr ⟨this.2, this.1⟩
theorem lg_both (g : Sg) : ∀ n : Nat, (∀ a b c : T, a.size + b.size + c.size <= n -> lg g a b -> lg g b c -> lg g a c) ∧ (∀ a : T, 3 * a.size <= n -> ¬ lg g a a) := by
 intro n
 induction n with
 | zero =>
  refine ⟨fun a b c h => ?_, fun a h => ?_⟩
  ·have := size_pos a; have := size_pos b; have := size_pos c; omega
  ·have := size_pos a; omega
 | succ n ih =>
  obtain ⟨it, ii⟩ := ih
  have tr : ∀ a b c : T, a.size + b.size + c.size <= ((n + 1 : Nat) : Int) -> lg g a b -> lg g b c -> lg g a c := by
   intro a b c hz h k
   have h' := lg_iff.1 h
   obtain ⟨a0, ⟨x, hx, rfl | h1⟩ | ⟨b0, hb, hh⟩⟩ := h'
   ·exact .deep x a0 hx k
   ·have := arg_lt hx
    exact .deep x a0 hx (it x b c (by omega) h1 k)
   ·obtain ⟨_, ⟨y, hy, rfl | k1⟩ | ⟨c0, hc, kk⟩⟩ := lg_iff.1 k
    ·exact hb y hy
    ·have := arg_lt hy
     exact it a y c (by omega) (hb y hy) k1
    ·have hac : ∀ z ∈ c.args, lg g a z := fun z hz' => by
      have := arg_lt hz'
      exact it a b z (by omega) h (hc z hz')
     rcases hh with hh | ⟨hf, hn, hl⟩ <;> rcases kk with kk | ⟨kf, kn, kl⟩
     ·exact .head a0 c0 hac (sym_trans hh kk)
     ·exact .head a0 c0 hac (kf ▸ kn ▸ hh)
     ·exact .head a0 c0 hac (hf ▸ hn ▸ kk)
     ·refine .of_lx a0 (hf.trans kf) (hn.trans kn) hac (lx_trans _ _ _ (fun x hx y hy z hz' h1 h2 => ?_) hl kl)
      have e1 := arg_lt hx
      have e2 := arg_lt hy
      have e3 := arg_lt hz'
      refine ⟨it x y z (by omega) h1 h2, fun e => ?_⟩
      subst e
      by_cases hxy : x.size <= y.size
      ·exact ii x (by omega) (it x y x (by omega) h1 h2)
      ·exact ii y (by omega) (it y x y (by omega) h2 h1)
  refine ⟨tr, fun a hz h => ?_⟩
  obtain ⟨a0, ⟨x, hx, rfl | h1⟩ | ⟨_, _, hs | ⟨_, _, hl⟩⟩⟩ := lg_iff.1 h
  ·have := arg_lt hx; omega
  ·have := arg_lt hx
   exact ii x (by omega) (tr x a x (by omega) h1 (.arg a0 hx))
  ·exact sym_irrefl g _ _ hs
  ·obtain ⟨l, x, y, r, s, e1, e2, e3, _⟩ := lx_split hl
   rw [e1] at e2
   have := List.append_cancel_left e2
   simp only [List.cons.injEq] at this
   exact e3 this.1
theorem lg_trans {g : Sg} {a b c : T} (h : lg g a b) (k : lg g b c) : lg g a c :=
 (lg_both g (a.size + b.size + c.size).toNat).1 a b c (by have := size_pos a; have := size_pos b; have := size_pos c; omega) h k
theorem lg_irrefl (g : Sg) (a : T) : ¬ lg g a a := (lg_both g (3 * a.size).toNat).2 a (by have := size_pos a; omega)
theorem lg_asymm {g : Sg} {a b : T} (h : lg g a b) : ¬ lg g b a := fun k => lg_irrefl g a (lg_trans h k)
theorem lg_ne {g : Sg} {a b : T} (h : lg g a b) : a ≠ b := fun e => lg_irrefl g b (e ▸ h)
open Classical in
noncomputable def pcmp (g : Sg) (a b : T) : Int := if a = b then 0 else if lg g a b then 1 else if lg g b a then -1 else 2
theorem pcmp_turn (g : Sg) (a b : T) : (pcmp g a b = 2 ∧ pcmp g b a = 2) ∨ (pcmp g a b ≠ 2 ∧ pcmp g b a = - pcmp g a b) := by
 unfold pcmp
 by_cases e : a = b
 ·subst e
  simp
 ·have e' : ¬ b = a := fun h => e h.symm
  simp only [e, e', if_false]
  by_cases h : lg g a b
  ·simp [h, lg_asymm h]
  ·by_cases k : lg g b a <;> simp [h, k]
theorem pcmp_gr {g : Sg} {a b : T} : pcmp g a b = 1 ↔ lg g a b := by
 unfold pcmp
 by_cases e : a = b
 ·subst e
  rw [if_pos rfl]
  exact ⟨fun h => by omega, fun h => absurd h (lg_irrefl g a)⟩
 ·rw [if_neg e]
  by_cases h : lg g a b
  ·rw [if_pos h]; exact ⟨fun _ => h, fun _ => rfl⟩
  ·rw [if_neg h]
   split <;> exact ⟨fun h => by omega, fun k => absurd k h⟩
theorem pcmp_ls {g : Sg} {a b : T} : pcmp g a b = -1 ↔ lg g b a := by
 rw [<- pcmp_gr]
 rcases pcmp_turn g a b with ⟨h1, h2⟩ | ⟨h1, h2⟩ <;> omega
theorem pcmp_zero {g : Sg} {a b : T} : pcmp g a b = 0 ↔ a = b := by
 unfold pcmp
 by_cases e : a = b
 ·rw [if_pos e]; exact ⟨fun _ => e, fun _ => rfl⟩
 ·rw [if_neg e]
  split
  ·exact ⟨fun h => by omega, fun k => absurd k e⟩
  ·split <;> exact ⟨fun h => by omega, fun k => absurd k e⟩
theorem pcmp_rng (g : Sg) (a b : T) : pcmp g a b = 0 ∨ pcmp g a b = 1 ∨ pcmp g a b = -1 ∨ pcmp g a b = 2 := by
 unfold pcmp
 repeat' split
 all_goals omega
theorem pcmp_none {g : Sg} {a b : T} (h1 : a ≠ b) (h2 : ¬ lg g a b) (h3 : ¬ lg g b a) : pcmp g a b = 2 := by
 unfold pcmp
 rw [if_neg h1, if_neg h2, if_neg h3]
def T.sy : T -> List (ByteArray × Nat)
 | .mk _ fn args => (if fn.size = 0 then [] else [(fn, args.length)]) ++ sys args
where sys : List T -> List (ByteArray × Nat)
 | [] => []
 | a :: r => T.sy a ++ sys r
theorem T.sy_eq (t : T) : t.sy = (if t.fn.size = 0 then [] else [(t.fn, t.args.length)]) ++ (t.args.map T.sy).flatten := by
 have h : ∀ l : List T, T.sy.sys l = (l.map T.sy).flatten := by
  intro l
  induction l with
  | nil => rfl
  | cons a r ih => simp [T.sy.sys, ih]
 cases t with
 | mk v fn args => simp [T.sy, T.args, T.fn, h]
theorem sy_self {t : T} (h : t.fn.size ≠ 0) : (t.fn, t.args.length) ∈ t.sy := by
 rw [t.sy_eq, if_neg h]
 simp
theorem sy_arg {t a : T} (h : a ∈ t.args) {s : ByteArray × Nat} (hs : s ∈ a.sy) : s ∈ t.sy := by
 rw [t.sy_eq]
 exact List.mem_append_right _ (List.mem_flatten.2 ⟨a.sy, List.mem_map.2 ⟨a, h, rfl⟩, hs⟩)
theorem vs_arg {t a : T} (h : a ∈ t.args) {x : Int} (hx : x ∈ a.vs) : x ∈ t.vs := by
 rw [t.vs_eq]
 exact List.mem_append_right _ (List.mem_flatten.2 ⟨a.vs, List.mem_map.2 ⟨a, h, rfl⟩, hx⟩)
structure Ranks (g : Sg) (S : List (ByteArray × Nat)) (ρ : ByteArray × Nat -> Nat) : Prop where
 pos : ∀ s ∈ S, 1 <= ρ s
 lt : ∀ s ∈ S, ∀ r ∈ S, ρ r < ρ s ↔ g.sym s.1 r.1 s.2 r.2
theorem Ranks.inj {g : Sg} {S : List (ByteArray × Nat)} {ρ : ByteArray × Nat -> Nat} (R : Ranks g S ρ) {s r : ByteArray × Nat} (hs : s ∈ S) (hr : r ∈ S) (h : ρ s = ρ r) : s = r := by
 by_cases e : s.1 ≠ r.1 ∨ s.2 ≠ r.2
 ·rcases sym_total g e with k | k
  ·have := (R.lt s hs r hr).2 k
   omega
  ·have := (R.lt r hr s hs).2 k
   omega
 ·obtain ⟨s1, s2⟩ := s
  obtain ⟨r1, r2⟩ := r
  have h1 : s1 = r1 := Classical.byContradiction fun k => e (.inl k)
  have h2 : s2 = r2 := Classical.byContradiction fun k => e (.inr k)
  rw [h1, h2]
def T.rk (ρ : ByteArray × Nat -> Nat) (t : T) : Nat := if t.fn.size = 0 then 0 else ρ (t.fn, t.args.length)
def T.top (ρ : ByteArray × Nat -> Nat) : T -> Nat
 | .mk v fn args => tops (T.rk ρ (.mk v fn args)) args
where tops (m : Nat) : List T -> Nat
 | [] => m
 | a :: r => tops (max m (T.top ρ a)) r
theorem T.top_eq (ρ : ByteArray × Nat -> Nat) (t : T) : t.top ρ = (t.args.map (T.top ρ)).foldl max (t.rk ρ) := by
 have h : ∀ (l : List T) (m : Nat), T.top.tops ρ m l = (l.map (T.top ρ)).foldl max m := by
  intro l
  induction l with
  | nil => intro m; rfl
  | cons a r ih => intro m; simp [T.top.tops, ih]
 cases t with
 | mk v fn args => simp only [T.top, h, T.args]
theorem foldm_le {l : List Nat} {B : Nat} : ∀ {m : Nat}, l.foldl max m <= B ↔ m <= B ∧ ∀ x ∈ l, x <= B := by
 induction l with
 | nil => intro m; simp
 | cons a r ih =>
  intro m
  simp only [List.foldl_cons, ih, List.mem_cons, forall_eq_or_imp]
  constructor
  ·rintro ⟨h1, h2⟩; exact ⟨by omega, by omega, h2⟩
  ·rintro ⟨h1, h2, h3⟩; exact ⟨by omega, h3⟩
theorem top_le {ρ : ByteArray × Nat -> Nat} {t : T} {B : Nat} : t.top ρ <= B ↔ t.rk ρ <= B ∧ ∀ a ∈ t.args, a.top ρ <= B := by
 rw [t.top_eq, foldm_le]
 constructor
 ·rintro ⟨h1, h2⟩; exact ⟨h1, fun a ha => h2 _ (List.mem_map.2 ⟨a, ha, rfl⟩)⟩
 ·rintro ⟨h1, h2⟩
  refine ⟨h1, fun x hx => ?_⟩
  obtain ⟨a, ha, rfl⟩ := List.mem_map.1 hx
  exact h2 a ha
theorem rk_top (ρ : ByteArray × Nat -> Nat) (t : T) : t.rk ρ <= t.top ρ := (top_le.1 (Nat.le_refl _)).1
theorem arg_top {ρ : ByteArray × Nat -> Nat} {t a : T} (h : a ∈ t.args) : a.top ρ <= t.top ρ := (top_le.1 (Nat.le_refl _)).2 a h
theorem lg_vars {g : Sg} {a b : T} (h : lg g a b) : b.shape = true -> ∀ x ∈ b.vs, x ∈ a.vs := by
 have fnc : ∀ {b : T}, b.fn.size ≠ 0 -> b.shape = true -> ∀ x ∈ b.vs, ∃ y ∈ b.args, y.shape = true ∧ x ∈ y.vs := by
  intro b h0 hs x hx
  rcases shape_cases hs with ⟨k0, _⟩ | ⟨_, _, _, _, k⟩
  ·exact absurd k0 h0
  rw [b.vs_eq, if_neg h0, List.nil_append] at hx
  obtain ⟨l, hl, hxl⟩ := List.mem_flatten.1 hx
  obtain ⟨y, hy, rfl⟩ := List.mem_map.1 hl
  exact ⟨y, hy, k y hy, hxl⟩
 induction h with
 | arg h0 h => intro _ x hx; exact vs_arg h hx
 | deep x h0 h h1 ih => intro hb z hz; exact vs_arg h (ih hb z hz)
 | head h0 h1 h hs ih =>
  intro hb x hx
  obtain ⟨y, hy, hys, hxy⟩ := fnc h1 hb x hx
  exact ih y hy hys x hxy
 | lex l x y r s h0 hf hn h ha hb' hxy h1 ih ih1 =>
  intro hb x hx
  obtain ⟨y, hy, hys, hxy⟩ := fnc (hf ▸ h0) hb x hx
  exact ih y hy hys x hxy
theorem top_var {ρ : ByteArray × Nat -> Nat} {t : T} (h0 : t.fn.size = 0) (ha : t.args = []) : t.top ρ = 0 := by
 rw [t.top_eq, ha, T.rk, if_pos h0]
 rfl
section
variable {g : Sg} {S : List (ByteArray × Nat)} {ρ : ByteArray × Nat -> Nat}
theorem var_lg {c : T} (hc : c.shape = true) (c0 : c.fn.size = 0) (t : T) : t.shape = true -> t ≠ c -> c.v ∈ t.vs -> lg g t c := by
 induction t using T.ind with
 | _ t ih =>
  intro ht hne hv
  rcases shape_cases hc with ⟨_, _, _, cA⟩ | ⟨k, _⟩
  ·rcases shape_cases ht with ⟨t0, _, _, tA⟩ | ⟨t0, _, _, _, k⟩
   ·rw [t.vs_eq, if_pos t0, tA] at hv
    have e : t.v = c.v := by
     have : c.v = t.v := by simpa using hv
     exact this.symm
    exact absurd (same_ext e ((ba_empty.1 t0).trans (ba_empty.1 c0).symm) (tA.trans cA.symm)) hne
   ·rw [t.vs_eq, if_neg t0, List.nil_append] at hv
    obtain ⟨l, hl, hx⟩ := List.mem_flatten.1 hv
    obtain ⟨y, hy, rfl⟩ := List.mem_map.1 hl
    by_cases e : y = c
    ·exact .arg t0 (e ▸ hy)
    ·exact .deep y t0 hy (ih y hy (k y hy) e hx)
  ·exact absurd c0 k
theorem const_lg (R : Ranks g S ρ) {c : T} (hc : c.shape = true) (c0 : c.fn.size ≠ 0) (cA : c.args = []) (cS : ∀ s ∈ c.sy, s ∈ S) (t : T) : t.shape = true -> (∀ s ∈ t.sy, s ∈ S) -> t ≠ c -> c.rk ρ <= t.top ρ -> lg g t c := by
 have c1 : 1 <= c.rk ρ := by rw [T.rk, if_neg c0]; exact R.pos _ (cS _ (sy_self c0))
 have cv : c.v = 0 := by
  rcases shape_cases hc with ⟨k, _⟩ | ⟨_, k, _⟩
  ·exact absurd k c0
  ·exact k
 induction t using T.ind with
 | _ t ih =>
  intro ht tS hne hr
  rcases shape_cases ht with ⟨t0, _, _, tA⟩ | ⟨t0, tv, _, _, k⟩
  ·rw [top_var t0 tA] at hr; omega
  ·have ts := tS _ (sy_self t0)
   have cs := cS _ (sy_self c0)
   have e1 : t.rk ρ = ρ (t.fn, t.args.length) := by rw [T.rk, if_neg t0]
   have e2 : c.rk ρ = ρ (c.fn, c.args.length) := by rw [T.rk, if_neg c0]
   rcases Nat.lt_trichotomy (c.rk ρ) (t.rk ρ) with h | h | h
   ·refine .head t0 c0 (fun y hy => ?_) ((R.lt _ ts _ cs).1 (by omega))
    rw [cA] at hy; cases hy
   ·have := R.inj ts cs (by omega)
    simp only [Prod.mk.injEq] at this
    have ha : t.args = [] := by rw [cA] at this; simpa using this.2
    exact absurd (same_ext (tv.trans cv.symm) this.1 (ha.trans cA.symm)) hne
   ·have : ∃ a ∈ t.args, c.rk ρ <= a.top ρ := by
     refine Classical.byContradiction fun hno => ?_
     have : t.top ρ <= c.rk ρ - 1 := top_le.2 ⟨by omega, fun a ha => by
      have : ¬ c.rk ρ <= a.top ρ := fun h => hno ⟨a, ha, h⟩
      omega⟩
     omega
    obtain ⟨a, ha, hra⟩ := this
    by_cases e : a = c
    ·exact .arg t0 (e ▸ ha)
    ·exact .deep a t0 ha (ih a ha (k a ha) (fun s hs => tS s (sy_arg ha hs)) e hra)
theorem const_ls (R : Ranks g S ρ) {c : T} (c0 : c.fn.size ≠ 0) (cS : ∀ s ∈ c.sy, s ∈ S) (t : T) : t.shape = true -> (∀ s ∈ t.sy, s ∈ S) -> t.vs = [] -> t.top ρ < c.rk ρ -> lg g c t := by
 induction t using T.ind with
 | _ t ih =>
  intro ht tS hv hr
  rcases shape_cases ht with ⟨t0, _, _, tA⟩ | ⟨t0, tv, _, _, k⟩
  ·rw [t.vs_eq, if_pos t0] at hv; simp at hv
  ·have e1 : t.rk ρ = ρ (t.fn, t.args.length) := by rw [T.rk, if_neg t0]
   have e2 : c.rk ρ = ρ (c.fn, c.args.length) := by rw [T.rk, if_neg c0]
   have := rk_top ρ t
   refine .head c0 t0 (fun y hy => ?_) ((R.lt _ (cS _ (sy_self c0)) _ (tS _ (sy_self t0))).1 (by omega))
   have hy1 := arg_top (ρ := ρ) hy
   refine ih y hy (k y hy) (fun s hs => tS s (sy_arg hy hs)) ?_ (by omega)
   rw [t.vs_eq, if_neg t0, List.nil_append] at hv
   exact List.flatten_eq_nil_iff.1 hv _ (List.mem_map.2 ⟨y, hy, rfl⟩)
theorem lg_const (R : Ranks g S ρ) {c : T} (c0 : c.fn.size ≠ 0) (cS : ∀ s ∈ c.sy, s ∈ S) (t : T) : (∀ s ∈ t.sy, s ∈ S) -> lg g t c -> c.rk ρ <= t.top ρ := by
 induction t using T.ind with
 | _ t ih =>
  intro tS h
  obtain ⟨t0, ⟨x, hx, rfl | h1⟩ | ⟨_, _, hs | ⟨hf, hn, _⟩⟩⟩ := lg_iff.1 h
  ·exact Nat.le_trans (rk_top ρ x) (arg_top hx)
  ·exact Nat.le_trans (ih x hx (fun s hs => tS s (sy_arg hx hs)) h1) (arg_top hx)
  ·have e1 : t.rk ρ = ρ (t.fn, t.args.length) := by rw [T.rk, if_neg t0]
   have e2 : c.rk ρ = ρ (c.fn, c.args.length) := by rw [T.rk, if_neg c0]
   have := (R.lt _ (tS _ (sy_self t0)) _ (cS _ (sy_self c0))).2 hs
   have := rk_top ρ t
   omega
  ·have := rk_top ρ t
   rw [T.rk, if_neg t0, hf, hn] at this
   rw [T.rk, if_neg c0]
   exact this
open Classical in
noncomputable def leafC (ρ : ByteArray × Nat -> Nat) (a c : T) : Int := if c.rk ρ <= a.top ρ ∧ (∀ x ∈ c.vs, x ∈ a.vs) then 1 else if a.top ρ < c.rk ρ ∧ (∀ x ∈ a.vs, x ∈ c.vs) then -1 else 2
theorem leaf_cmp (R : Ranks g S ρ) {a c : T} (ha : a.shape = true) (hc : c.shape = true) (aS : ∀ s ∈ a.sy, s ∈ S) (cS : ∀ s ∈ c.sy, s ∈ S) (cA : c.args = []) (hne : a ≠ c) : leafC ρ a c = pcmp g a c := by
 unfold leafC
 rcases shape_cases hc with ⟨c0, _⟩ | ⟨c0, _⟩
 ·have hr : c.rk ρ = 0 := by rw [T.rk, if_pos c0]
  have hv : c.vs = [c.v] := by rw [c.vs_eq, if_pos c0, cA]; rfl
  have hno : ¬ lg g c a := fun h => (lg_iff.1 h).1 c0
  by_cases h : c.v ∈ a.vs
  ·rw [if_pos ⟨by omega, by rw [hv]; simpa using h⟩, pcmp_gr.2 (var_lg hc c0 a ha hne h)]
  ·rw [if_neg (fun k => h (k.2 _ (by rw [hv]; simp))), if_neg (by omega)]
   exact (pcmp_none hne (fun k => h (lg_vars k hc _ (by rw [hv]; simp))) hno).symm
 ·have hv : c.vs = [] := by rw [c.vs_eq, if_neg c0, cA]; rfl
  by_cases h : c.rk ρ <= a.top ρ
  ·rw [if_pos ⟨h, by rw [hv]; simp⟩, pcmp_gr.2 (const_lg R hc c0 cA cS a ha aS hne h)]
  ·rw [if_neg (fun k => h k.1)]
   have n1 : ¬ lg g a c := fun k => h (lg_const R c0 cS a aS k)
   by_cases hva : a.vs = []
   ·rw [if_pos ⟨by omega, by rw [hva]; simp⟩, pcmp_ls.2 (const_ls R c0 cS a ha aS hva (by omega))]
   ·rw [if_neg]
    ·refine (pcmp_none hne n1 (fun k => hva ?_)).symm
     exact List.eq_nil_iff_forall_not_mem.2 fun x hx => by
      have := lg_vars k ha x hx
      rw [hv] at this; cases this
    ·rintro ⟨_, k⟩
     refine hva (List.eq_nil_iff_forall_not_mem.2 fun x hx => ?_)
     have := k x hx
     rw [hv] at this; cases this
theorem vars_none2 {a b : T} (ha : a.shape = true) (hb : b.shape = true) (h1 : ¬ ∀ x ∈ a.vs, x ∈ b.vs) (h2 : ¬ ∀ x ∈ b.vs, x ∈ a.vs) : pcmp g a b = 2 :=
 pcmp_none (fun e => h1 (e ▸ fun _ h => h)) (fun k => h2 (lg_vars k hb)) (fun k => h1 (lg_vars k ha))
open Classical in
noncomputable def ovr (g : Sg) (a : T) (l : List T) : Int := if ∃ y ∈ l, y = a ∨ lg g y a then -1 else if ∀ y ∈ l, lg g a y then 1 else 2
theorem sym_of_rk (R : Ranks g S ρ) {a b : T} (a0 : a.fn.size ≠ 0) (b0 : b.fn.size ≠ 0) (aS : ∀ s ∈ a.sy, s ∈ S) (bS : ∀ s ∈ b.sy, s ∈ S) : b.rk ρ < a.rk ρ ↔ g.sym a.fn b.fn a.args.length b.args.length := by
 rw [T.rk, T.rk, if_neg a0, if_neg b0]
 exact R.lt _ (aS _ (sy_self a0)) _ (bS _ (sy_self b0))
theorem same_of_rk (R : Ranks g S ρ) {a b : T} (a0 : a.fn.size ≠ 0) (b0 : b.fn.size ≠ 0) (aS : ∀ s ∈ a.sy, s ∈ S) (bS : ∀ s ∈ b.sy, s ∈ S) (h : a.rk ρ = b.rk ρ) : a.fn = b.fn ∧ a.args.length = b.args.length := by
 rw [T.rk, T.rk, if_neg a0, if_neg b0] at h
 have := R.inj (aS _ (sy_self a0)) (bS _ (sy_self b0)) h
 simpa using this
theorem dec_head (R : Ranks g S ρ) {a b : T} (a0 : a.fn.size ≠ 0) (b0 : b.fn.size ≠ 0) (aS : ∀ s ∈ a.sy, s ∈ S) (bS : ∀ s ∈ b.sy, s ∈ S) (h : b.rk ρ < a.rk ρ) : ovr g a b.args = pcmp g a b := by
 have hs := (sym_of_rk R a0 b0 aS bS).1 h
 unfold ovr
 by_cases h1 : ∃ y ∈ b.args, y = a ∨ lg g y a
 ·rw [if_pos h1, pcmp_ls.2 (lg_iff.2 ⟨b0, .inl h1⟩)]
 ·rw [if_neg h1]
  by_cases h2 : ∀ y ∈ b.args, lg g a y
  ·rw [if_pos h2, pcmp_gr.2 (.head a0 b0 h2 hs)]
  ·rw [if_neg h2]
   refine (pcmp_none (fun e => ?_) (fun k => h2 fun y hy => lg_trans k (.arg b0 hy)) (fun k => ?_)).symm
   ·subst e; omega
   ·obtain ⟨_, k1 | ⟨_, _, k1 | ⟨k1, k2, _⟩⟩⟩ := lg_iff.1 k
    ·exact h1 k1
    ·have := (sym_of_rk R b0 a0 bS aS).2 k1
     omega
    ·rw [T.rk, T.rk, if_neg a0, if_neg b0, k1, k2] at h
     omega
theorem lx_at {R : T -> T -> Prop} {x y : T} {r s : List T} (hne : x ≠ y) : ∀ l : List T, lx R (l ++ x :: r) (l ++ y :: s) -> R x y
 | [], h => by
  rcases h with ⟨e, _⟩ | ⟨_, h⟩
  ·exact absurd e hne
  ·exact h
 | z :: l, h => by
  rcases h with ⟨_, h⟩ | ⟨e, _⟩
  ·exact lx_at hne l h
  ·exact absurd rfl e
theorem dec_lex {a b : T} (a0 : a.fn.size ≠ 0) (hf : a.fn = b.fn) (hn : a.args.length = b.args.length) {l r s : List T} {x y : T} (ha : a.args = l ++ x :: r) (hb : b.args = l ++ y :: s) (hxy : lg g x y) : ovr g a s = pcmp g a b := by
 have b0 : b.fn.size ≠ 0 := hf ▸ a0
 have hne : x ≠ y := lg_ne hxy
 have la : ∀ z ∈ l, lg g a z := fun z hz => .arg a0 (by rw [ha]; exact List.mem_append_left _ hz)
 have ly : lg g a y := .deep x a0 (by rw [ha]; simp) hxy
 have mb : ∀ {z}, z ∈ b.args -> z ∈ l ∨ z = y ∨ z ∈ s := fun {z} hz => by rw [hb] at hz; simpa using hz
 unfold ovr
 by_cases h1 : ∃ z ∈ s, z = a ∨ lg g z a
 ·rw [if_pos h1]
  obtain ⟨z, hz, h1⟩ := h1
  rw [pcmp_ls.2 (lg_iff.2 ⟨b0, .inl ⟨z, by rw [hb]; simp [hz], h1⟩⟩)]
 ·rw [if_neg h1]
  by_cases h2 : ∀ z ∈ s, lg g a z
  ·rw [if_pos h2, pcmp_gr.2]
   refine .lex l x y r s a0 hf hn (fun z hz => ?_) ha hb hne hxy
   rcases mb hz with hz | rfl | hz
   ·exact la z hz
   ·exact ly
   ·exact h2 z hz
  ·rw [if_neg h2]
   refine (pcmp_none (fun e => ?_) (fun k => h2 fun z hz => lg_trans k (.arg b0 (by rw [hb]; simp [hz]))) (fun k => ?_)).symm
   ·subst e
    rw [ha] at hb
    have := List.append_cancel_left hb
    simp only [List.cons.injEq] at this
    exact hne this.1
   ·obtain ⟨_, ⟨z, hz, k1⟩ | ⟨_, _, k1 | ⟨_, _, k1⟩⟩⟩ := lg_iff.1 k
    ·rcases mb hz with hz' | rfl | hz'
     ·rcases k1 with rfl | k1
      ·exact lg_irrefl g _ (la _ hz')
      ·exact lg_asymm k1 (la z hz')
     ·rcases k1 with rfl | k1
      ·exact lg_irrefl g _ ly
      ·exact lg_asymm k1 ly
     ·exact h1 ⟨z, hz', k1⟩
    ·rw [hf, hn] at k1
     exact sym_irrefl g _ _ k1
    ·rw [ha, hb] at k1
     exact lg_asymm hxy (lx_at hne.symm l k1)
open Classical in
theorem dec_none {a b : T} (a0 : a.fn.size ≠ 0) (hf : a.fn = b.fn) (hn : a.args.length = b.args.length) {l r s : List T} {x y : T} (ha : a.args = l ++ x :: r) (hb : b.args = l ++ y :: s) (hne : x ≠ y) (hxy : ¬ lg g x y) (hyx : ¬ lg g y x) :
  (if ∃ z ∈ r, z = b ∨ lg g z b then 1 else if ∃ z ∈ s, z = a ∨ lg g z a then -1 else 2) = pcmp g a b := by
 have b0 : b.fn.size ≠ 0 := hf ▸ a0
 have one : ∀ {a b : T} {r s : List T} {x y : T}, a.fn.size ≠ 0 -> b.fn.size ≠ 0 -> a.fn = b.fn -> a.args.length = b.args.length -> a.args = l ++ x :: r -> b.args = l ++ y :: s -> x ≠ y -> ¬ lg g x y -> lg g a b -> ∃ z ∈ r, z = b ∨ lg g z b := by
  intro a b r s x y a0 b0 hf hn ha hb hne hxy k
  have lb : ∀ z ∈ l, lg g b z := fun z hz => .arg b0 (by rw [hb]; exact List.mem_append_left _ hz)
  have ly : lg g b y := .arg b0 (by rw [hb]; simp)
  obtain ⟨_, ⟨z, hz, k1⟩ | ⟨_, _, k1 | ⟨_, _, k1⟩⟩⟩ := lg_iff.1 k
  ·rw [ha] at hz
   rcases List.mem_append.1 hz with hz | hz
   ·rcases k1 with rfl | k1
    ·exact absurd (lb _ hz) (lg_irrefl g _)
    ·exact absurd k1 (lg_asymm (lb z hz))
   ·rcases List.mem_cons.1 hz with rfl | hz
    ·rcases k1 with rfl | k1
     ·exact absurd ly hxy
     ·exact absurd (lg_trans k1 ly) hxy
    ·exact ⟨z, hz, k1⟩
  ·rw [hf, hn] at k1
   exact absurd k1 (sym_irrefl g _ _)
  ·rw [ha, hb] at k1
   exact absurd (lx_at hne l k1) hxy
 by_cases h1 : ∃ z ∈ r, z = b ∨ lg g z b
 ·rw [if_pos h1]
  obtain ⟨z, hz, h1⟩ := h1
  rw [pcmp_gr.2 (lg_iff.2 ⟨a0, .inl ⟨z, by rw [ha]; simp [hz], h1⟩⟩)]
 ·rw [if_neg h1]
  by_cases h2 : ∃ z ∈ s, z = a ∨ lg g z a
  ·rw [if_pos h2]
   obtain ⟨z, hz, h2⟩ := h2
   rw [pcmp_ls.2 (lg_iff.2 ⟨b0, .inl ⟨z, by rw [hb]; simp [hz], h2⟩⟩)]
  ·rw [if_neg h2]
   refine (pcmp_none (fun e => ?_) (fun k => h1 (one a0 b0 hf hn ha hb hne hxy k)) (fun k => h2 (one b0 a0 hf.symm hn.symm hb ha hne.symm hyx k))).symm
   subst e
   rw [ha] at hb
   have := List.append_cancel_left hb
   simp only [List.cons.injEq] at this
   exact hne this.1
end
def trn (x : Int) : Int := if x = 2 then 2 else -x
theorem trn_pcmp (g : Sg) (a b : T) : trn (pcmp g a b) = pcmp g b a := by
 unfold trn
 rcases pcmp_turn g a b with ⟨h1, h2⟩ | ⟨h1, h2⟩
 ·rw [if_pos h1, h2]
 ·rw [if_neg h1, h2]
end Go.Proofs.YtglphfhlpobgcaaGreat
