import Derived.Test.YtglphfhlpobgcaaGreatE
import Derived.Test.YtglphfhlpobgcaaGreatUB
import Derived.Test.YtglphfhlpobgcaaGreatLV
import Derived.Test.YtglphfhlpobgcaaGreatQF

namespace Go.Proofs.YtglphfhlpobgcaaGreat
open Go.RowKit
structure Sg where
  ns : List ByteArray
  ws : List Int
def tru : ByteArray := ⟨#[36, 116, 114, 117, 101]⟩
def Sg.ix (g : Sg) (a : ByteArray) : Option Nat := g.ns.findIdx? (fun x => decide (x = a))
def Sg.pl (g : Sg) (a : ByteArray) : Int := match g.ix a with
  | some i => (i : Int)
  | none => -1
def Sg.above (g : Sg) (a b : ByteArray) : Bool :=
  if a = tru ∨ b = tru then decide (a ≠ tru) else if g.pl a = g.pl b then decide (cB b a = -1) else decide (g.pl b < g.pl a)
theorem above_iff {g : Sg} {a b : ByteArray} : g.above a b = true ↔ a ≠ tru ∧ (b = tru ∨ g.pl b < g.pl a ∨ (g.pl a = g.pl b ∧ cB b a = -1)) := by
  unfold Sg.above
  by_cases h : a = tru ∨ b = tru
  · rw [if_pos h]
    rcases h with h | h <;> simp [h]
  · rw [if_neg h]
    have h1 : a ≠ tru := fun e => h (.inl e)
    have h2 : b ≠ tru := fun e => h (.inr e)
    by_cases h3 : g.pl a = g.pl b
    · rw [if_pos h3]
      simp [h1, h2, h3]
    · rw [if_neg h3]
      simp [h1, h2, h3]
theorem above_irrefl (g : Sg) (a : ByteArray) : g.above a a = false := by
  cases h : g.above a a
  · rfl
  · obtain ⟨h1, h2 | h2 | ⟨_, h2⟩⟩ := above_iff.1 h
    · exact absurd h2 h1
    · omega
    · have := (cB_ord.zero a a trivial).2 rfl
      omega
theorem above_trans {g : Sg} {a b c : ByteArray} (h : g.above a b = true) (k : g.above b c = true) : g.above a c = true := by
  obtain ⟨h1, h2⟩ := above_iff.1 h
  obtain ⟨k1, k2⟩ := above_iff.1 k
  refine above_iff.2 ⟨h1, ?_⟩
  rcases k2 with k2 | k2
  · exact .inl k2
  · rcases h2 with h2 | h2
    · exact absurd h2 k1
    · right
      rcases h2 with h2 | ⟨h2, h3⟩ <;> rcases k2 with k2 | ⟨k2, k3⟩
      · left; omega
      · left; omega
      · left; omega
      · right
        refine ⟨by omega, ?_⟩
        have t := cB_ord.trans c b a trivial (by omega) (by omega)
        have r := cB_ord.rng c a trivial
        have z := cB_ord.zero c a trivial
        rcases r with r | r | r
        · exact r
        · have e := z.1 r
          subst e
          have := cB_ord.anti c b trivial
          omega
        · omega
theorem above_total (g : Sg) {a b : ByteArray} (h : a ≠ b) : g.above a b = true ∨ g.above b a = true := by
  by_cases h1 : a = tru
  · exact .inr (above_iff.2 ⟨fun e => h (h1.trans e.symm), .inl h1⟩)
  · by_cases h2 : b = tru
    · exact .inl (above_iff.2 ⟨h1, .inl h2⟩)
    · rcases Int.lt_trichotomy (g.pl a) (g.pl b) with h3 | h3 | h3
      · exact .inr (above_iff.2 ⟨h2, .inr (.inl h3)⟩)
      · rcases cB_ord.rng b a trivial with r | r | r
        · exact .inl (above_iff.2 ⟨h1, .inr (.inr ⟨h3, r⟩)⟩)
        · exact absurd ((cB_ord.zero b a trivial).1 r).symm h
        · refine .inr (above_iff.2 ⟨h2, .inr (.inr ⟨h3.symm, ?_⟩)⟩)
          have := cB_ord.anti b a trivial
          omega
      · exact .inl (above_iff.2 ⟨h1, .inr (.inl h3)⟩)
def Sg.sym (g : Sg) (fa fb : ByteArray) (la lb : Nat) : Prop := g.above fa fb = true ∨ (fa = fb ∧ lb < la)
theorem sym_irrefl (g : Sg) (f : ByteArray) (n : Nat) : ¬ g.sym f f n n := by
  rintro (h | ⟨_, h⟩)
  · rw [above_irrefl] at h; cases h
  · omega
theorem sym_trans {g : Sg} {a b c : ByteArray} {k l m : Nat} (h : g.sym a b k l) (h' : g.sym b c l m) : g.sym a c k m := by
  rcases h with h | ⟨rfl, h⟩ <;> rcases h' with h' | ⟨rfl, h'⟩
  · exact .inl (above_trans h h')
  · exact .inl h
  · exact .inl h'
  · exact .inr ⟨rfl, by omega⟩
theorem sym_total (g : Sg) {a b : ByteArray} {k l : Nat} (h : a ≠ b ∨ k ≠ l) : g.sym a b k l ∨ g.sym b a l k := by
  by_cases e : a = b
  · subst e
    rcases Nat.lt_trichotomy k l with h1 | h1 | h1
    · exact .inr (.inr ⟨rfl, h1⟩)
    · rcases h with h | h
      · exact absurd rfl h
      · exact absurd h1 h
    · exact .inl (.inr ⟨rfl, h1⟩)
  · rcases above_total g e with h1 | h1
    · exact .inl (.inl h1)
    · exact .inr (.inl h1)
def Sg.hv (g : Sg) (fn : ByteArray) : Int := match g.ix fn with
  | some i => (match g.ws[i]? with
    | some w => if 1 ≤ w ∧ w ≤ 1000 then w else 1
    | none => 1)
  | none => 1
theorem hv_rng (g : Sg) (fn : ByteArray) : 1 ≤ g.hv fn ∧ g.hv fn ≤ 1000 := by
  unfold Sg.hv
  split
  · split
    · split
      · assumption
      · omega
    · omega
  · omega
def Sg.self (g : Sg) (fn : ByteArray) : Int := if fn.size = 0 then 1 else g.hv fn
theorem self_rng (g : Sg) (fn : ByteArray) : 1 ≤ g.self fn ∧ g.self fn ≤ 1000 := by
  unfold Sg.self
  split
  · omega
  · exact hv_rng g fn
def T.wt (g : Sg) : T → Int
  | .mk _ fn args => g.self fn + wts args
where wts : List T → Int
  | [] => 0
  | a :: r => T.wt g a + wts r
theorem T.wt_eq (g : Sg) (t : T) : t.wt g = g.self t.fn + (t.args.map (T.wt g)).sum := by
  have h : ∀ l : List T, T.wt.wts g l = (l.map (T.wt g)).sum := by
    intro l
    induction l with
    | nil => rfl
    | cons a r ih => simp [T.wt.wts, ih]
  cases t with
  | mk v fn args => simp [T.wt, T.fn, T.args, h]
theorem sum_nonneg {l : List Int} (h : ∀ x ∈ l, 0 ≤ x) : 0 ≤ l.sum := by
  induction l with
  | nil => simp
  | cons a r ih =>
    have h1 := h a (by simp)
    have h2 := ih (fun x hx => h x (by simp [hx]))
    rw [List.sum_cons]
    omega
theorem wt_pos (g : Sg) (t : T) : 1 ≤ t.wt g := by
  induction t using T.ind with
  | _ t ih =>
    rw [t.wt_eq]
    have h1 := (self_rng g t.fn).1
    have h2 : 0 ≤ (t.args.map (T.wt g)).sum := sum_nonneg (fun x hx => by
      obtain ⟨a, ha, rfl⟩ := List.mem_map.1 hx
      have := ih a ha
      omega)
    omega
def vle (a b : T) : Prop := ∀ x, a.vs.count x ≤ b.vs.count x
theorem vle.trans {a b c : T} (h : vle a b) (k : vle b c) : vle a c := fun x => Nat.le_trans (h x) (k x)
def gr (g : Sg) : T → T → Prop
  | .mk v fn args, b => vle b (.mk v fn args) ∧ (b.wt g < (T.mk v fn args).wt g ∨ ((T.mk v fn args).wt g = b.wt g ∧ fn.size ≠ 0 ∧ b.fn.size ≠ 0 ∧ (g.sym fn b.fn args.length b.args.length ∨ (fn = b.fn ∧ args.length = b.args.length ∧ grs args b.args))))
where grs : List T → List T → Prop
  | a :: r, b :: s => (a = b ∧ grs r s) ∨ (a ≠ b ∧ gr g a b)
  | _, _ => False
theorem gr_eq (g : Sg) (a b : T) : gr g a b ↔ vle b a ∧ (b.wt g < a.wt g ∨ (a.wt g = b.wt g ∧ a.fn.size ≠ 0 ∧ b.fn.size ≠ 0 ∧ (g.sym a.fn b.fn a.args.length b.args.length ∨ (a.fn = b.fn ∧ a.args.length = b.args.length ∧ gr.grs g a.args b.args)))) := by
  cases a with
  | mk v fn args => exact Iff.rfl
theorem grs_irrefl (g : Sg) : ∀ l : List T, ¬ gr.grs g l l
  | [] => fun h => h
  | a :: r => fun h => by
    rcases h with ⟨_, h⟩ | ⟨h, _⟩
    · exact grs_irrefl g r h
    · exact h rfl
theorem gr_irrefl (g : Sg) (a : T) : ¬ gr g a a := by
  rw [gr_eq]
  rintro ⟨_, h | ⟨_, _, _, h | ⟨_, _, h⟩⟩⟩
  · omega
  · exact sym_irrefl g _ _ h
  · exact grs_irrefl g _ h
theorem gr_ne {g : Sg} {a b : T} (h : gr g a b) : a ≠ b := fun e => gr_irrefl g b (e ▸ h)
theorem gr_trans (g : Sg) (a : T) : ∀ b c, gr g a b → gr g b c → gr g a c := by
  induction a using T.ind with
  | _ a ih =>
    have hl : ∀ (l m n : List T), (∀ x ∈ l, x ∈ a.args) → gr.grs g l m → gr.grs g m n → gr.grs g l n := by
      intro l
      induction l with
      | nil => intro m n _ h; exact h.elim
      | cons x r ihl =>
        intro m n hm h k
        cases m with
        | nil => exact h.elim
        | cons y s =>
          cases n with
          | nil => exact k.elim
          | cons z t =>
            rcases h with ⟨rfl, h⟩ | ⟨h1, h⟩ <;> rcases k with ⟨rfl, k⟩ | ⟨k1, k⟩
            · exact .inl ⟨rfl, ihl s t (fun c hc => hm c (by simp [hc])) h k⟩
            · exact .inr ⟨k1, k⟩
            · exact .inr ⟨h1, h⟩
            · have := ih x (hm x (by simp)) y z h k
              exact .inr ⟨gr_ne this, this⟩
    intro b c h k
    rw [gr_eq] at h k ⊢
    obtain ⟨h1, h⟩ := h
    obtain ⟨k1, k⟩ := k
    refine ⟨k1.trans h1, ?_⟩
    rcases h with h | ⟨h2, h3, h4, h⟩
    · rcases k with k | ⟨k2, _⟩
      · left; omega
      · left; omega
    · rcases k with k | ⟨k2, k3, k4, k⟩
      · left; omega
      · right
        refine ⟨by omega, h3, k4, ?_⟩
        rcases h with h | ⟨h5, h6, h⟩ <;> rcases k with k | ⟨k5, k6, k⟩
        · exact .inl (sym_trans h k)
        · exact .inl (k5 ▸ k6 ▸ h)
        · exact .inl (h5 ▸ h6 ▸ k)
        · exact .inr ⟨h5.trans k5, h6.trans k6, hl _ _ _ (fun _ hx => hx) h k⟩
theorem gr_asymm {g : Sg} {a b : T} (h : gr g a b) : ¬ gr g b a := fun k => gr_irrefl g a (gr_trans g a b a h k)
open Classical in
noncomputable def kcmp (g : Sg) (a b : T) : Int := if a = b then 0 else if gr g a b then 1 else if gr g b a then -1 else 2
theorem kcmp_turn (g : Sg) (a b : T) : (kcmp g a b = 2 ∧ kcmp g b a = 2) ∨ (kcmp g a b ≠ 2 ∧ kcmp g b a = - kcmp g a b) := by
  unfold kcmp
  by_cases e : a = b
  · subst e
    simp
  · have e' : ¬ b = a := fun h => e h.symm
    simp only [e, e', if_false]
    by_cases h : gr g a b
    · simp [h, gr_asymm h]
    · by_cases k : gr g b a <;> simp [h, k]
theorem kcmp_gr {g : Sg} {a b : T} : kcmp g a b = 1 ↔ gr g a b := by
  unfold kcmp
  by_cases e : a = b
  · subst e
    rw [if_pos rfl]
    exact ⟨fun h => by omega, fun h => absurd h (gr_irrefl g a)⟩
  · rw [if_neg e]
    by_cases h : gr g a b
    · rw [if_pos h]; exact ⟨fun _ => h, fun _ => rfl⟩
    · rw [if_neg h]
      split <;> exact ⟨fun h => by omega, fun k => absurd k h⟩
theorem kcmp_ls {g : Sg} {a b : T} : kcmp g a b = -1 ↔ gr g b a := by
  rw [← kcmp_gr]
  rcases kcmp_turn g a b with ⟨h1, h2⟩ | ⟨h1, h2⟩ <;> omega
theorem kcmp_zero {g : Sg} {a b : T} : kcmp g a b = 0 ↔ a = b := by
  unfold kcmp
  by_cases e : a = b
  · rw [if_pos e]; exact ⟨fun _ => e, fun _ => rfl⟩
  · rw [if_neg e]
    split
    · exact ⟨fun h => by omega, fun k => absurd k e⟩
    · split <;> exact ⟨fun h => by omega, fun k => absurd k e⟩
theorem kcmp_rng (g : Sg) (a b : T) : kcmp g a b = 0 ∨ kcmp g a b = 1 ∨ kcmp g a b = -1 ∨ kcmp g a b = 2 := by
  unfold kcmp
  repeat' split
  all_goals omega
theorem kcmp_none {g : Sg} {a b : T} (h1 : a ≠ b) (h2 : ¬ gr g a b) (h3 : ¬ gr g b a) : kcmp g a b = 2 := by
  unfold kcmp
  rw [if_neg h1, if_neg h2, if_neg h3]
theorem shape_cases {t : T} (h : t.shape = true) : (t.fn.size = 0 ∧ 0 ≤ t.v ∧ t.v < 1000000 ∧ t.args = []) ∨ (t.fn.size ≠ 0 ∧ t.v = 0 ∧ t.fn.size ≤ 64 ∧ t.args.length ≤ 16 ∧ ∀ a ∈ t.args, a.shape = true) := by
  rw [t.shape_eq] at h
  split at h
  · rename_i h0
    simp only [Bool.and_eq_true, decide_eq_true_eq] at h
    exact .inl ⟨h0, h.1.1, h.1.2, List.length_eq_zero_iff.1 h.2⟩
  · rename_i h0
    simp only [Bool.and_eq_true, decide_eq_true_eq, List.all_eq_true] at h
    exact .inr ⟨h0, h.1.1.1, h.1.1.2, h.1.2, h.2⟩
end Go.Proofs.YtglphfhlpobgcaaGreat

namespace Go.Proofs.YtglphfhlpobgcaaGreat
open Go.RowKit
def RowAt {α : Type} (f : α → Value) (W : World) (v : Value) (l : List α) : Prop :=
  ∃ a c, v = .slice a l.length c ∧ l.length ≤ c ∧ c ≤ 9223372036854775807 ∧ (0 < l.length → ∃ b o, b < W.heap.size ∧ a = some ⟨b, o, none⟩ ∧ ∀ i (h : i < l.length), W.cell? ⟨b, o + i, none⟩ = some (f l[i]))
section
variable {α : Type} {f : α → Value} {W W' : World} {v : Value} {l : List α}
theorem RowAt.keep {n : Nat} (h : RowAt f W v l) (hb : Below n W W') (hn : W.heap.size ≤ n) : RowAt f W' v l := by
  obtain ⟨a, c, h1, h2, h3, h4⟩ := h
  refine ⟨a, c, h1, h2, h3, fun h0 => ?_⟩
  obtain ⟨b, o, hlt, ha, hc⟩ := h4 h0
  exact ⟨b, o, Nat.lt_of_lt_of_le hlt hb.size, ha, fun i hi => kc hb (Nat.lt_of_lt_of_le hlt hn) (hc i hi)⟩
theorem RowAt.slice (h : RowAt f W v l) : ∃ a c, v = .slice a l.length c ∧ l.length ≤ c ∧ c ≤ 9223372036854775807 := by
  obtain ⟨a, c, h1, h2, h3, h4⟩ := h
  exact ⟨a, c, h1, h2, h3⟩
theorem RowAt.nth {a : Option Addr} {n c : Nat} (h : RowAt f W (.slice a n c) l) {i : Nat} (hi : i < l.length) : ∃ b o, a = some ⟨b, o, none⟩ ∧ b < W.heap.size ∧ W.cell? ⟨b, o + i, none⟩ = some (f l[i]) := by
  obtain ⟨a', c', h1, h2, h3, h4⟩ := h
  obtain ⟨b, o, hlt, ha, hc⟩ := h4 (by omega)
  cases h1
  exact ⟨b, o, ha, hlt, hc i hi⟩
theorem RowAt.take {a : Option Addr} {c : Nat} (h : RowAt f W (.slice a l.length c) l) (k : Nat) (hk : k ≤ l.length) : RowAt f W (.slice a k c) (l.take k) := by
  obtain ⟨a', c', h1, h2, h3, h4⟩ := h
  have hl : (l.take k).length = k := by simp; omega
  cases h1
  refine ⟨a, c, by rw [hl], by omega, h3, fun h0 => ?_⟩
  obtain ⟨b, o, hlt, ha, hc⟩ := h4 (by omega)
  refine ⟨b, o, hlt, ha, fun i hi => ?_⟩
  rw [List.getElem_take]
  exact hc i (by omega)
end
def ixL (l : List ByteArray) (a : ByteArray) : Option Nat := l.findIdx? (fun x => decide (x = a))
def plL (l : List ByteArray) (a : ByteArray) : Int := match ixL l a with
  | some i => (i : Int)
  | none => -1
theorem pl_eq (g : Sg) (a : ByteArray) : g.pl a = plL g.ns a := rfl
theorem plL_at {l : List ByteArray} {a : ByteArray} {i : Nat} (hi : i < l.length) (h : ∀ j (hj : j < l.length), j < i → l[j] ≠ a) (e : l[i] = a) : plL l a = i := by
  have : ixL l a = some i := by
    unfold ixL
    rw [List.findIdx?_eq_some_iff_getElem]
    exact ⟨hi, by simp [e], fun j hj => by simpa using h j (by omega) hj⟩
  unfold plL
  rw [this]
theorem plL_no {l : List ByteArray} {a : ByteArray} (h : ∀ j (hj : j < l.length), l[j] ≠ a) : plL l a = -1 := by
  have : ixL l a = none := by
    unfold ixL
    rw [List.findIdx?_eq_none_iff]
    intro x hx
    obtain ⟨j, hj, rfl⟩ := List.getElem_of_mem hx
    simpa using h j hj
  unfold plL
  rw [this]
theorem plL_rng (l : List ByteArray) (a : ByteArray) : -1 ≤ plL l a ∧ plL l a < l.length := by
  unfold plL
  cases h : ixL l a with
  | none => simp; omega
  | some i =>
    unfold ixL at h
    obtain ⟨hi, _⟩ := List.findIdx?_eq_some_iff_getElem.1 h
    simp; omega
set_option maxHeartbeats 1000000 in
theorem index_any (l : List ByteArray) (x : ByteArray) (v : Value) (w : World) (hl : RowAt .string w v l) :
    Calls Tryz.prog 148 #[v, .string x] w fun e w' => e = .returned (.int .i64 (plL l x)) ∧ w' = w := by
  obtain ⟨a, c, rfl, hc, hm⟩ := hl.slice
  have HL : Hid (RowAt .string w (.slice a l.length c) l) := hl
  clear hl
  go_enter Tryz.func148, Tryz.ntmps148
  go_wp2
  go_loopw [8] (fun vi wr => ∃ i : Nat, vi = .int .i64 i ∧ i ≤ l.length ∧ wr = w ∧ ∀ j (hj : j < l.length), j < i → l[j] ≠ x) (fun vi _ => l.length - (intOf vi).toNat)
  case atStart => exact ⟨0, rfl, Nat.zero_le _, rfl, fun j _ hj => absurd hj (by omega)⟩
  case round =>
    obtain ⟨i, rfl, hi, hwr, hall⟩ := hrel
    subst hwr
    have HA : Hid (∀ j (hj : j < l.length), j < i → l[j] ≠ x) := hall
    clear hall
    by_cases hlt : i < l.length
    · obtain ⟨b, o, rfl, hbl, hcell⟩ := HL.out.nth hlt
      by_cases e : l[i] = x
      · have HP : Hid (plL l x = i) := plL_at hlt HA.out e
        have e' : (x.toList == l[i].toList) = true := by rw [e]; simp
        clear e
        go_wp2
        go_ret
        exact ⟨ret_i64 HP.out.symm, rfl⟩
      · have HN : Hid (∀ j (hj : j < l.length), j < i + 1 → l[j] ≠ x) := fun j hj hji => by
          by_cases ej : j = i
          · subst ej; exact e
          · exact HA.out j hj (by omega)
        have e' : (x.toList == l[i].toList) = false := by rw [beq_eq_false_iff_ne]; exact fun h => e (ba_toList_inj.1 h).symm
        clear e
        go_wp2
        go_roundw
        case rel => exact ⟨i + 1, by go_num, by omega, trivial, HN.out⟩
        case measure => simp [intOf]; omega
    · have HP : Hid (plL l x = -1) := plL_no (fun j hj => HA.out j hj (by omega))
      go_wp2
      go_ret
      exact ⟨ret_i64 HP.out.symm, rfl⟩
abbrev gval (vn vw : Value) : Value := .agg #[vn, vw]
structure SgAt (W : World) (g : Sg) (vn vw : Value) : Prop where
  ns : RowAt .string W vn g.ns
  ws : RowAt (.int .i64) W vw g.ws
  sz : ∀ x ∈ g.ns, x.size ≤ maxLen
theorem SgAt.keep {W W' : World} {g : Sg} {vn vw : Value} {n : Nat} (h : SgAt W g vn vw) (hb : Below n W W') (hn : W.heap.size ≤ n) : SgAt W' g vn vw := ⟨h.ns.keep hb hn, h.ws.keep hb hn, h.sz⟩
theorem box2_cells (w : World) (x y : Value) (ty : TypeId) : (w.alloc (.cells #[x, y] ty)).cell? ⟨w.heap.size, 0, none⟩ = some x ∧ (w.alloc (.cells #[x, y] ty)).cell? ⟨w.heap.size, 1, none⟩ = some y := by
  have h : (w.alloc (.cells #[x, y] ty)).heap[w.heap.size]? = some (.cells [x, y].toArray ty (0, 0)) := (MapKept.heap_alloc w (.cells #[x, y] ty)).1
  refine ⟨?_, ?_⟩ <;> rw [cell_of_row _ _ _ _ ty (0, 0) h] <;> rfl
set_option maxHeartbeats 1000000 in
theorem rat_row (l : List ByteArray) (x : ByteArray) (vn : Value) (a2 : Option Addr) (n2 c2 : Nat) (w : World) (hl : RowAt .string w vn l) :
    Calls Tryz.prog 47 #[gval vn (.slice a2 n2 c2), .string x] w fun e w' => e = .returned (.int .i64 (plL l x)) ∧ Below w.heap.size w w' := by
  obtain ⟨a, c, rfl, hc, hm⟩ := hl.slice
  have hb := below_box w (.cells #[.slice a l.length c, .slice a2 n2 c2] 25)
  obtain ⟨t0, _⟩ := box2_cells w (.slice a l.length c) (.slice a2 n2 c2) 25
  have HL : Hid (RowAt .string (w.alloc (.cells #[.slice a l.length c, .slice a2 n2 c2] 25)) (.slice a l.length c) l) := hl.keep hb (Nat.le_refl _)
  have HB : Hid (Below w.heap.size w (w.alloc (.cells #[.slice a l.length c, .slice a2 n2 c2] 25))) := hb
  clear hl hb
  go_enter Tryz.func47, Tryz.ntmps47
  go_wp2
  go_loopw [5] (fun vi wr => ∃ i : Nat, vi = .int .i64 i ∧ i ≤ l.length ∧ wr = w.alloc (.cells #[.slice a l.length c, .slice a2 n2 c2] 25) ∧ ∀ j (hj : j < l.length), j < i → l[j] ≠ x) (fun vi _ => l.length - (intOf vi).toNat)
  case atStart => exact ⟨0, rfl, Nat.zero_le _, rfl, fun j _ hj => absurd hj (by omega)⟩
  case round =>
    obtain ⟨i, rfl, hi, hwr, hall⟩ := hrel
    subst hwr
    have HA : Hid (∀ j (hj : j < l.length), j < i → l[j] ≠ x) := hall
    clear hall
    by_cases hlt : i < l.length
    · obtain ⟨b, o, rfl, hbl, hcell⟩ := HL.out.nth hlt
      by_cases e : l[i] = x
      · have HP : Hid (plL l x = i) := plL_at hlt HA.out e
        have e' : (l[i].toList == x.toList) = true := by rw [e]; simp
        clear e
        go_wp2
        go_ret
        exact ⟨ret_i64 HP.out.symm, HB.out⟩
      · have HN : Hid (∀ j (hj : j < l.length), j < i + 1 → l[j] ≠ x) := fun j hj hji => by
          by_cases ej : j = i
          · subst ej; exact e
          · exact HA.out j hj (by omega)
        have e' : (l[i].toList == x.toList) = false := by rw [beq_eq_false_iff_ne]; exact fun h => e (ba_toList_inj.1 h)
        clear e
        go_wp2
        go_roundw
        case rel => exact ⟨i + 1, by go_num, by omega, trivial, HN.out⟩
        case measure => simp [intOf]; omega
    · have HP : Hid (plL l x = -1) := plL_no (fun j hj => HA.out j hj (by omega))
      go_wp2
      go_ret
      exact ⟨ret_i64 HP.out.symm, HB.out⟩
theorem rat_any (g : Sg) (x : ByteArray) (vn vw : Value) (w : World) (hg : SgAt w g vn vw) :
    Calls Tryz.prog 47 #[gval vn vw, .string x] w fun e w' => e = .returned (.int .i64 (g.pl x)) ∧ Below w.heap.size w w' := by
  obtain ⟨a2, c2, rfl, _, _⟩ := hg.ws.slice
  exact rat_row g.ns x vn a2 _ c2 w hg.ns
end Go.Proofs.YtglphfhlpobgcaaGreat
