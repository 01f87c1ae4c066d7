import Derived.Test.YtglphfhlpobgcaaGreatC
import Derived.Test.YtglphfhlpobgcaaGreatL
import Derived.Test.YtglphfhlpobgcaaGreatQF
namespace Go.Proofs.YtglphfhlpobgcaaGreat
set_option maxRecDepth 100000
set_option maxHeartbeats 16000000
open Go.RowKit
def SameAt (x : T) : Prop := ∀ (y : T) (sx sy : Value) (w : World), ArgsAt w sx x.args -> ArgsAt w sy y.args ->
  Calls Tryz.prog 66 #[tval x sx, tval y sy] w fun e w' => e = .returned (.bool (same x y)) ∧ Below w.heap.size w w'
open Classical in
noncomputable def sames (l m : List T) : Bool := decide (l = m)
theorem sames_iff {x y : List T} : sames x y = true ↔ x = y := by simp [sames]
theorem sames_false {x y : List T} : sames x y = false ↔ x ≠ y := by simp [sames]
theorem eqf_len (l m : List T) (a b : Option Addr) (c d : Nat) (f : Value) (w : World) (h : l.length ≠ m.length) :
  Calls Tryz.prog 106 #[.slice a l.length c, .slice b m.length d, f] w fun e w' => e = .returned (.bool (sames l m)) ∧ Below w.heap.size w w' := by
 have HS : Hid (sames l m = false) := sames_false.2 fun e => h (by rw [e])
 have h3 : ((l.length : Int) != (m.length : Int)) = true := by rw [bne_iff_ne]; omega
 clear h
 go_enter Tryz.func106, Tryz.ntmps106
 go_wp2
 go_ret
 exact ⟨ret_bool (by rw [HS]), Below.refl _ _⟩
theorem eqf_loop (l m : List T) (ih : ∀ a ∈ l, SameAt a) (a b : Option Addr) (c d : Nat) (w : World) (ha : ArgsAt w (.slice a l.length c) l) (hb : ArgsAt w (.slice b m.length d) m) (hc : l.length <= 9223372036854775807) (h : l.length = m.length) :
  Calls Tryz.prog 106 #[.slice a l.length c, .slice b m.length d, .func (.func 66) #[] #[]] w fun e w' => e = .returned (.bool (sames l m)) ∧ Below w.heap.size w w' := by
 have HE : Hid (l.length = m.length) := h
 have h3 : ((l.length : Int) != (m.length : Int)) = false := by rw [bne_eq_false_iff_eq]; omega
 clear h
 go_enter Tryz.func106, Tryz.ntmps106
 go_wp2
 go_loopw [17] (fun i wr => ∃ k : Nat, k <= l.length ∧ i = .int .i64 k ∧ Hid (l.take k = m.take k) ∧ Below w.heap.size w wr) (fun i _ => l.length - (intOf i).toNat)
 case atStart => exact ⟨0, Nat.zero_le _, rfl, rfl, Below.refl _ _⟩
 case round =>
  obtain ⟨k, hk, rfl, hall, hw⟩ := hrel
  have haw := ArgsAt.keep hw (Nat.le_refl _) ha
  have hbw := ArgsAt.keep hw (Nat.le_refl _) hb
  by_cases hlt : k < l.length
  ·have hlt' : k < m.length := HE ▸ hlt
   obtain ⟨ba, oa, s, rfl, hba, a0, a1, a2, hs⟩ := haw.nth hlt
   obtain ⟨bb, ob, s', rfl, hbb, b0, b1, b2, hs'⟩ := hbw.nth hlt'
   obtain ⟨aa, cs, rfl, _, _⟩ := hs.slice
   obtain ⟨aa', cs', rfl, _, _⟩ := hs'.slice
   have hbx : Below wr.heap.size wr (tbox2 wr l[k] (.slice aa l[k].args.length cs) m[k] (.slice aa' m[k].args.length cs')) := below_box2 wr _ _
   have ih' := (ih l[k] (List.getElem_mem hlt) m[k] _ _ _ (ArgsAt.keep hbx (Nat.le_refl _) hs) (ArgsAt.keep hbx (Nat.le_refl _) hs')).mono (R' := fun e w' => e = .returned (.bool (same l[k] m[k])) ∧ Below w.heap.size w w') (fun e w' h => ⟨h.1, hw.trans ((hbx.trans (h.2.mono (by simp; omega))).mono hw.size)⟩)
   have b0' := kc (below_box wr (tbox l[k] (.slice aa l[k].args.length cs))) hbb b0
   have b1' := kc (below_box wr (tbox l[k] (.slice aa l[k].args.length cs))) hbb b1
   have b2' := kc (below_box wr (tbox l[k] (.slice aa l[k].args.length cs))) hbb b2
   clear ih ha hb haw hbw hbx hs hs'
   cases hsh : same l[k] m[k]
   ·rw [hsh] at ih'
    have Hf : Hid (sames l m = false) := by
     refine sames_false.2 fun e => same_false.1 hsh ?_
     subst e
     rfl
    clear hsh
    go_wp2_with (go_at_call 66; refine ih'.mono ?_; rintro e w' ⟨rfl, hb'⟩)
    go_ret
    exact ⟨ret_bool (by rw [Hf]), hb'⟩
   ·rw [hsh] at ih'
    have Hf : Hid (l.take (k + 1) = m.take (k + 1)) := list_take_eq HE hlt hall (same_iff.1 hsh)
    clear hsh
    go_wp2_with (go_at_call 66; refine ih'.mono ?_; rintro e w' ⟨rfl, hb'⟩)
    go_roundw
    case rel => exact ⟨k + 1, by omega, by go_num, Hf, hb'⟩
    case measure => simp [intOf]; omega
  ·have Hf : Hid (sames l m = true) := by
    refine sames_iff.2 ?_
    have hall' : l.take k = m.take k := hall
    have hl : l.length = m.length := HE
    rw [List.take_of_length_le (by omega), List.take_of_length_le (by omega)] at hall'
    exact hall'
   go_wp2
   go_ret
   exact ⟨ret_bool (by rw [Hf]), hw⟩
theorem eqf_any (l m : List T) (ih : ∀ a ∈ l, SameAt a) (sl sm : Value) (w : World) (ha : ArgsAt w sl l) (hb : ArgsAt w sm m) :
  Calls Tryz.prog 106 #[sl, sm, .func (.func 66) #[] #[]] w fun e w' => e = .returned (.bool (sames l m)) ∧ Below w.heap.size w w' := by
 obtain ⟨a, c, rfl, hc, hm⟩ := ha.slice
 obtain ⟨b, d, rfl, hd, hm'⟩ := hb.slice
 by_cases hl : l.length = m.length
 ·exact eqf_loop l m ih a b c d w ha hb (by omega) hl
 ·exact eqf_len l m a b c d _ w hl
theorem same_of {x y : T} (h1 : x.v = y.v) (h2 : x.fn = y.fn) : same x y = sames x.args y.args := by
 cases h : sames x.args y.args
 ·rw [same_false]
  intro e
  rw [sames_false] at h
  exact h (by rw [e])
 ·exact same_iff.2 (same_ext h1 h2 (sames_iff.1 h))
theorem tsame_no (x y : T) (a b : Option Addr) (n c m d : Nat) (w : World) (h : x.v ≠ y.v ∨ x.fn ≠ y.fn) :
  Calls Tryz.prog 66 #[tval x (.slice a n c), tval y (.slice b m d)] w fun e w' => e = .returned (.bool (same x y)) ∧ Below w.heap.size w w' := by
 have HS : Hid (same x y = false) := same_false.2 fun e => by rcases h with h | h <;> exact h (by rw [e])
 by_cases hv : x.v = y.v
 ·have h1 : (x.v == y.v) = true := by simpa using hv
  have h2 : ¬ x.fn.toList = y.fn.toList := fun e => by
   rcases h with h | h
   ·exact h hv
   ·exact h (ba_toList_inj.1 e)
  clear h hv
  go_enter Tryz.func66, Tryz.ntmps66
  go_wp2
  go_ret
  exact ⟨ret_bool (by rw [HS]), below_box2 w _ _⟩
 ·have h1 : (x.v == y.v) = false := by simpa using hv
  clear h hv
  go_enter Tryz.func66, Tryz.ntmps66
  go_wp2
  go_ret
  exact ⟨ret_bool (by rw [HS]), below_box2 w _ _⟩
theorem tsame_yes (x y : T) (ih : ∀ a ∈ x.args, SameAt a) (a b : Option Addr) (c d : Nat) (w : World) (ha : ArgsAt w (.slice a x.args.length c) x.args) (hb : ArgsAt w (.slice b y.args.length d) y.args) (hv : x.v = y.v) (hf : x.fn = y.fn) :
  Calls Tryz.prog 66 #[tval x (.slice a x.args.length c), tval y (.slice b y.args.length d)] w fun e w' => e = .returned (.bool (same x y)) ∧ Below w.heap.size w w' := by
 have HS : Hid (same x y = sames x.args y.args) := same_of hv hf
 have h1 : (x.v == y.v) = true := by simpa using hv
 have h2 : x.fn.toList = y.fn.toList := ba_toList_inj.2 hf
 clear hv hf
 have hbx : Below w.heap.size w (tbox2 w x (.slice a x.args.length c) y (.slice b y.args.length d)) := below_box2 w _ _
 have ih' := (eqf_any x.args y.args ih _ _ _ (ArgsAt.keep hbx (Nat.le_refl _) ha) (ArgsAt.keep hbx (Nat.le_refl _) hb)).mono (R' := fun e w' => e = .returned (.bool (sames x.args y.args)) ∧ Below w.heap.size w w') (fun e w' h => ⟨h.1, hbx.trans (h.2.mono (by simp; omega))⟩)
 clear ih ha hb hbx
 go_enter Tryz.func66, Tryz.ntmps66
 go_wp2_with (go_at_call 106; refine ih'.mono ?_; rintro e w' ⟨rfl, hb'⟩)
 go_ret
 exact ⟨ret_bool (by rw [HS]), hb'⟩
theorem tsame_any (x : T) : SameAt x := by
 induction x using T.ind with
 | _ x ih =>
  intro y sx sy w hx hy
  obtain ⟨a, c, rfl, hc, hm⟩ := hx.slice
  obtain ⟨b, d, rfl, hd, hm'⟩ := hy.slice
  by_cases h : x.v ≠ y.v ∨ x.fn ≠ y.fn
  ·exact tsame_no x y a b _ c _ d w h
  ·refine tsame_yes x y ih a b c d w hx hy ?_ ?_
   ·exact Classical.not_not.1 fun e => h (.inl e)
   ·exact Classical.not_not.1 fun e => h (.inr e)
structure Lt where
 neg : Bool
 l : T
 r : T
abbrev lval (x : Lt) (sl sr : Value) : Value := .agg #[.bool x.neg, .int .i64 x.l.v, .string x.l.fn, sl, .int .i64 x.r.v, .string x.r.fn, sr]
abbrev lbox (x : Lt) (sl sr : Value) : Obj := .cells #[.bool x.neg, .int .i64 x.l.v, .string x.l.fn, sl, .int .i64 x.r.v, .string x.r.fn, sr] 32
structure LitAt (W : World) (b o : Nat) (x : Lt) (sl sr : Value) : Prop where
 lt : b < W.heap.size
 c0 : W.cell? ⟨b, o, none⟩ = some (.bool x.neg)
 c1 : W.cell? ⟨b, o + 1, none⟩ = some (.int .i64 x.l.v)
 c2 : W.cell? ⟨b, o + 2, none⟩ = some (.string x.l.fn)
 c3 : W.cell? ⟨b, o + 3, none⟩ = some sl
 c4 : W.cell? ⟨b, o + 4, none⟩ = some (.int .i64 x.r.v)
 c5 : W.cell? ⟨b, o + 5, none⟩ = some (.string x.r.fn)
 c6 : W.cell? ⟨b, o + 6, none⟩ = some sr
 al : ArgsAt W sl x.l.args
 ar : ArgsAt W sr x.r.args
theorem LitAt.keep {W W' : World} {b o : Nat} {x : Lt} {sl sr : Value} (h : LitAt W b o x sl sr) (hb : Below W.heap.size W W') : LitAt W' b o x sl sr :=
 ⟨Nat.lt_of_lt_of_le h.lt hb.size, kc hb h.lt h.c0, kc hb h.lt h.c1, kc hb h.lt h.c2, kc hb h.lt h.c3, kc hb h.lt h.c4, kc hb h.lt h.c5, kc hb h.lt h.c6, ArgsAt.keep hb (Nat.le_refl _) h.al, ArgsAt.keep hb (Nat.le_refl _) h.ar⟩
def ClauseAt (W : World) (v : Value) (l : List Lt) : Prop :=
 ∃ a c, v = .slice a l.length c ∧ l.length <= c ∧ c <= 9223372036854775807 ∧ (0 < l.length -> ∃ b o, a = some ⟨b, o, none⟩ ∧ ∀ i (h : i < l.length), ∃ sl sr, LitAt W b (o + i * 7) l[i] sl sr)
theorem ClauseAt.keep {W W' : World} {v : Value} {l : List Lt} (h : ClauseAt W v l) (hb : Below W.heap.size W W') : ClauseAt W' v l := by
 obtain ⟨a, c, rfl, h1, h2, h3⟩ := h
 refine ⟨a, c, rfl, h1, h2, fun h0 => ?_⟩
 obtain ⟨b, o, rfl, h4⟩ := h3 h0
 exact ⟨b, o, rfl, fun i hi => by obtain ⟨sl, sr, hs⟩ := h4 i hi; exact ⟨sl, sr, hs.keep hb⟩⟩
theorem ClauseAt.slice {W : World} {v : Value} {l : List Lt} (h : ClauseAt W v l) : ∃ a c, v = .slice a l.length c := by
 obtain ⟨a, c, rfl, _⟩ := h
 exact ⟨a, c, rfl⟩
theorem ClauseAt.nth {W : World} {a : Option Addr} {c n : Nat} {l : List Lt} (h : ClauseAt W (.slice a n c) l) {i : Nat} (hi : i < l.length) : ∃ b o sl sr, a = some ⟨b, o, none⟩ ∧ LitAt W b (o + i * 7) l[i] sl sr := by
 obtain ⟨a', c', e, h1, h2, h3⟩ := h
 cases e
 obtain ⟨b, o, rfl, h4⟩ := h3 (by omega)
 obtain ⟨sl, sr, hs⟩ := h4 i hi
 exact ⟨b, o, sl, sr, rfl, hs⟩
theorem ClauseAt.len {W : World} {v : Value} {l : List Lt} (h : ClauseAt W v l) : l.length <= 9223372036854775807 := by
 obtain ⟨a, c, rfl, h1, h2, _⟩ := h
 omega
theorem lbox_at (w : World) (x : Lt) (sl sr : Value) (hl : ArgsAt w sl x.l.args) (hr : ArgsAt w sr x.r.args) : LitAt (w.alloc (lbox x sl sr)) w.heap.size 0 x sl sr := by
 have h : (w.alloc (lbox x sl sr)).heap[w.heap.size]? = some (.cells [Value.bool x.neg, .int .i64 x.l.v, .string x.l.fn, sl, .int .i64 x.r.v, .string x.r.fn, sr].toArray 32 (0, 0)) := (MapKept.heap_alloc w (lbox x sl sr)).1
 refine ⟨by simp, ?_, ?_, ?_, ?_, ?_, ?_, ?_, ArgsAt.keep (below_box w _) (Nat.le_refl _) hl, ArgsAt.keep (below_box w _) (Nat.le_refl _) hr⟩ <;> rw [cell_of_row _ _ _ _ 32 (0, 0) h] <;> rfl
theorem LitAt.zero {X : World} {g : Nat} {x : Lt} {a b : Value} (h : LitAt X g 0 x a b) : X.cell? ⟨g, 0, none⟩ = some (.bool x.neg) ∧ X.cell? ⟨g, 1, none⟩ = some (.int .i64 x.l.v) ∧ X.cell? ⟨g, 2, none⟩ = some (.string x.l.fn) ∧ X.cell? ⟨g, 3, none⟩ = some a ∧ X.cell? ⟨g, 4, none⟩ = some (.int .i64 x.r.v) ∧ X.cell? ⟨g, 5, none⟩ = some (.string x.r.fn) ∧ X.cell? ⟨g, 6, none⟩ = some b :=
 ⟨h.c0, h.c1, h.c2, h.c3, h.c4, h.c5, h.c6⟩
structure TwoL (w : World) (x : Lt) (a b : Value) (y : Lt) (c d : Value) (X : World) : Prop where
 lx : LitAt X w.heap.size 0 x a b
 ly : LitAt X (w.heap.size + 1) 0 y c d
 bel : Below w.heap.size w X
def Serves (S : World -> Prop) (f : Nat) (args : Array Value) (r : Value) : Prop :=
 ∀ X, S X -> Calls Tryz.prog f args X fun e X' => e = .returned r ∧ S X'
section
variable {w : World} {x y : Lt} {a b c d : Value}
theorem TwoL.keep {X X' : World} (h : TwoL w x a b y c d X) (hb : Below X.heap.size X X') : TwoL w x a b y c d X' :=
 ⟨h.lx.keep hb, h.ly.keep hb, h.bel.trans (hb.mono h.bel.size)⟩
theorem TwoL.new (hxl : ArgsAt w a x.l.args) (hxr : ArgsAt w b x.r.args) (hyl : ArgsAt w c y.l.args) (hyr : ArgsAt w d y.r.args) : TwoL w x a b y c d ((w.alloc (lbox x a b)).alloc (lbox y c d)) := by
 have b1 := below_box w (lbox x a b)
 have k := fun {s l} (h : ArgsAt w s l) => ArgsAt.keep b1 (Nat.le_refl _) h
 have h2 := lbox_at (w.alloc (lbox x a b)) y c d (k hyl) (k hyr)
 rw [World.size_alloc] at h2
 exact ⟨(lbox_at w x a b hxl hxr).keep (below_box _ _), h2, below_box2 w _ _⟩
theorem TwoL.serves {f : Nat} {args : Array Value} {r : Value} (h : ∀ X, TwoL w x a b y c d X -> Calls Tryz.prog f args X fun e X' => e = .returned r ∧ Below X.heap.size X X') : Serves (TwoL w x a b y c d) f args r :=
 fun X hX => (h X hX).mono fun _ _ ⟨he, hb⟩ => ⟨he, hX.keep hb⟩
end
noncomputable def lsides (x y : Lt) : Bool := same x.l y.l && same x.r y.r || same x.l y.r && same x.r y.l
noncomputable def lsame (x y : Lt) : Bool := (x.neg == y.neg) && lsides x y
theorem sides_any (x y : Lt) (a b c d : Value) (w : World) (hxl : ArgsAt w a x.l.args) (hxr : ArgsAt w b x.r.args) (hyl : ArgsAt w c y.l.args) (hyr : ArgsAt w d y.r.args) :
  Calls Tryz.prog 73 #[lval x a b, lval y c d] w fun e w' => e = .returned (.bool (lsides x y)) ∧ Below w.heap.size w w' := by
 have hS0 := TwoL.new hxl hxr hyl hyr
 have hLL : Serves (TwoL w x a b y c d) 66 #[tval x.l a, tval y.l c] (.bool (same x.l y.l)) := TwoL.serves fun X hX => tsame_any x.l y.l _ _ X hX.lx.al hX.ly.al
 have hRR : Serves (TwoL w x a b y c d) 66 #[tval x.r b, tval y.r d] (.bool (same x.r y.r)) := TwoL.serves fun X hX => tsame_any x.r y.r _ _ X hX.lx.ar hX.ly.ar
 have hLR : Serves (TwoL w x a b y c d) 66 #[tval x.l a, tval y.r d] (.bool (same x.l y.r)) := TwoL.serves fun X hX => tsame_any x.l y.r _ _ X hX.lx.al hX.ly.ar
 have hRL : Serves (TwoL w x a b y c d) 66 #[tval x.r b, tval y.l c] (.bool (same x.r y.l)) := TwoL.serves fun X hX => tsame_any x.r y.l _ _ X hX.lx.ar hX.ly.al
 have hC := fun X (h : TwoL w x a b y c d X) => And.intro h.lx.zero h.ly.zero
 have hbl := fun X (h : TwoL w x a b y c d X) => h.bel
 obtain ⟨_, _, rfl, _⟩ := hxl.slice
 obtain ⟨_, _, rfl, _⟩ := hxr.slice
 obtain ⟨_, _, rfl, _⟩ := hyl.slice
 obtain ⟨_, _, rfl, _⟩ := hyr.slice
 generalize hS : TwoL w x _ _ y _ _ = S at *
 clear hS hxl hxr hyl hyr
 have HE : Hid (lsides x y = (same x.l y.l && same x.r y.r || same x.l y.r && same x.r y.l)) := rfl
 generalize same x.l y.l = p at *
 generalize same x.r y.r = q at *
 generalize same x.l y.r = r at *
 generalize same x.r y.l = s at *
 obtain ⟨⟨a0, a1, a2, a3, a4, a5, a6⟩, b0, b1, b2, b3, b4, b5, b6⟩ := hC _ hS0
 cases p with
 | true =>
  cases q with
  | true =>
   go_enter Tryz.func73, Tryz.ntmps73
   go_wp2_with (first
    | (go_at_call 66; refine (hRR _ H1).mono ?_; rintro e W2 ⟨rfl, H2⟩)
    | (go_at_call 66; refine (hLL _ hS0).mono ?_; rintro e W1 ⟨rfl, H1⟩; obtain ⟨⟨a10, a11, a12, a13, a14, a15, a16⟩, b10, b11, b12, b13, b14, b15, b16⟩ := hC _ H1))
   go_ret
   exact ⟨ret_bool (by rw [HE.out]; simp), hbl _ H2⟩
  | false =>
   cases r with
   | false =>
    go_enter Tryz.func73, Tryz.ntmps73
    go_wp2_with (first
     | (go_at_call 66; refine (hLR _ H2).mono ?_; rintro e W3 ⟨rfl, H3⟩)
     | (go_at_call 66; refine (hRR _ H1).mono ?_; rintro e W2 ⟨rfl, H2⟩; obtain ⟨⟨a20, a21, a22, a23, a24, a25, a26⟩, b20, b21, b22, b23, b24, b25, b26⟩ := hC _ H2)
     | (go_at_call 66; refine (hLL _ hS0).mono ?_; rintro e W1 ⟨rfl, H1⟩; obtain ⟨⟨a10, a11, a12, a13, a14, a15, a16⟩, b10, b11, b12, b13, b14, b15, b16⟩ := hC _ H1))
    go_ret
    exact ⟨ret_bool (by rw [HE.out]; simp), hbl _ H3⟩
   | true =>
    go_enter Tryz.func73, Tryz.ntmps73
    go_wp2_with (first
     | (go_at_call 66; refine (hRL _ H3).mono ?_; rintro e W4 ⟨rfl, H4⟩)
     | (go_at_call 66; refine (hLR _ H2).mono ?_; rintro e W3 ⟨rfl, H3⟩; obtain ⟨⟨a30, a31, a32, a33, a34, a35, a36⟩, b30, b31, b32, b33, b34, b35, b36⟩ := hC _ H3)
     | (go_at_call 66; refine (hRR _ H1).mono ?_; rintro e W2 ⟨rfl, H2⟩; obtain ⟨⟨a20, a21, a22, a23, a24, a25, a26⟩, b20, b21, b22, b23, b24, b25, b26⟩ := hC _ H2)
     | (go_at_call 66; refine (hLL _ hS0).mono ?_; rintro e W1 ⟨rfl, H1⟩; obtain ⟨⟨a10, a11, a12, a13, a14, a15, a16⟩, b10, b11, b12, b13, b14, b15, b16⟩ := hC _ H1))
    go_ret
    exact ⟨ret_bool (by rw [HE.out]; simp), hbl _ H4⟩
 | false =>
  cases r with
  | false =>
   go_enter Tryz.func73, Tryz.ntmps73
   go_wp2_with (first
    | (go_at_call 66; refine (hLR _ H1).mono ?_; rintro e W3 ⟨rfl, H3⟩)
    | (go_at_call 66; refine (hLL _ hS0).mono ?_; rintro e W1 ⟨rfl, H1⟩; obtain ⟨⟨a10, a11, a12, a13, a14, a15, a16⟩, b10, b11, b12, b13, b14, b15, b16⟩ := hC _ H1))
   go_ret
   exact ⟨ret_bool (by rw [HE.out]; simp), hbl _ H3⟩
  | true =>
   go_enter Tryz.func73, Tryz.ntmps73
   go_wp2_with (first
    | (go_at_call 66; refine (hRL _ H3).mono ?_; rintro e W4 ⟨rfl, H4⟩)
    | (go_at_call 66; refine (hLR _ H1).mono ?_; rintro e W3 ⟨rfl, H3⟩; obtain ⟨⟨a30, a31, a32, a33, a34, a35, a36⟩, b30, b31, b32, b33, b34, b35, b36⟩ := hC _ H3)
    | (go_at_call 66; refine (hLL _ hS0).mono ?_; rintro e W1 ⟨rfl, H1⟩; obtain ⟨⟨a10, a11, a12, a13, a14, a15, a16⟩, b10, b11, b12, b13, b14, b15, b16⟩ := hC _ H1))
   go_ret
   exact ⟨ret_bool (by rw [HE.out]; simp), hbl _ H4⟩
theorem lsame_any (x y : Lt) (a b c d : Value) (w : World) (hxl : ArgsAt w a x.l.args) (hxr : ArgsAt w b x.r.args) (hyl : ArgsAt w c y.l.args) (hyr : ArgsAt w d y.r.args) :
  Calls Tryz.prog 40 #[lval x a b, lval y c d] w fun e w' => e = .returned (.bool (lsame x y)) ∧ Below w.heap.size w w' := by
 have hS0 := TwoL.new hxl hxr hyl hyr
 have hss : Serves (TwoL w x a b y c d) 73 #[lval x a b, lval y c d] (.bool (lsides x y)) := TwoL.serves fun X hX => sides_any x y a b c d X hX.lx.al hX.lx.ar hX.ly.al hX.ly.ar
 have hC := fun X (h : TwoL w x a b y c d X) => And.intro h.lx.zero h.ly.zero
 have hbl := fun X (h : TwoL w x a b y c d X) => h.bel
 obtain ⟨_, _, rfl, _⟩ := hxl.slice
 obtain ⟨_, _, rfl, _⟩ := hxr.slice
 obtain ⟨_, _, rfl, _⟩ := hyl.slice
 obtain ⟨_, _, rfl, _⟩ := hyr.slice
 generalize hS : TwoL w x _ _ y _ _ = S at *
 clear hS hxl hxr hyl hyr
 have HE : Hid (lsame x y = ((x.neg == y.neg) && lsides x y)) := rfl
 generalize lsides x y = p at *
 obtain ⟨⟨a0, a1, a2, a3, a4, a5, a6⟩, b0, b1, b2, b3, b4, b5, b6⟩ := hC _ hS0
 obtain ⟨n1, xl, xr⟩ := x
 obtain ⟨n2, yl, yr⟩ := y
 simp only at *
 cases n1 <;> cases n2 <;> (
  go_enter Tryz.func40, Tryz.ntmps40
  go_wp2_with (go_at_call 73; refine (hss _ hS0).mono ?_; rintro e W1 ⟨rfl, H1⟩)
  go_ret
  exact ⟨ret_bool (by rw [HE.out]; rfl), by first | exact hbl _ H1 | exact hbl _ hS0⟩)
end Go.Proofs.YtglphfhlpobgcaaGreat
