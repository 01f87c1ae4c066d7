import Derived.Test.YtglphfhlpobgcaaGreatYL
import Derived.Test.YtglphfhlpobgcaaGreatMF
import Derived.Test.YtglphfhlpobgcaaGreatKE
import Derived.Test.YtglphfhlpobgcaaGreatRB
namespace Go.Proofs.YtglphfhlpobgcaaGreat
set_option maxRecDepth 100000
set_option maxHeartbeats 8000000
open Go.RowKit Go.Maps
def CsC (W : World) (b o : Nat) (p : (List Lt × Value)) : Prop := W.cell? ⟨b, o, none⟩ = some p.2
theorem CsC.keep {W W' : World} {n b o : Nat} {p : (List Lt × Value)} (h : CsC W b o p) (hb : Below n W W') (hl : b < n) : CsC W' b o p := by
 exact kc hb hl h
def OkC (w0 : World) (p : (List Lt × Value)) : Prop := ClauseAt w0 p.2 p.1 ∧ ∀ x ∈ p.1, x.l.size <= 1048576 ∧ x.r.size <= 1048576
theorem OkC.keep {w0 w1 : World} {p : (List Lt × Value)} (h : OkC w0 p) (hb : Below w0.heap.size w0 w1) : OkC w1 p := ⟨h.1.keep hb, h.2⟩
structure RdC (w0 W : World) (v : Value) (ps : List (List Lt × Value)) : Prop where
 sl : ∃ a c, v = .slice a ps.length c ∧ ps.length <= c ∧ c <= 9223372036854775807 ∧ ∀ i (h : i < ps.length), ∃ b o, a = some ⟨b, o, none⟩ ∧ b < W.heap.size ∧ CsC W b (o + i * 1) ps[i]
 ok : ∀ p ∈ ps, OkC w0 p
theorem RdC.keep {w0 W W' : World} {v : Value} {ps : List (List Lt × Value)} (h : RdC w0 W v ps) (hb : Below W.heap.size W W') : RdC w0 W' v ps := by
 obtain ⟨⟨a, c, e, h1, h2, h3⟩, ok⟩ := h
 refine ⟨⟨a, c, e, h1, h2, fun i hi => ?_⟩, ok⟩
 obtain ⟨b, o, e, hl, hc⟩ := h3 i hi
 exact ⟨b, o, e, Nat.lt_of_lt_of_le hl hb.size, hc.keep hb hl⟩
theorem RdC.base {w0 w1 W : World} {v : Value} {ps : List (List Lt × Value)} (h : RdC w0 W v ps) (hb : Below w0.heap.size w0 w1) : RdC w1 W v ps := ⟨h.sl, fun p hp => (h.ok p hp).keep hb⟩
theorem RdC.slice {w0 W : World} {v : Value} {ps : List (List Lt × Value)} (h : RdC w0 W v ps) : ∃ a c, v = .slice a ps.length c ∧ ps.length <= c ∧ c <= 9223372036854775807 := by
 obtain ⟨⟨a, c, e, h1, h2, _⟩, _⟩ := h
 exact ⟨a, c, e, h1, h2⟩
theorem RdC.nth {w0 W : World} {a : Option Addr} {n c : Nat} {ps : List (List Lt × Value)} (h : RdC w0 W (.slice a n c) ps) {i : Nat} (hi : i < ps.length) : ∃ b o, a = some ⟨b, o, none⟩ ∧ b < W.heap.size ∧ CsC W b (o + i * 1) ps[i] ∧ OkC w0 ps[i] := by
 obtain ⟨⟨a', c', e, h1, h2, h3⟩, ok⟩ := h
 injection e with e1 e2 e3
 subst e1
 obtain ⟨b, o, e, hl, hc⟩ := h3 i hi
 exact ⟨b, o, e, hl, hc, ok _ (List.getElem_mem hi)⟩
theorem rdC_nil (w0 W : World) : RdC w0 W (.slice none 0 0) [] := ⟨⟨none, 0, rfl, Nat.le_refl _, by omega, fun i h => absurd h (by simp)⟩, by simp⟩
def flC (ps : List (List Lt × Value)) : List Value := ps.flatMap fun p => [p.2]
theorem flC_len (ps : List (List Lt × Value)) : (flC ps).length = ps.length * 1 := by
 induction ps with
 | nil => rfl
 | cons p r ih => simp only [flC, List.flatMap_cons, List.length_append, List.length_cons, List.length_nil] at ih ⊢; omega
theorem flC_app (a b : List (List Lt × Value)) : flC (a ++ b) = flC a ++ flC b := by simp [flC]
theorem flC_one (p : (List Lt × Value)) : flC [p] = [p.2] := by simp [flC]
theorem flC_drop (ps : List (List Lt × Value)) (i : Nat) : (flC ps).drop (i * 1) = flC (ps.drop i) := by
 by_cases h : i <= ps.length
 ·have e : ps = ps.take i ++ ps.drop i := (List.take_append_drop i ps).symm
  have hl : (flC (ps.take i)).length = i * 1 := by rw [flC_len, List.length_take, Nat.min_eq_left h]
  conv => lhs; rw [e, flC_app, <- hl]
  rw [List.drop_left]
 ·rw [List.drop_eq_nil_of_le (by rw [flC_len]; omega), List.drop_eq_nil_of_le (by omega)]
  rfl
theorem flC_get (ps : List (List Lt × Value)) (i : Nat) (h : i < ps.length) (j : Nat) (hj : j < 1) : (flC ps)[i * 1 + j]? = (flC [ps[i]])[j]? := by
 rw [<- List.getElem?_drop, flC_drop, List.drop_eq_getElem_cons h, show ps[i] :: ps.drop (i + 1) = [ps[i]] ++ ps.drop (i + 1) from rfl, flC_app, List.getElem?_append_left (by rw [flC_len]; simpa using hj)]
theorem csC_of {W : World} {b off : Nat} {ps : List (List Lt × Value)} (h : ∀ j u, (flC ps)[j]? = some u -> W.cell? ⟨b, off + j, none⟩ = some u) {i : Nat} (hi : i < ps.length) : CsC W b (off + i * 1) ps[i] := by
 have hc : ∀ j u, j < 1 -> (flC [ps[i]])[j]? = some u -> W.cell? ⟨b, off + i * 1 + j, none⟩ = some u := fun j u hj hu => by
  rw [Nat.add_assoc]; exact h _ _ ((flC_get ps i hi j hj).trans hu)
 rw [flC_one] at hc
 have := hc 0 _ (by omega) rfl
 simpa [CsC] using this
theorem rdC_of_row {w0 W : World} {base : Nat} {v : Value} {ps : List (List Lt × Value)} (h : W.ownsRow base 35 1 v ps.length (flC ps)) (ok : ∀ p ∈ ps, OkC w0 p) : RdC w0 W v ps := by
 obtain ⟨hl, ⟨e, h0⟩ | ⟨g, cap, cur, e, hb, hg, hc, hm, hsz, ht⟩⟩ := h
 ·have : ps = [] := List.eq_nil_of_length_eq_zero h0
  subst this
  rw [e]
  exact rdC_nil w0 W
 ·refine ⟨⟨_, cap, e, hc, by unfold maxLen at hm; omega, fun i hi => ⟨g, 0, rfl, (Array.getElem?_eq_some_iff.1 hg).1, ?_⟩⟩, ok⟩
  refine csC_of (fun j u hj => ?_) hi
  have hjl : j < ps.length * 1 := by have := (List.getElem?_eq_some_iff.1 hj).1; rwa [flC_len] at this
  rw [<- ht, List.getElem?_take, if_pos hjl] at hj
  rw [Nat.zero_add, cell_of_row _ _ _ _ 35 (0, 0) hg, <- hj]
  simp
def PrC (w0 W0 : World) (g : Nat) (lb : Array Value) (P : (List Lt × Value) -> Bool) : Prop :=
 ∀ (p : (List Lt × Value)) (W : World), OkC w0 p -> Below W0.heap.size W0 W -> Calls Tryz.prog g (#[p.2] ++ lb) W fun e W' => e = .returned (.bool (P p)) ∧ Below W.heap.size W W'
theorem indexC_any (w0 W0 : World) (g : Nat) (lb : Array Value) (P : (List Lt × Value) -> Bool) (eg : ∀ args w, (callFunc g args).run Tryz.prog w = .ok (.enter g args) w) (hp : PrC w0 W0 g lb P) (ps : List (List Lt × Value)) (v : Value) (w : World) (hw : Below W0.heap.size W0 w) (hl : RdC w0 w v ps) :
  Calls Tryz.prog 109 #[v, .func (.func g) #[] lb] w fun e W' => e = .returned (.int .i64 (firstG P ps 0)) ∧ Below w.heap.size w W' := by
 obtain ⟨a, c, rfl, hc1, hc2⟩ := hl.slice
 have HL : Hid (RdC w0 w (.slice a ps.length c) ps) := hl
 clear hl
 go_enter Tryz.func109, Tryz.ntmps109
 go_wp2
 go_loopw [8] (fun vi wr => ∃ i : Nat, vi = .int .i64 i ∧ i <= ps.length ∧ Below w.heap.size w wr ∧ ∀ j (hj : j < ps.length), j < i -> P ps[j] = false) (fun vi _ => ps.length - (intOf vi).toNat)
 case atStart => exact ⟨0, rfl, Nat.zero_le _, Below.refl _ _, fun j _ hj => absurd hj (by omega)⟩
 case round =>
  obtain ⟨i, rfl, hi, hb, hall⟩ := hrel
  by_cases hlt : i < ps.length
  ·obtain ⟨bb, o, rfl, hlb, hcs, hok⟩ := (HL.out.keep hb).nth hlt
   have hc := hp ps[i] wr hok (hw.trans (hb.mono hw.size))
   have HF : Hid (firstG P ps 0 = if P ps[i] then (i : Int) else firstG P (ps.drop (i + 1)) (i + 1)) := by
    show _ = _
    rw [firstG_drop P ps i hi hall, List.drop_eq_getElem_cons hlt]
    rfl
   have HN : Hid (P ps[i] = false -> ∀ j (hj : j < ps.length), j < i + 1 -> P ps[j] = false) := fun h1 j hj hji => by
    by_cases e : j = i
    ·subst e; exact h1
    ·exact hall j hj (by omega)
   obtain ⟨q, hq⟩ : ∃ q, ps[i] = q := ⟨_, rfl⟩
   rw [hq] at hcs hok HF HN hc
   obtain ⟨z, hz⟩ : ∃ z, P q = z := ⟨_, rfl⟩
   rw [hz] at HF HN hc
   have HB : Hid (Below w.heap.size w wr) := hb
   clear hq hall hb hz
   obtain ⟨t, s⟩ := q
   have c0 := hcs
   simp only [CsC, Nat.mul_one] at c0
   simp only [OkC] at hok
   simp only at c0 hc
   obtain ⟨_, _, rfl⟩ := hok.1.slice
   
   clear hok hlb
   cases z
   ·have HNN : Hid (∀ j (hj : j < ps.length), j < i + 1 -> P ps[j] = false) := HN.out rfl
    clear HF HN
    go_wp2_with (first | (go_at_fn g; refine hc.mono ?_; rintro e w3 ⟨rfl, hb3⟩))
    go_roundw
    case rel => exact ⟨i + 1, by go_num, by omega, HB.out.trans (hb3.mono HB.out.size), HNN.out⟩
    case measure => simp [intOf]; omega
   ·have HG : Hid (firstG P ps 0 = i) := by show _ = _; rw [HF.out]; rfl
    clear HF HN
    go_wp2_with (first | (go_at_fn g; refine hc.mono ?_; rintro e w3 ⟨rfl, hb3⟩))
    go_ret
    exact ⟨ret_i64 HG.out.symm, HB.out.trans (hb3.mono HB.out.size)⟩
  ·have HG : Hid (firstG P ps 0 = -1) := by
    show _ = _
    rw [firstG_drop P ps i hi hall, show i = ps.length by omega, List.drop_length]
    rfl
   clear hall
   go_wp2
   go_ret
   exact ⟨ret_i64 HG.out.symm, hb⟩
theorem containsC_any (w0 W0 : World) (g : Nat) (lb : Array Value) (P : (List Lt × Value) -> Bool) (eg : ∀ args w, (callFunc g args).run Tryz.prog w = .ok (.enter g args) w) (hp : PrC w0 W0 g lb P) (ps : List (List Lt × Value)) (v : Value) (w : World) (hw : Below W0.heap.size W0 w) (hl : RdC w0 w v ps) :
  Calls Tryz.prog 70 #[v, .func (.func g) #[] lb] w fun e W' => e = .returned (.bool (ps.any P)) ∧ Below w.heap.size w W' := by
 have hi := indexC_any w0 W0 g lb P eg hp ps v w hw hl
 obtain ⟨a, c, rfl, _, _⟩ := hl.slice
 have HE : Hid (decide (firstG P ps 0 ≥ 0) = ps.any P) := firstG_any P ps 0
 generalize firstG P ps 0 = z at *
 clear hl hp hw
 go_enter Tryz.func70, Tryz.ntmps70
 go_wp2_with (first | (go_at_call 109; refine hi.mono ?_; rintro e w3 ⟨rfl, hb3⟩))
 go_ret
 exact ⟨ret_bool (by rw [<- HE.out]), hb3⟩
theorem rdL_of_clause {w : World} {v : Value} {l : List Lt} (h : ClauseAt w v l) (hs : ∀ x ∈ l, x.l.size <= 1048576 ∧ x.r.size <= 1048576) : ∃ qs : List (Lt × Value × Value), qs.map (·.1) = l ∧ RdL w w v qs := by
 obtain ⟨a, c, rfl, h1, h2, h3⟩ := h
 by_cases h0 : 0 < l.length
 ·obtain ⟨b, o, rfl, h4⟩ := h3 h0
  have h5 : ∀ i : Fin l.length, ∃ p : Value × Value, LitAt w b (o + i.1 * 7) l[i.1] p.1 p.2 := fun i => by
   obtain ⟨sl, sr, hh⟩ := h4 i.1 i.2
   exact ⟨(sl, sr), hh⟩
  obtain ⟨f, hf⟩ := Classical.axiomOfChoice h5
  have hl : (List.ofFn fun i : Fin l.length => (l[i.1], f i)).length = l.length := by simp
  refine ⟨List.ofFn fun i : Fin l.length => (l[i.1], f i), ?_, ⟨_, c, by rw [hl], by rw [hl]; exact h1, h2, fun i hi => ⟨b, o, rfl, ?_, ?_⟩⟩, fun p hp => ?_⟩
  ·apply List.ext_getElem
   ·simp
   ·intro i h1 h2
    simp
  ·exact (hf ⟨0, h0⟩).lt
  ·have hi' : i < l.length := by simpa using hi
   have := hf ⟨i, hi'⟩
   simp only [List.getElem_ofFn]
   exact ⟨this.c0, this.c1, this.c2, this.c3, this.c4, this.c5, this.c6⟩
  ·obtain ⟨i, hi, rfl⟩ := List.getElem_of_mem hp
   have hi' : i < l.length := by simpa using hi
   have := hf ⟨i, hi'⟩
   simp only [List.getElem_ofFn]
   exact ⟨⟨this.al, this.ar⟩, hs _ (List.getElem_mem hi')⟩
 ·have e : l = [] := List.eq_nil_of_length_eq_zero (by omega)
  subst e
  exact ⟨[], rfl, ⟨⟨a, c, rfl, h1, h2, fun i hi => absurd hi (by simp)⟩, by simp⟩⟩
open Classical in
noncomputable def litR (o : Od) (x y : Lt) : Int := if o.g.Ok ∧ (x.l.rightW = 0 ∧ x.r.rightW = 0) ∧ y.l.rightW = 0 ∧ y.r.rightW = 0 then lcm o x y else 2
theorem eg29 : ∀ args w, (callFunc 29 args).run Tryz.prog w = .ok (.enter 29 args) w := enters_of Tryz.func29 (by kernel_rfl) rfl
theorem wrong_any (w0 W0 : World) (hw : Below w0.heap.size w0 W0) : PrT w0 W0 29 #[] (fun p => decide (p.1.rightW ≠ 0)) := by
 intro p W hp hW
 show Calls Tryz.prog 29 #[tval p.1 p.2] W _
 obtain ⟨x, s⟩ := p
 simp only [OkT] at hp
 have hb := below_box W (tbox x s)
 obtain ⟨t0, t1, t2⟩ := tbox_cells W x s
 have b0 : Below w0.heap.size w0 (W.alloc (tbox x s)) := (hw.trans (hW.mono hw.size)).trans (hb.mono (by have := hw.size; have := hW.size; omega))
 have hc := tright_any x s (W.alloc (tbox x s)) (ArgsAt.keep b0 (Nat.le_refl _) hp.1) (short_of x hp.2).1
 obtain ⟨a, c, rfl, _, _⟩ := hp.1.slice
 obtain ⟨z, hz⟩ : ∃ z, x.rightW = z := ⟨_, rfl⟩
 simp only [hz]
 rw [hz] at hc
 have HB : Hid (Below W.heap.size W (W.alloc (tbox x (.slice a x.args.length c)))) := hb
 clear hp hb b0 hW hw hz
 go_enter Tryz.func29, Tryz.ntmps29
 go_wp2_with (first | (go_at_call 30; refine hc.mono ?_; rintro e w3 ⟨rfl, hb3⟩))
 go_ret
 exact ⟨ret_bool (by rw [Bool.eq_iff_iff]; simp), HB.out.trans (hb3.mono HB.out.size)⟩
theorem ok_dec (g : Sg) : ((g.okW != 0) = true ∧ ¬ g.Ok ∧ (g.okW == 0) = false) ∨ ((g.okW != 0) = false ∧ g.Ok ∧ (g.okW == 0) = true) := by
 by_cases h : g.Ok
 ·rw [okW_yes h]; exact .inr ⟨rfl, h, rfl⟩
 ·rw [okW_no h]; exact .inl ⟨rfl, h, rfl⟩
theorem olits_any (w0 : World) (o : Od) (vn vw : Value) (ho : OdAt w0 o vn vw) (p q : Lt × Value × Value) (hp : OkL w0 p) (hq : OkL w0 q) (W : World) (hW : Below w0.heap.size w0 W) :
  Calls Tryz.prog 13 #[oval o vn vw, lval p.1 p.2.1 p.2.2, lval q.1 q.2.1 q.2.2] W fun e W' => e = .returned (.int .i64 (litR o p.1 q.1)) ∧ Below W.heap.size W W' := by
 obtain ⟨x, sx, rx⟩ := p
 obtain ⟨y, sy, ry⟩ := q
 obtain ⟨W1, h1⟩ : ∃ X, W.alloc (obox o vn vw) = X := ⟨_, rfl⟩
 obtain ⟨W2, h2⟩ : ∃ X, W1.alloc (lbox x sx rx) = X := ⟨_, rfl⟩
 obtain ⟨W3, h3⟩ : ∃ X, W2.alloc (lbox y sy ry) = X := ⟨_, rfl⟩
 have b1 : Below W.heap.size W W1 := by rw [<- h1]; exact below_box _ _
 have b2 : Below W1.heap.size W1 W2 := by rw [<- h2]; exact below_box _ _
 have b3 : Below W2.heap.size W2 W3 := by rw [<- h3]; exact below_box _ _
 have s1 : W1.heap.size = W.heap.size + 1 := by rw [<- h1]; simp
 have s2 : W2.heap.size = W.heap.size + 2 := by rw [<- h2]; simp [s1]
 have s3 : W3.heap.size = W.heap.size + 3 := by rw [<- h3]; simp [s2]
 have b13 : Below W1.heap.size W1 W3 := b2.trans (b3.mono b2.size)
 have bb : Below W.heap.size W W3 := b1.trans (b13.mono b1.size)
 obtain ⟨o0, o1, o2⟩ := obox_cells W (.bool o.path) vn vw 40
 rw [h1] at o0 o1 o2
 have cx := bxL_cells W1 (x, sx, rx)
 simp only at cx
 rw [h2, s1] at cx
 have cy := bxL_cells W2 (y, sy, ry)
 simp only at cy
 rw [h3, s2] at cy
 have cx3 := cx.keep b3 (by omega)
 have b03 : Below w0.heap.size w0 W3 := hW.trans (bb.mono hW.size)
 have lw := b03.size
 have HC : Hid (∀ Z, Below W3.heap.size W3 Z -> (Z.cell? ⟨W.heap.size, 0, none⟩ = some (.bool o.path) ∧ Z.cell? ⟨W.heap.size, 1, none⟩ = some vn ∧ Z.cell? ⟨W.heap.size, 2, none⟩ = some vw) ∧ CsL Z (W.heap.size + 1) 0 (x, sx, rx) ∧ CsL Z (W.heap.size + 2) 0 (y, sy, ry)) := fun Z hZ => by
  have e : Below W1.heap.size W1 Z := b13.trans (hZ.mono b13.size)
  exact ⟨⟨kc e (by omega) o0, kc e (by omega) o1, kc e (by omega) o2⟩, cx3.keep hZ (by omega), cy.keep hZ (by omega)⟩
 have HR : Hid (∀ Z, Below W3.heap.size W3 Z -> Calls Tryz.prog 31 #[gval vn vw] Z fun e Z' => e = .returned (.int .i64 o.g.okW) ∧ Below Z.heap.size Z Z') := fun Z hZ => kright_any o.g vn vw Z (ho.sg.keep (b03.trans (hZ.mono lw)) (Nat.le_refl _))
 have HL : Hid (∀ Z, Below W3.heap.size W3 Z -> Calls Tryz.prog 33 #[oval o vn vw, lval x sx rx, lval y sy ry] Z fun e Z' => e = .returned (.int .i64 (lcm o x y)) ∧ Below Z.heap.size Z Z') := fun Z hZ => literals_any w0 o vn vw ho (x, sx, rx) (y, sy, ry) Z hp hq (b03.trans (hZ.mono lw))
 obtain ⟨qd, hqd⟩ : ∃ l : List (T × Value), l = [(x.l, sx), (x.r, rx), (y.l, sy), (y.r, ry)] := ⟨_, rfl⟩
 obtain ⟨z, hz⟩ : ∃ z, (qd.any fun p => decide (p.1.rightW ≠ 0)) = z := ⟨_, rfl⟩
 have HQ : Hid (∀ Z, Below W3.heap.size W3 Z -> Calls Tryz.prog 32 #[.slice (some ⟨Z.heap.size, 0, none⟩) 4 4, .func (.func 29) #[] #[]] (Z.alloc (.cells #[.int .i64 x.l.v, .string x.l.fn, sx, .int .i64 x.r.v, .string x.r.fn, rx, .int .i64 y.l.v, .string y.l.fn, sy, .int .i64 y.r.v, .string y.r.fn, ry] 30)) fun e Z' => e = .returned (.bool z) ∧ Below Z.heap.size Z Z') := fun Z hZ => by
  have hrow := row_built Z qd (by rw [hqd]; simp)
  have hbz := below_box Z (.cells (flT qd).toArray 30)
  have hok : ∀ p ∈ qd, OkT w0 p := by
   intro p hp'
   rw [hqd] at hp'
   simp only [List.mem_cons, List.not_mem_nil, or_false] at hp'
   rcases hp' with rfl | rfl | rfl | rfl
   ·exact ⟨hp.1.1, hp.2.1⟩
   ·exact ⟨hp.1.2, hp.2.2⟩
   ·exact ⟨hq.1.1, hq.2.1⟩
   ·exact ⟨hq.1.2, hq.2.2⟩
  have hb0 : Below w0.heap.size w0 (Z.alloc (.cells (flT qd).toArray 30)) := (b03.trans (hZ.mono lw)).trans (hbz.mono (by have := hZ.size; omega))
  have hc := containsT_any w0 _ 29 #[] _ eg29 (wrong_any w0 _ hb0) qd _ _ (Below.refl _ _) (rdT_of_row hrow hok)
  rw [hz] at hc
  have e1 : (flT qd).toArray = #[.int .i64 x.l.v, .string x.l.fn, sx, .int .i64 x.r.v, .string x.r.fn, rx, .int .i64 y.l.v, .string y.l.fn, sy, .int .i64 y.r.v, .string y.r.fn, ry] := by rw [hqd]; rfl
  have e2 : qd.length = 4 := by rw [hqd]; rfl
  rw [e1, e2] at hc
  rw [e1] at hbz
  exact hc.mono fun e Z' ⟨h1, h2⟩ => ⟨h1, hbz.trans (h2.mono hbz.size)⟩
 have HZ : Hid (z = false ↔ ((x.l.rightW = 0 ∧ x.r.rightW = 0) ∧ y.l.rightW = 0 ∧ y.r.rightW = 0)) := by
  show _ ↔ _
  rw [<- hz, hqd]
  simp [and_assoc]
 have HB : Hid (Below W.heap.size W W3) := bb
 have HG := ok_dec o.g
 obtain ⟨kw, hkw⟩ : ∃ k, o.g.okW = k := ⟨_, rfl⟩
 rw [hkw] at HR HG
 obtain ⟨g0, hg0⟩ := HC.out W3 (Below.refl _ _)
 obtain ⟨an, nn, cn, rfl⟩ := ho.vn
 obtain ⟨aw, nw, cw, rfl⟩ := ho.vw
 simp only [OkL] at hp hq
 obtain ⟨xa, xc, rfl, _, _⟩ := hp.1.1.slice
 obtain ⟨xb, xd, rfl, _, _⟩ := hp.1.2.slice
 obtain ⟨ya, yc, rfl, _, _⟩ := hq.1.1.slice
 obtain ⟨yb, yd, rfl, _, _⟩ := hq.1.2.slice
 obtain ⟨p0, p1, p2⟩ := g0
 clear hz hqd b1 b2 b3 b13 bb o0 o1 o2 cx cy cx3 b03 lw hp hq hW ho hkw s3 hg0
 simp only
 rcases HG with ⟨e1, e2, _⟩ | ⟨e1, e2, _⟩
 ·have HV : Hid (litR o x y = 2) := by show _ = _; unfold litR; rw [if_neg (fun h => e2 h.1)]
  have hr := HR.out W3 (Below.refl _ _)
  clear e2
  go_enter Tryz.func13, Tryz.ntmps13
  try rw [h1]
  try rw [h2]
  try rw [h3]
  go_wp2_with fail
  try rw [h1]
  try rw [h2]
  try rw [h3]
  refine hr.mono ?_
  rintro e W4 ⟨rfl, b4⟩
  go_wp2
  go_ret
  exact ⟨ret_i64 HV.out.symm, HB.out.trans (b4.mono HB.out.size)⟩
 ·have hr := HR.out W3 (Below.refl _ _)
  cases z
  ·have HV : Hid (litR o x y = lcm o x y) := by show _ = _; unfold litR; rw [if_pos ⟨e2, HZ.out.1 rfl⟩]
   clear e2
   go_enter Tryz.func13, Tryz.ntmps13
   try rw [h1]
   try rw [h2]
   try rw [h3]
   go_wp2_with fail
   try rw [h1]
   try rw [h2]
   try rw [h3]
   refine hr.mono ?_
   rintro e W4 ⟨rfl, b4⟩
   obtain ⟨⟨g0, g1, g2⟩, hx4, hy4⟩ := HC.out W4 b4
   simp only [CsL, Nat.zero_add] at hx4 hy4
   obtain ⟨x0, x1, x2, x3, x4, x5, x6⟩ := hx4
   obtain ⟨y0, y1, y2, y3, y4, y5, y6⟩ := hy4
   have hq := HQ.out W4 b4
   try rw [s1]
   try rw [s2]
   go_wp2_with fail
   refine hq.mono ?_
   rintro e W5 ⟨rfl, b5⟩
   have b35 : Below W3.heap.size W3 W5 := b4.trans (b5.mono b4.size)
   obtain ⟨⟨g0', g1', g2'⟩, hx5, hy5⟩ := HC.out W5 b35
   simp only [CsL, Nat.zero_add] at hx5 hy5
   obtain ⟨x0', x1', x2', x3', x4', x5', x6'⟩ := hx5
   obtain ⟨y0', y1', y2', y3', y4', y5', y6'⟩ := hy5
   have hl := HL.out W5 b35
   have HB5 : Hid (Below W.heap.size W W5) := HB.out.trans (b35.mono HB.out.size)
   clear b4 b5 b35 hr hq x0 x1 x2 x3 x4 x5 x6 y0 y1 y2 y3 y4 y5 y6 g0 g1 g2 p0 p1 p2
   go_wp2_with fail
   refine hl.mono ?_
   rintro e W6 ⟨rfl, b6⟩
   go_wp2
   go_ret
   exact ⟨ret_i64 HV.out.symm, HB5.out.trans (b6.mono HB5.out.size)⟩
  ·have HV : Hid (litR o x y = 2) := by
    show _ = _
    unfold litR
    rw [if_neg (fun h => by have := HZ.out.2 h.2; cases this)]
   clear e2
   go_enter Tryz.func13, Tryz.ntmps13
   try rw [h1]
   try rw [h2]
   try rw [h3]
   go_wp2_with fail
   try rw [h1]
   try rw [h2]
   try rw [h3]
   refine hr.mono ?_
   rintro e W4 ⟨rfl, b4⟩
   obtain ⟨⟨g0, g1, g2⟩, hx4, hy4⟩ := HC.out W4 b4
   simp only [CsL, Nat.zero_add] at hx4 hy4
   obtain ⟨x0, x1, x2, x3, x4, x5, x6⟩ := hx4
   obtain ⟨y0, y1, y2, y3, y4, y5, y6⟩ := hy4
   have hq := HQ.out W4 b4
   try rw [s1]
   try rw [s2]
   go_wp2_with fail
   refine hq.mono ?_
   rintro e W5 ⟨rfl, b5⟩
   have HB5 : Hid (Below W.heap.size W W5) := HB.out.trans ((b4.trans (b5.mono b4.size)).mono HB.out.size)
   clear b4 b5
   go_wp2
   go_ret
   exact ⟨ret_i64 HV.out.symm, HB5.out⟩
theorem eg68 : ∀ args w, (callFunc 68 args).run Tryz.prog w = .ok (.enter 68 args) w := enters_of Tryz.func68 (by kernel_rfl) rfl
theorem wrongC_any (w0 W0 : World) (hw : Below w0.heap.size w0 W0) : PrC w0 W0 68 #[] (fun p => decide (crightW p.1 ≠ 0)) := by
 intro p W hp hW
 show Calls Tryz.prog 68 #[p.2] W _
 obtain ⟨c, v⟩ := p
 simp only [OkC] at hp
 have b0 : Below w0.heap.size w0 W := hw.trans (hW.mono hw.size)
 have hc := lright_any c v W (hp.1.keep b0) (fun t ht => by
  simp only [sidesOf, List.mem_flatMap] at ht
  obtain ⟨x, hx, ht⟩ := ht
  have := hp.2 x hx
  simp only [List.mem_cons, List.not_mem_nil, or_false] at ht
  rcases ht with rfl | rfl
  ·exact (short_of _ this.1).1
  ·exact (short_of _ this.2).1)
 obtain ⟨a, cc, rfl⟩ := hp.1.slice
 obtain ⟨z, hz⟩ : ∃ z, crightW c = z := ⟨_, rfl⟩
 simp only [hz]
 rw [hz] at hc
 clear hp b0 hW hw hz
 go_enter Tryz.func68, Tryz.ntmps68
 go_wp2_with (first | (go_at_call 69; refine hc.mono ?_; rintro e w3 ⟨rfl, hb3⟩))
 go_ret
 exact ⟨ret_bool (by rw [Bool.eq_iff_iff]; simp), hb3⟩
noncomputable def rightB (o : Od) (cs : List (List Lt × Value)) : Bool := o.g.ok && !(cs.any fun p => decide (crightW p.1 ≠ 0))
theorem oright_any (w0 : World) (o : Od) (vn vw : Value) (ho : OdAt w0 o vn vw) (cs : List (List Lt × Value)) (v : Value) (W : World) (hW : Below w0.heap.size w0 W) (hc : RdC w0 W v cs) :
  Calls Tryz.prog 38 #[oval o vn vw, v] W fun e W' => e = .returned (.bool (rightB o cs)) ∧ Below W.heap.size W W' := by
 obtain ⟨W1, h1⟩ : ∃ X, W.alloc (obox o vn vw) = X := ⟨_, rfl⟩
 have b1 : Below W.heap.size W W1 := by rw [<- h1]; exact below_box _ _
 obtain ⟨o0, o1, o2⟩ := obox_cells W (.bool o.path) vn vw 40
 rw [h1] at o0 o1 o2
 have b01 : Below w0.heap.size w0 W1 := hW.trans (b1.mono hW.size)
 have hr := kright_any o.g vn vw W1 (ho.sg.keep b01 (Nat.le_refl _))
 obtain ⟨z, hz⟩ : ∃ z, (cs.any fun p => decide (crightW p.1 ≠ 0)) = z := ⟨_, rfl⟩
 have HC : Hid (∀ Z, Below W1.heap.size W1 Z -> Calls Tryz.prog 70 #[v, .func (.func 68) #[] #[]] Z fun e Z' => e = .returned (.bool z) ∧ Below Z.heap.size Z Z') := fun Z hZ => by
  have hb0 : Below w0.heap.size w0 Z := b01.trans (hZ.mono b01.size)
  have h := containsC_any w0 Z 68 #[] _ eg68 (wrongC_any w0 Z hb0) cs v Z (Below.refl _ _) ((hc.keep b1).keep hZ)
  rw [hz] at h
  exact h
 have HG := ok_dec o.g
 have HB : Hid (Below W.heap.size W W1) := b1
 have HV : Hid (rightB o cs = (o.g.ok && !z)) := by show _ = _; unfold rightB; rw [hz]
 obtain ⟨kw, hkw⟩ : ∃ k, o.g.okW = k := ⟨_, rfl⟩
 rw [hkw] at hr HG
 obtain ⟨a, c, rfl, _, _⟩ := hc.slice
 obtain ⟨an, nn, cn, rfl⟩ := ho.vn
 obtain ⟨aw, nw, cw, rfl⟩ := ho.vw
 clear b01 b1 hz hkw hc ho hW
 rcases HG with ⟨_, e2, e1⟩ | ⟨_, e2, e1⟩
 ·have HV' : Hid (rightB o cs = false) := by show _ = _; rw [HV.out, ok_no.2 e2]; rfl
  clear e2 HV
  go_enter Tryz.func38, Tryz.ntmps38
  try rw [h1]
  go_wp2_with fail
  try rw [h1]
  refine hr.mono ?_
  rintro e W2 ⟨rfl, b2⟩
  go_wp2
  go_ret
  exact ⟨ret_bool HV'.out.symm, HB.out.trans (b2.mono HB.out.size)⟩
 ·have HV' : Hid (rightB o cs = !z) := by show _ = _; rw [HV.out, ok_iff.2 e2]; rfl
  clear e2 HV
  go_enter Tryz.func38, Tryz.ntmps38
  try rw [h1]
  go_wp2_with fail
  try rw [h1]
  refine hr.mono ?_
  rintro e W2 ⟨rfl, b2⟩
  have hcc := HC.out W2 b2
  have HB2 : Hid (Below W.heap.size W W2) := HB.out.trans (b2.mono HB.out.size)
  clear b2
  go_wp2_with fail
  refine hcc.mono ?_
  rintro e W3 ⟨rfl, b3⟩
  go_wp2
  go_ret
  exact ⟨ret_bool HV'.out.symm, HB2.out.trans (b3.mono HB2.out.size)⟩
theorem rowC_built (W : World) (ps : List (List Lt × Value)) (hl : ps.length <= 1000) : (W.alloc (.cells (flC ps).toArray 35)).ownsRow W.heap.size 35 1 (.slice (some ⟨W.heap.size, 0, none⟩) ps.length ps.length) ps.length (flC ps) :=
 ⟨flC_len _, .inr ⟨W.heap.size, ps.length, (flC ps).toArray, rfl, Nat.le_refl _, (MapKept.heap_alloc W _).1, Nat.le_refl _, by unfold maxLen; omega, by rw [List.size_toArray, flC_len], by rw [List.toList_toArray, <- flC_len, List.take_length]⟩⟩
open Classical in
noncomputable def clsR (o : Od) (c d : List Lt) : Int := if o.g.Ok ∧ crightW c = 0 ∧ crightW d = 0 then ccm o c d else 2
theorem right_len {c : List Lt} (h : crightW c = 0) : c.length <= 60 := by
 refine Nat.le_of_not_lt fun k => ?_
 unfold crightW at h
 rw [if_pos k] at h
 omega
theorem map_kap {qs : List (Lt × Value × Value)} {c : List Lt} (h : qs.map (·.1) = c) : qs.map (fun p => kap p.1) = c.map kap := by rw [<- h, List.map_map]; rfl
theorem oclauses_any (w0 : World) (o : Od) (vn vw : Value) (ho : OdAt w0 o vn vw) (c d : List Lt) (vc vd : Value) (hc : OkC w0 (c, vc)) (hd : OkC w0 (d, vd)) (W : World) (hW : Below w0.heap.size w0 W) :
  Calls Tryz.prog 15 #[oval o vn vw, vc, vd] W fun e W' => e = .returned (.int .i64 (clsR o c d)) ∧ Below W.heap.size W W' := by
 obtain ⟨W1, h1⟩ : ∃ X, W.alloc (obox o vn vw) = X := ⟨_, rfl⟩
 have b1 : Below W.heap.size W W1 := by rw [<- h1]; exact below_box _ _
 have s1 : W1.heap.size = W.heap.size + 1 := by rw [<- h1]; simp
 obtain ⟨o0, o1, o2⟩ := obox_cells W (.bool o.path) vn vw 40
 rw [h1] at o0 o1 o2
 have b01 : Below w0.heap.size w0 W1 := hW.trans (b1.mono hW.size)
 have lw := b01.size
 obtain ⟨W2, h2⟩ : ∃ X, W1.alloc (.cells #[vc, vd] 35) = X := ⟨_, rfl⟩
 have b2 : Below W1.heap.size W1 W2 := by rw [<- h2]; exact below_box _ _
 have hrow := rowC_built W1 [(c, vc), (d, vd)] (by simp)
 have e1 : (flC [(c, vc), (d, vd)]).toArray = #[vc, vd] := rfl
 rw [e1, h2] at hrow
 have hcr := oright_any w0 o vn vw ho [(c, vc), (d, vd)] _ W2 (b01.trans (b2.mono lw)) (rdC_of_row hrow (by
  intro p hp
  simp only [List.mem_cons, List.not_mem_nil, or_false] at hp
  rcases hp with rfl | rfl
  ·exact hc
  ·exact hd))
 rw [show [(c, vc), (d, vd)].length = 2 from rfl, s1] at hcr
 have hB : rightB o [(c, vc), (d, vd)] = true ↔ (o.g.Ok ∧ crightW c = 0 ∧ crightW d = 0) := by
  simp [rightB, ok_iff]
 obtain ⟨z, hz⟩ : ∃ z, rightB o [(c, vc), (d, vd)] = z := ⟨_, rfl⟩
 rw [hz] at hcr hB
 have HC : Hid (∀ Z, Below W1.heap.size W1 Z -> Z.cell? ⟨W.heap.size, 0, none⟩ = some (.bool o.path) ∧ Z.cell? ⟨W.heap.size, 1, none⟩ = some vn ∧ Z.cell? ⟨W.heap.size, 2, none⟩ = some vw) := fun Z hZ => ⟨kc hZ (by omega) o0, kc hZ (by omega) o1, kc hZ (by omega) o2⟩
 have HX : Hid ((o.g.Ok ∧ crightW c = 0 ∧ crightW d = 0) -> ∀ Z, Below W1.heap.size W1 Z -> Calls Tryz.prog 39 #[fsL, foL o vn vw, vc, vd] Z fun e Z' => e = .returned (.int .i64 (ccm o c d)) ∧ Below Z.heap.size Z Z') := fun hr Z hZ => by
  obtain ⟨qs, eq, rq⟩ : ∃ qs : List (Lt × Value × Value), qs.map (·.1) = c ∧ RdL w0 w0 vc qs := rdL_of_clause hc.1 hc.2
  obtain ⟨rs, er, rr⟩ : ∃ qs : List (Lt × Value × Value), qs.map (·.1) = d ∧ RdL w0 w0 vd qs := rdL_of_clause hd.1 hd.2
  have bz : Below w0.heap.size w0 Z := b01.trans (hZ.mono lw)
  have h := extendL_any w0 o vn vw ho (literals_any w0 o vn vw ho) qs rs vc vd Z bz (rq.keep bz) (rr.keep bz) (by have := right_len hr.2.1; rw [<- eq, List.length_map] at this; omega) (by have := right_len hr.2.2; rw [<- er, List.length_map] at this; omega)
  rw [map_kap eq, map_kap er] at h
  exact h
 have HB : Hid (Below W.heap.size W W1 ∧ Below W1.heap.size W1 W2) := ⟨b1, b2⟩
 simp only [OkC] at hc hd
 obtain ⟨ca, cc, rfl⟩ := hc.1.slice
 obtain ⟨da, dc, rfl⟩ := hd.1.slice
 obtain ⟨an, nn, cn, rfl⟩ := ho.vn
 obtain ⟨aw, nw, cw, rfl⟩ := ho.vw
 clear b1 b2 b01 lw hrow e1 hz hc hd ho hW
 cases z
 ·have HV : Hid (clsR o c d = 2) := by show _ = _; unfold clsR; rw [if_neg (fun h => by have := hB.2 h; cases this)]
  clear hB HX
  go_enter Tryz.func15, Tryz.ntmps15
  try rw [h1]
  go_wp2_with fail
  try rw [h1]
  try rw [h2]
  refine hcr.mono ?_
  rintro e W3 ⟨rfl, b3⟩
  go_wp2
  go_ret
  have b := HB.out.1.trans (HB.out.2.mono HB.out.1.size)
  exact ⟨ret_i64 HV.out.symm, b.trans (b3.mono b.size)⟩
 ·have HV : Hid (clsR o c d = ccm o c d) := by show _ = _; unfold clsR; rw [if_pos (hB.1 rfl)]
  have HXX : Hid (∀ Z, Below W1.heap.size W1 Z -> Calls Tryz.prog 39 #[fsL, foL o (.slice an nn cn) (.slice aw nw cw), .slice ca c.length cc, .slice da d.length dc] Z fun e Z' => e = .returned (.int .i64 (ccm o c d)) ∧ Below Z.heap.size Z Z') := HX.out (hB.1 rfl)
  clear hB HX
  go_enter Tryz.func15, Tryz.ntmps15
  try rw [h1]
  go_wp2_with fail
  try rw [h1]
  try rw [h2]
  refine hcr.mono ?_
  rintro e W3 ⟨rfl, b3⟩
  have b13 : Below W1.heap.size W1 W3 := HB.out.2.trans (b3.mono HB.out.2.size)
  obtain ⟨g0, g1, g2⟩ := HC.out W3 b13
  have hx := HXX.out W3 b13
  have HB3 : Hid (Below W.heap.size W W3) := HB.out.1.trans (b13.mono HB.out.1.size)
  clear b3 b13 o0 o1 o2
  go_wp2_with fail
  refine hx.mono ?_
  rintro e W4 ⟨rfl, b4⟩
  go_wp2
  go_ret
  exact ⟨ret_i64 HV.out.symm, HB3.out.trans (b4.mono HB3.out.size)⟩
theorem indexI_any (bs : List Int) (z : Int) (v : Value) (w : World) (hl : RowAt (.int .i64) w v bs) :
  Calls Tryz.prog 118 #[v, .int .i64 z] w fun e W' => e = .returned (.int .i64 (firstG (fun b => z == b) bs 0)) ∧ Below w.heap.size w W' := by
 obtain ⟨a, c, rfl, hc1, hc2⟩ := hl.slice
 have HL : Hid (RowAt (.int .i64) w (.slice a bs.length c) bs) := hl
 clear hl
 go_enter Tryz.func118, Tryz.ntmps118
 go_wp2
 go_loopw [8] (fun vi wr => ∃ i : Nat, vi = .int .i64 i ∧ i <= bs.length ∧ Below w.heap.size w wr ∧ ∀ j (hj : j < bs.length), j < i -> (z == bs[j]) = false) (fun vi _ => bs.length - (intOf vi).toNat)
 case atStart => exact ⟨0, rfl, Nat.zero_le _, Below.refl _ _, fun j _ hj => absurd hj (by omega)⟩
 case round =>
  obtain ⟨i, rfl, hi, hb, hall⟩ := hrel
  by_cases hlt : i < bs.length
  ·obtain ⟨bb, o, rfl, hlb, hcs⟩ := (HL.out.keep hb (Nat.le_refl _)).nth hlt
   have HF : Hid (firstG (fun b => z == b) bs 0 = if (z == bs[i]) then (i : Int) else firstG (fun b => z == b) (bs.drop (i + 1)) (i + 1)) := by
    show _ = _
    rw [firstG_drop _ bs i hi hall, List.drop_eq_getElem_cons hlt]
    rfl
   have HN : Hid ((z == bs[i]) = false -> ∀ j (hj : j < bs.length), j < i + 1 -> (z == bs[j]) = false) := fun h1 j hj hji => by
    by_cases e : j = i
    ·subst e; exact h1
    ·exact hall j hj (by omega)
   obtain ⟨q, hq⟩ : ∃ q, bs[i] = q := ⟨_, rfl⟩
   rw [hq] at hcs HF HN
   have HB : Hid (Below w.heap.size w wr) := hb
   clear hq hall hb hlb
   cases e : (z == q)
   ·rw [e] at HF HN
    have HNN : Hid (∀ j (hj : j < bs.length), j < i + 1 -> (z == bs[j]) = false) := HN.out rfl
    clear HF HN
    go_wp2
    go_roundw
    case rel => exact ⟨i + 1, by go_num, by omega, HB.out, HNN.out⟩
    case measure => simp [intOf]; omega
   ·rw [e] at HF HN
    have HG : Hid (firstG (fun b => z == b) bs 0 = i) := by show _ = _; rw [HF.out]; rfl
    clear HF HN
    go_wp2
    go_ret
    exact ⟨ret_i64 HG.out.symm, HB.out⟩
  ·have HG : Hid (firstG (fun b => z == b) bs 0 = -1) := by
    show _ = _
    rw [firstG_drop _ bs i hi hall, show i = bs.length by omega, List.drop_length]
    rfl
   clear hall
   go_wp2
   go_ret
   exact ⟨ret_i64 HG.out.symm, hb⟩
theorem containsI_any (bs : List Int) (z : Int) (v : Value) (w : World) (hl : RowAt (.int .i64) w v bs) :
  Calls Tryz.prog 74 #[v, .int .i64 z] w fun e W' => e = .returned (.bool (bs.any fun b => z == b)) ∧ Below w.heap.size w W' := by
 have hi := indexI_any bs z v w hl
 obtain ⟨a, c, rfl, _, _⟩ := hl.slice
 have HE : Hid (decide (firstG (fun b => z == b) bs 0 ≥ 0) = bs.any fun b => z == b) := firstG_any _ bs 0
 generalize firstG (fun b => z == b) bs 0 = q at *
 clear hl
 go_enter Tryz.func74, Tryz.ntmps74
 go_wp2_with (first | (go_at_call 118; refine hi.mono ?_; rintro e w3 ⟨rfl, hb3⟩))
 go_ret
 exact ⟨ret_bool (by rw [<- HE.out]), hb3⟩
def UnbP (o : Od) (c : List Lt) (i : Int) (bs : List Int) : Prop := (o.g.Ok ∧ crightW c = 0) ∧ ∃ (n : Nat) (h : n < c.length), i = n ∧ ∀ k (hk : k < c.length), k ≠ n -> lcm o c[k] c[n] ∉ bs
open Classical in
noncomputable def unbB (o : Od) (c : List Lt) (i : Int) (bs : List Int) : Bool := decide (UnbP o c i bs)
theorem unbB_yes {o : Od} {c : List Lt} {i : Int} {bs : List Int} (h : UnbP o c i bs) : unbB o c i bs = true := by simp [unbB, h]
theorem unbB_no {o : Od} {c : List Lt} {i : Int} {bs : List Int} (h : ¬ UnbP o c i bs) : unbB o c i bs = false := by simp [unbB, h]
theorem any_mem {bs : List Int} {z : Int} : (bs.any fun b => z == b) = true ↔ z ∈ bs := by
 rw [List.any_eq_true]
 exact ⟨fun ⟨x, hx, e⟩ => by rw [beq_iff_eq] at e; rw [e]; exact hx, fun h => ⟨z, h, by simp⟩⟩
theorem unbeaten_any (w0 : World) (o : Od) (vn vw : Value) (ho : OdAt w0 o vn vw) (c : List Lt) (vc : Value) (hc : OkC w0 (c, vc)) (i : Int) (bs : List Int) (vb : Value) (W : World) (hW : Below w0.heap.size w0 W) (hb : RowAt (.int .i64) W vb bs) :
  Calls Tryz.prog 44 #[oval o vn vw, vc, .int .i64 i, vb] W fun e W' => e = .returned (.bool (unbB o c i bs)) ∧ Below W.heap.size W W' := by
 obtain ⟨W1, h1⟩ : ∃ X, W.alloc (obox o vn vw) = X := ⟨_, rfl⟩
 have b1 : Below W.heap.size W W1 := by rw [<- h1]; exact below_box _ _
 have s1 : W1.heap.size = W.heap.size + 1 := by rw [<- h1]; simp
 obtain ⟨o0, o1, o2⟩ := obox_cells W (.bool o.path) vn vw 40
 rw [h1] at o0 o1 o2
 have b01 : Below w0.heap.size w0 W1 := hW.trans (b1.mono hW.size)
 have lw := b01.size
 obtain ⟨ba, bc, rfl, hbc1, hbc2⟩ := hb.slice
 obtain ⟨qs, eq, rq⟩ : ∃ qs : List (Lt × Value × Value), qs.map (·.1) = c ∧ RdL w0 w0 vc qs := rdL_of_clause hc.1 hc.2
 have hql : qs.length = c.length := by rw [<- eq, List.length_map]
 have hqg : ∀ k (h : k < c.length) (h' : k < qs.length), (qs[k]).1 = c[k] := fun k h h' => by subst eq; simp
 obtain ⟨an, nn, cn, rfl⟩ := ho.vn
 obtain ⟨aw, nw, cw, rfl⟩ := ho.vw
 obtain ⟨ca, cc, ecv, hcc1, hcc2⟩ := rq.slice
 subst ecv
 have HB : Hid (Below W.heap.size W W1) := b1
 by_cases hi0 : i < 0
 ·have HV : Hid (unbB o c i bs = false) := unbB_no (fun h => by obtain ⟨_, n, _, e, _⟩ := h; omega)
  have e1 : decide (i < 0) = true := decide_eq_true hi0
  clear b01 b1 hc ho hW rq hb lw hqg hql
  go_enter Tryz.func44, Tryz.ntmps44
  try rw [h1]
  go_wp2
  try rw [h1]
  go_ret
  exact ⟨ret_bool HV.out.symm, HB.out⟩
 ·obtain ⟨n, rfl⟩ : ∃ n : Nat, i = n := ⟨i.toNat, by omega⟩
  by_cases hin : n < c.length
  case neg =>
   have HV : Hid (unbB o c n bs = false) := unbB_no (fun h => by obtain ⟨_, m, hm, e, _⟩ := h; omega)
   have e1 : ¬ ((n : Int) < 0) := by omega
   have e2 : (qs.length : Int) <= (n : Int) := by omega
   have e2N : qs.length <= n := by omega
   clear b01 b1 hc ho hW rq hb lw hqg hin hql
   go_enter Tryz.func44, Tryz.ntmps44
   try rw [h1]
   go_wp2
   try rw [h1]
   go_ret
   exact ⟨ret_bool HV.out.symm, HB.out⟩
  case pos =>
   have e1 : ¬ ((n : Int) < 0) := by omega
   have e2 : ¬ ((qs.length : Int) <= (n : Int)) := by omega
   have e2I : (n : Int) < (qs.length : Int) := by omega
   have e2N : ¬ (qs.length <= n) := by omega
   obtain ⟨W2, h2⟩ : ∃ X, W1.alloc (.cells #[.slice ca qs.length cc] 35) = X := ⟨_, rfl⟩
   have b2 : Below W1.heap.size W1 W2 := by rw [<- h2]; exact below_box _ _
   have hrow := rowC_built W1 [(c, .slice ca qs.length cc)] (by simp)
   have ea : (flC [(c, .slice ca qs.length cc)]).toArray = #[.slice ca qs.length cc] := rfl
   rw [ea, h2] at hrow
   have hcr := oright_any w0 o _ _ ho [(c, .slice ca qs.length cc)] _ W2 (b01.trans (b2.mono lw)) (rdC_of_row hrow (by
    intro p hp
    have : p = (c, .slice ca qs.length cc) := by simpa using hp
    rw [this]; exact hc))
   rw [show [(c, Value.slice ca qs.length cc)].length = 1 from rfl, s1] at hcr
   have hB : rightB o [(c, .slice ca qs.length cc)] = true ↔ (o.g.Ok ∧ crightW c = 0) := by
    simp [rightB, ok_iff]
   obtain ⟨z, hz⟩ : ∃ z, rightB o [(c, .slice ca qs.length cc)] = z := ⟨_, rfl⟩
   rw [hz] at hcr hB
   have HC : Hid (∀ Z, Below W1.heap.size W1 Z -> (Z.cell? ⟨W.heap.size, 0, none⟩ = some (.bool o.path) ∧ Z.cell? ⟨W.heap.size, 1, none⟩ = some (.slice an nn cn) ∧ Z.cell? ⟨W.heap.size, 2, none⟩ = some (.slice aw nw cw)) ∧ W.heap.size < Z.heap.size) := fun Z hZ => ⟨⟨kc hZ (by omega) o0, kc hZ (by omega) o1, kc hZ (by omega) o2⟩, by have := hZ.size; omega⟩
   have HX : Hid (∀ Z, Below W1.heap.size W1 Z -> RdL w0 Z (.slice ca qs.length cc) qs ∧ Below w0.heap.size w0 Z ∧ RowAt (.int .i64) Z (.slice ba bs.length bc) bs) := fun Z hZ => by
    have bz : Below w0.heap.size w0 Z := b01.trans (hZ.mono lw)
    exact ⟨rq.keep bz, bz, hb.keep (b1.trans (hZ.mono b1.size)) (Nat.le_refl _)⟩
   have HL : Hid (∀ (p q : Lt × Value × Value) (Z : World), OkL w0 p -> OkL w0 q -> Below w0.heap.size w0 Z -> Calls Tryz.prog 33 #[oval o (.slice an nn cn) (.slice aw nw cw), lval p.1 p.2.1 p.2.2, lval q.1 q.2.1 q.2.2] Z fun e Z' => e = .returned (.int .i64 (lcm o p.1 q.1)) ∧ Below Z.heap.size Z Z') := literals_any w0 o _ _ ho
   have HQ : Hid ((∀ k (h : k < c.length) (h' : k < qs.length), (qs[k]).1 = c[k]) ∧ qs.length = c.length ∧ n < c.length) := ⟨hqg, hql, hin⟩
   have HB2 : Hid (Below W1.heap.size W1 W2) := b2
   clear b01 b1 b2 hc ho hW rq hb lw hqg hrow ea hz hql hin
   cases z
   ·have HV : Hid (unbB o c n bs = false) := unbB_no (fun h => by have := hB.2 h.1; cases this)
    clear hB
    go_enter Tryz.func44, Tryz.ntmps44
    try rw [h1]
    go_wp2_with fail
    try rw [h1]
    try rw [h2]
    refine hcr.mono ?_
    rintro e W3 ⟨rfl, b3⟩
    go_wp2
    go_ret
    have b := HB.out.trans (HB2.out.mono HB.out.size)
    exact ⟨ret_bool HV.out.symm, b.trans (b3.mono b.size)⟩
   ·have HR : Hid (o.g.Ok ∧ crightW c = 0) := hB.1 rfl
    clear hB
    go_enter Tryz.func44, Tryz.ntmps44
    try rw [h1]
    go_wp2_with fail
    try rw [h1]
    try rw [h2]
    refine hcr.mono ?_
    rintro e W3 ⟨rfl, b3⟩
    have HB3 : Hid (Below W1.heap.size W1 W3) := HB2.out.trans (b3.mono HB2.out.size)
    clear b3 o0 o1 o2 hcr
    go_wp2
    go_loopw [28] (fun vk wr => ∃ k : Nat, vk = .int .i64 k ∧ k <= qs.length ∧ Hid (Below W1.heap.size W1 wr ∧ ∀ (j : Nat) (hj : j < c.length) (hn : n < c.length), j < k -> j ≠ n -> lcm o c[j] c[n] ∉ bs)) (fun vk _ => qs.length - (intOf vk).toNat)
    case atStart => exact ⟨0, rfl, Nat.zero_le _, HB3.out, fun j _ _ h => by omega⟩
    case round =>
     obtain ⟨k, rfl, hk, HI⟩ := hrel
     by_cases hlt : k < qs.length
     ·have hkI : (k : Int) < (qs.length : Int) := by omega
      obtain ⟨rq, bz, hrb⟩ := HX.out wr HI.out.1
      have hnq : n < qs.length := by have := HQ.out.2; omega
      obtain ⟨bb, oo, rfl, hlb, hcs, hok⟩ := rq.nth hlt
      obtain ⟨bb', oo', ee, hlb', hcs', hok'⟩ := rq.nth hnq
      obtain ⟨rfl, rfl⟩ : bb = bb' ∧ oo = oo' := by injection ee with e; injection e with e1 e2; exact ⟨e1, e2⟩
      obtain ⟨Wz, hWz⟩ : ∃ X, wr.alloc (.cells #[.bool false, .int .i64 0, .string ⟨#[]⟩, .slice none 0 0, .int .i64 0, .string ⟨#[]⟩, .slice none 0 0] 32) = X := ⟨_, rfl⟩
      have bzz : Below wr.heap.size wr Wz := by rw [<- hWz]; exact below_box _ _
      have hz : Wz.heap[wr.heap.size]? = some (.cells #[.bool false, .int .i64 0, .string ⟨#[]⟩, .slice none 0 0, .int .i64 0, .string ⟨#[]⟩, .slice none 0 0] 32 (0, 0)) := by rw [<- hWz]; exact (MapKept.heap_alloc _ _).1
      obtain ⟨W4, hrun, hcp, hon⟩ := bxstL Wz wr.heap.size #[.bool false, .int .i64 0, .string ⟨#[]⟩, .slice none 0 0, .int .i64 0, .string ⟨#[]⟩, .slice none 0 0] qs[k] hz rfl (onesL (w0 := w0) (fun p hp => by
       have e : p = qs[k] := by simpa using hp
       rw [e]; exact hok))
      have b4 : Below wr.heap.size wr W4 := bzz.trans (hon.below bzz.size (by simp))
      have s4 : wr.heap.size < W4.heap.size := by
       have := hon.size
       have : Wz.heap.size = wr.heap.size + 1 := by rw [<- hWz]; simp
       omega
      have b14 : Below W1.heap.size W1 W4 := HI.out.1.trans (b4.mono HI.out.1.size)
      have hcs4 := hcs'.keep b4 hlb'
      have hl4 : bb < W4.heap.size := by omega
      obtain ⟨⟨g0, g1, g2⟩, hl0⟩ := HC.out W4 b14
      have bz4 : Below w0.heap.size w0 W4 := bz.trans (b4.mono bz.size)
      have hc33 : ∀ Z, Below W4.heap.size W4 Z -> Calls Tryz.prog 33 #[oval o (.slice an nn cn) (.slice aw nw cw), lval qs[k].1 qs[k].2.1 qs[k].2.2, lval qs[n].1 qs[n].2.1 qs[n].2.2] Z fun e Z' => e = .returned (.int .i64 (lcm o qs[k].1 qs[n].1)) ∧ Below Z.heap.size Z Z' := fun Z hZ => HL.out qs[k] qs[n] Z hok hok' (bz4.trans (hZ.mono bz4.size))
      have hc74 : ∀ Z, Below W4.heap.size W4 Z -> Calls Tryz.prog 74 #[.slice ba bs.length bc, .int .i64 (lcm o qs[k].1 qs[n].1)] Z fun e Z' => e = .returned (.bool (bs.any fun b => lcm o qs[k].1 qs[n].1 == b)) ∧ Below Z.heap.size Z Z' := fun Z hZ => containsI_any bs _ _ Z ((HX.out Z (b14.trans (hZ.mono b14.size))).2.2)
      have HK : Hid (lcm o qs[k].1 qs[n].1 = lcm o (c[k]'(by have := HQ.out.2; omega)) (c[n]'(HQ.out.2.2))) := by show _ = _; rw [HQ.out.1 k (by have := HQ.out.2; omega) hlt, HQ.out.1 n HQ.out.2.2 hnq]
      obtain ⟨zv, hzv⟩ : ∃ z, lcm o qs[k].1 qs[n].1 = z := ⟨_, rfl⟩
      obtain ⟨qk, hqk⟩ : ∃ q, qs[k] = q := ⟨_, rfl⟩
      obtain ⟨qn, hqn⟩ : ∃ q, qs[n] = q := ⟨_, rfl⟩
      rw [hzv] at hc33 hc74 HK
      rw [hqk] at hcs hok hrun hcp hc33
      rw [hqn] at hcs4 hok' hc33
      have HB4 : Hid (Below W1.heap.size W1 W4) := b14
      obtain ⟨zb, hzb⟩ : ∃ b, (bs.any fun b => zv == b) = b := ⟨_, rfl⟩
      have HM : Hid (zb = true ↔ zv ∈ bs) := by show _ ↔ _; rw [<- hzb]; exact any_mem
      rw [hzb] at hc74
      clear rq bz hrb hz bzz hon b4 b14 bz4 hcs' hqk hqn hzv hzb ee
      obtain ⟨x, sx, rx⟩ := qk
      obtain ⟨y, sy, ry⟩ := qn
      simp only [OkL] at hok hok'
      obtain ⟨xa, xc, rfl, _, _⟩ := hok.1.1.slice
      obtain ⟨xb, xd, rfl, _, _⟩ := hok.1.2.slice
      obtain ⟨ya, yc, rfl, _, _⟩ := hok'.1.1.slice
      obtain ⟨yb, yd, rfl, _, _⟩ := hok'.1.2.slice
      simp only [CsL, Nat.zero_add] at hcs hcs4 hcp
      simp only at hc33 hrun
      obtain ⟨x0, x1, x2, x3, x4, x5, x6⟩ := hcs
      obtain ⟨y0, y1, y2, y3, y4, y5, y6⟩ := hcs4
      obtain ⟨u0, u1, u2, u3, u4, u5, u6⟩ := hcp
      have Fy0 := cell_far (w := W4) hl4 y0
      have Fy1 := cell_far (w := W4) hl4 y1
      have Fy2 := cell_far (w := W4) hl4 y2
      have Fy3 := cell_far (w := W4) hl4 y3
      have Fy4 := cell_far (w := W4) hl4 y4
      have Fy5 := cell_far (w := W4) hl4 y5
      have Fy6 := cell_far (w := W4) hl4 y6
      have Fu0 := cell_far (w := W4) s4 u0
      have Fu1 := cell_far (w := W4) s4 u1
      have Fu2 := cell_far (w := W4) s4 u2
      have Fu3 := cell_far (w := W4) s4 u3
      have Fu4 := cell_far (w := W4) s4 u4
      have Fu5 := cell_far (w := W4) s4 u5
      have Fu6 := cell_far (w := W4) s4 u6
      have Fg0 := cell_far (w := W4) hl0 g0
      have Fg1 := cell_far (w := W4) hl0 g1
      have Fg2 := cell_far (w := W4) hl0 g2
      clear hok hok' y0 y1 y2 y3 y4 y5 y6 u0 u1 u2 u3 u4 u5 u6 g0 g1 g2
      by_cases hkn : k = n
      ·have HN : Hid (∀ (j : Nat) (hj : j < c.length) (hn : n < c.length), j < k + 1 -> j ≠ n -> lcm o c[j] c[n] ∉ bs) := fun j hj hn h1 h2 => HI.out.2 j hj hn (by omega) h2
       have ek : ((k : Int) != (n : Int)) = false := by rw [hkn]; simp
       clear hkn hc33 hc74 HM
       go_wp2_with (first | (refine wpList_store_run rfl 32 _ _ rfl (.pointer (some ⟨wr.heap.size, 0, none⟩)) (lval x (.slice xa x.l.args.length xc) (.slice xb x.r.args.length xd)) rfl rfl hrun ?_))
       try rw [hWz]
       refine wp_region_far (by kernel_rfl) ?_
       repeat (first | go_big_quiet_step (fail) | quiet_step (fail))
       refine wpQuiet_nil ?_
       intro _ hw'
       obtain ⟨pf, rfl⟩ := hw'
       go_wp2
       go_roundw
       case rel => exact ⟨k + 1, by go_num, by omega, HB4.out.trans ((below_far W4 pf).mono HB4.out.size), HN.out⟩
       case measure => simp [intOf]; omega
      ·have ek : ((k : Int) != (n : Int)) = true := by rw [bne_iff_ne]; omega
       cases zb
       ·have HN : Hid (∀ (j : Nat) (hj : j < c.length) (hn : n < c.length), j < k + 1 -> j ≠ n -> lcm o c[j] c[n] ∉ bs) := fun j hj hn h1 h2 => by
         rcases Nat.lt_or_ge j k with q | q
         ·exact HI.out.2 j hj hn q h2
         ·have : j = k := by omega
          subst this
          rw [<- HK.out]
          exact fun hm => by have := HM.out.2 hm; cases this
        clear hkn HM
        go_wp2_with (first | (refine wpList_store_run rfl 32 _ _ rfl (.pointer (some ⟨wr.heap.size, 0, none⟩)) (lval x (.slice xa x.l.args.length xc) (.slice xb x.r.args.length xd)) rfl rfl hrun ?_))
        try rw [hWz]
        refine wp_region_far (by kernel_rfl) ?_
        repeat (first | go_big_quiet_step (first | exact calls_far hc33 _ | exact calls_far hc74 _) | quiet_step (first | exact calls_far hc33 _ | exact calls_far hc74 _))
        refine wpQuiet_nil ?_
        intro _ hw'
        obtain ⟨pf, rfl⟩ := hw'
        go_wp2
        go_roundw
        case rel => exact ⟨k + 1, by go_num, by omega, HB4.out.trans ((below_far W4 pf).mono HB4.out.size), HN.out⟩
        case measure => simp [intOf]; omega
       ·have HV : Hid (unbB o c n bs = false) := unbB_no (fun h => by
         obtain ⟨_, m, hm, e, hall⟩ := h
         have : m = n := by omega
         subst this
         have hkc : k < c.length := by have := HQ.out.2; omega
         exact hall k hkc hkn (by rw [<- HK.out]; exact HM.out.1 rfl))
        clear hkn HM
        go_wp2_with (first | (refine wpList_store_run rfl 32 _ _ rfl (.pointer (some ⟨wr.heap.size, 0, none⟩)) (lval x (.slice xa x.l.args.length xc) (.slice xb x.r.args.length xd)) rfl rfl hrun ?_))
        try rw [hWz]
        refine wp_region_far (by kernel_rfl) ?_
        repeat (first | go_big_quiet_step (first | exact calls_far hc33 _ | exact calls_far hc74 _) | quiet_step (first | exact calls_far hc33 _ | exact calls_far hc74 _))
        refine wpQuiet_nil ?_
        intro _ hw'
        obtain ⟨pf, rfl⟩ := hw'
        go_wp2
        go_ret
        have bq := HB4.out.trans ((below_far W4 pf).mono HB4.out.size)
        exact ⟨ret_bool HV.out.symm, HB.out.trans (bq.mono HB.out.size)⟩
     ·have HV : Hid (unbB o c n bs = true) := unbB_yes ⟨HR.out, n, HQ.out.2.2, rfl, fun j hj hjn => HI.out.2 j hj HQ.out.2.2 (by have := HQ.out.2; omega) hjn⟩
      go_wp2
      go_ret
      exact ⟨ret_bool HV.out.symm, HB.out.trans (HI.out.1.mono HB.out.size)⟩
theorem ints_built (W : World) (bs : List Int) (hl : bs.length <= 1000) : RowAt (.int .i64) (W.alloc (.cells (bs.map (Value.int .i64)).toArray 3)) (.slice (some ⟨W.heap.size, 0, none⟩) bs.length bs.length) bs := by
 refine ⟨_, _, rfl, Nat.le_refl _, by omega, fun _ => ⟨W.heap.size, 0, by simp, rfl, fun i hi => ?_⟩⟩
 rw [Nat.zero_add, cell_of_row _ _ _ _ 3 (0, 0) (MapKept.heap_alloc W _).1]
 simp [hi]
theorem maximal_any (w0 : World) (o : Od) (vn vw : Value) (ho : OdAt w0 o vn vw) (c : List Lt) (vc : Value) (hc : OkC w0 (c, vc)) (i : Int) (W : World) (hW : Below w0.heap.size w0 W) :
  Calls Tryz.prog 17 #[oval o vn vw, vc, .int .i64 i] W fun e W' => e = .returned (.bool (unbB o c i [1])) ∧ Below W.heap.size W W' := by
 obtain ⟨W1, h1⟩ : ∃ X, W.alloc (obox o vn vw) = X := ⟨_, rfl⟩
 have b1 : Below W.heap.size W W1 := by rw [<- h1]; exact below_box _ _
 have s1 : W1.heap.size = W.heap.size + 1 := by rw [<- h1]; simp
 obtain ⟨o0, o1, o2⟩ := obox_cells W (.bool o.path) vn vw 40
 rw [h1] at o0 o1 o2
 obtain ⟨W2, h2⟩ : ∃ X, W1.alloc (.cells #[.int .i64 1] 3) = X := ⟨_, rfl⟩
 have b2 : Below W1.heap.size W1 W2 := by rw [<- h2]; exact below_box _ _
 have b12 : Below W.heap.size W W2 := b1.trans (b2.mono b1.size)
 have hr := ints_built W1 [1] (by simp)
 rw [show ([1].map (Value.int .i64)).toArray = #[.int .i64 1] from rfl, h2, s1, show ([1] : List Int).length = 1 from rfl] at hr
 have hcu := unbeaten_any w0 o vn vw ho c vc hc i [1] _ W2 (hW.trans (b12.mono hW.size)) hr
 have HB : Hid (Below W.heap.size W W2) := b12
 simp only [OkC] at hc
 obtain ⟨ca, cc, rfl⟩ := hc.1.slice
 obtain ⟨an, nn, cn, rfl⟩ := ho.vn
 obtain ⟨aw, nw, cw, rfl⟩ := ho.vw
 clear b1 b2 b12 hr hc ho hW
 go_enter Tryz.func17, Tryz.ntmps17
 try rw [h1]
 go_wp2_with fail
 try rw [h1]
 try rw [h2]
 refine hcu.mono ?_
 rintro e W3 ⟨rfl, b3⟩
 go_wp2
 go_ret
 exact ⟨rfl, HB.out.trans (b3.mono HB.out.size)⟩
theorem set2_below9 {n : Nat} {w W : World} (h : Below n w W) (b o : Nat) (u v : Value) (hb : n <= b) : Below n w ((W.setCell ⟨b, o, none⟩ u).setCell ⟨b, o + 1, none⟩ v) :=
 (h.setCell (p := ⟨b, o, none⟩) hb u).setCell (p := ⟨b, o + 1, none⟩) hb v
theorem own7_any (vn vw : Value) (hn : ∃ a n c, vn = .slice a n c) (hw : ∃ a n c, vw = .slice a n c) (w : World) : Calls Tryz.prog 24 #[gval vn vw] w fun e w' => e = .returned (gval vn vw) ∧ Below w.heap.size w w' := by
 obtain ⟨a, n, c, rfl⟩ := hn
 obtain ⟨b, m, d, rfl⟩ := hw
 go_enter Tryz.func24, Tryz.ntmps24
 go_wp2
 refine bodyPost_ret (v := gval (.slice a n c) (.slice b m d)) (by simp [results, Tryz.results24, go_sem, *]) rfl ⟨rfl, ?_⟩
 first | exact below_box2 w _ _ | exact set2_below9 (below_box2 w _ _) _ 0 _ _ (Nat.le_succ _)
theorem Tryz.info40z : (Tryz.prog.info? 40).map (·.size) = some 3 := by kernel_rfl
theorem ost_run (Y : World) (bx : Nat) (p : Bool) (vn vw : Value) (h : Y.heap[bx]? = some (.cells #[.bool false, .slice none 0 0, .slice none 0 0] 40 (0, 0))) (hn : ∃ a n c, vn = .slice a n c) (hw : ∃ a n c, vw = .slice a n c) :
  ∃ Y', (Instr.storeAt 40 (.pointer (some ⟨bx, 0, none⟩)) (.agg #[.bool p, vn, vw])).run Tryz.prog Y = .ok () Y' ∧ (Y'.cell? ⟨bx, 0, none⟩ = some (.bool p) ∧ Y'.cell? ⟨bx, 1, none⟩ = some vn ∧ Y'.cell? ⟨bx, 2, none⟩ = some vw) ∧ Only [bx] Y Y' := by
 obtain ⟨a, n, c, rfl⟩ := hn
 obtain ⟨b, m, d, rfl⟩ := hw
 obtain ⟨cur', p1, p2, p3⟩ := heap_put bx 40 [.bool p, .slice a n c, .slice b m d] 0 Y _ h (by simp)
 have hr := run_storeAt_mid (P := Tryz.prog) Y bx 0 40 #[.bool p, .slice a n c, .slice b m d] (fun j hj => by
  have hj3 : j < 3 := hj
  have : j = 0 ∨ j = 1 ∨ j = 2 := by omega
  rcases this with rfl | rfl | rfl <;> simp [World.cell?, World.frozen?, h]) Tryz.info40z (all_oneCell_toArray (cs := [.bool p, .slice a n c, .slice b m d]) (by intro u hu; simp only [List.mem_cons, List.not_mem_nil, or_false] at hu; rcases hu with rfl | rfl | rfl <;> rfl))
 have e : cur' = #[.bool p, .slice a n c, .slice b m d] := by
  apply Array.toList_inj.1
  rw [p2]
  simp
 rw [e] at p1
 refine ⟨_, hr, ?_, p3⟩
 refine ⟨?_, ?_, ?_⟩ <;> simp [World.cell?, p1]
theorem own9_any (o : Od) (vn vw : Value) (hn : ∃ a n c, vn = .slice a n c) (hw : ∃ a n c, vw = .slice a n c) (w : World) : Calls Tryz.prog 10 #[oval o vn vw] w fun e w' => e = .returned (oval o vn vw) ∧ Below w.heap.size w w' := by
 obtain ⟨an, nn, cn, rfl⟩ := hn
 obtain ⟨aw, nw, cw, rfl⟩ := hw
 obtain ⟨W1, h1⟩ : ∃ X, w.alloc (.cells #[.bool o.path, .slice an nn cn, .slice aw nw cw] 27) = X := ⟨_, rfl⟩
 obtain ⟨W2, h2⟩ : ∃ X, W1.alloc (.cells #[.bool false, .slice none 0 0, .slice none 0 0] 40) = X := ⟨_, rfl⟩
 have b1 : Below w.heap.size w W1 := by rw [<- h1]; exact below_box _ _
 have b2 : Below W1.heap.size W1 W2 := by rw [<- h2]; exact below_box _ _
 have s1 : W1.heap.size = w.heap.size + 1 := by rw [<- h1]; simp
 obtain ⟨o0, o1, o2⟩ := obox_cells w (.bool o.path) (.slice an nn cn) (.slice aw nw cw) 27
 rw [h1] at o0 o1 o2
 have hz2 : W2.heap[w.heap.size + 1]? = some (.cells #[.bool false, .slice none 0 0, .slice none 0 0] 40 (0, 0)) := by
  have := (MapKept.heap_alloc W1 (.cells #[.bool false, .slice none 0 0, .slice none 0 0] 40)).1
  rw [h2, s1] at this
  exact this
 obtain ⟨Wd, hWd⟩ : ∃ X, W2.drew = X := ⟨_, rfl⟩
 have hd : Below W2.heap.size W2 Wd := by rw [<- hWd]; exact (Below.refl _ W2).drew
 have b1d : Below W1.heap.size W1 Wd := b2.trans (hd.mono b2.size)
 have s2 : W2.heap.size = w.heap.size + 2 := by rw [<- h2]; simp [s1]
 have q : ∀ Z, Only [w.heap.size + 1] Wd Z -> Z.cell? ⟨w.heap.size, 0, none⟩ = some (.bool o.path) ∧ Z.cell? ⟨w.heap.size, 1, none⟩ = some (.slice an nn cn) ∧ Z.cell? ⟨w.heap.size, 2, none⟩ = some (.slice aw nw cw) := fun Z hZ => ⟨cell_on hZ (by simp) (kc b1d (by omega) o0), cell_on hZ (by simp) (kc b1d (by omega) o1), cell_on hZ (by simp) (kc b1d (by omega) o2)⟩
 have HZ : Hid (∀ Z, Below Wd.heap.size Wd Z -> Z.heap[w.heap.size + 1]? = some (.cells #[.bool false, .slice none 0 0, .slice none 0 0] 40 (0, 0))) := fun Z hZ => (hZ.block _ (by have := hd.size; omega)).trans ((hd.block _ (by omega)).trans hz2)
 have HB : Hid (Below w.heap.size w Wd) := b1.trans (b1d.mono b1.size)
 clear b1 b2 o0 o1 o2 hz2 hd b1d s2
 go_enter Tryz.func10, Tryz.ntmps10
 try rw [h1]
 try rw [h2]
 try rw [s1]
 go_wp2
 try rw [h1]
 try rw [h2]
 try rw [s1]
 refine wp_region_held_drew (S := fun Z => Only [w.heap.size + 1] W2.drew Z) (by kernel_rfl) (Only.refl _ _) (fun hHeld => ?_)
 rw [hWd] at hHeld ⊢
 refine take_mk 0 (.pointer (some ⟨w.heap.size, 0, none⟩)) rfl (by kernel_rfl) (by kernel_rfl) (by kernel_rfl) (fun _ _ _ h => h) (Or.inl ⟨by rfl, fun Z hZ => by go_simp⟩) (by assumption) ?_
 try simp only [Act.put, List.setIfInBounds_toArray, List.set_cons_zero, List.set_cons_succ]
 refine take_mk 1 (.bool o.path) rfl (by kernel_rfl) (by kernel_rfl) (by kernel_rfl) (fun _ _ _ h => h) (Or.inl ⟨by rfl, fun Z hZ => by have := (q Z hZ).1; go_simp⟩) (by assumption) ?_
 try simp only [Act.put, List.setIfInBounds_toArray, List.set_cons_zero, List.set_cons_succ]
 refine take_mk 2 (.pointer (some ⟨w.heap.size, 1, none⟩)) rfl (by kernel_rfl) (by kernel_rfl) (by kernel_rfl) (fun _ _ _ h => h) (Or.inl ⟨by rfl, fun Z hZ => by go_simp⟩) (by assumption) ?_
 try simp only [Act.put, List.setIfInBounds_toArray, List.set_cons_zero, List.set_cons_succ]
 refine take_mk 3 (gval (.slice an nn cn) (.slice aw nw cw)) rfl (by kernel_rfl) (by kernel_rfl) (by kernel_rfl) (fun _ _ _ h => h) (Or.inl ⟨by rfl, fun Z hZ => by obtain ⟨_, y1, y2⟩ := q Z hZ; go_simp⟩) (by assumption) ?_
 try simp only [Act.put, List.setIfInBounds_toArray, List.set_cons_zero, List.set_cons_succ]
 refine wpAnyH_ready (rs := [4]) (by kernel_rfl) (by simp) (AllReadyH.cons (o := ⟨_, _, _, _, _, _⟩) rfl (fun K hK => ?_) AllReadyH.nil)
 rw [if_pos (by rfl)]
 go_simp
 refine (own7_any _ _ ⟨_, _, _, rfl⟩ ⟨_, _, _, rfl⟩ _).mono ?_
 rintro e X1 ⟨rfl, b1⟩
 have hS1 : Only [w.heap.size + 1] Wd X1 := hHeld.trans (Only.of_below (B := []) b1) (by simp)
 refine hK.out _ _ hS1 (fun hHeld1 => ?_)
 clear hK K
 try simp only [Act.put, List.setIfInBounds_toArray, List.set_cons_zero, List.set_cons_succ]
 refine take_mk 5 (oval o (.slice an nn cn) (.slice aw nw cw)) rfl (by kernel_rfl) (by kernel_rfl) (by kernel_rfl) (fun _ _ _ h => h) (Or.inl ⟨by rfl, fun Z hZ => by go_simp⟩) (by assumption) ?_
 try simp only [Act.put, List.setIfInBounds_toArray, List.set_cons_zero, List.set_cons_succ]
 obtain ⟨X2, hrun, hx2, hon⟩ := ost_run X1 (w.heap.size + 1) o.path (.slice an nn cn) (.slice aw nw cw) (HZ.out X1 b1) ⟨_, _, _, rfl⟩ ⟨_, _, _, rfl⟩
 refine wpAnyH_ready (rs := [6]) (by kernel_rfl) (by simp) (AllReadyH.cons (o := ⟨_, _, _, _, _, _⟩) rfl (fun K hK => ?_) AllReadyH.nil)
 rw [if_pos (by rfl)]
 refine wp_store_run 40 _ _ rfl (.pointer (some ⟨w.heap.size + 1, 0, none⟩)) (oval o (.slice an nn cn) (.slice aw nw cw)) rfl rfl hrun ?_
 have hS2 : Only [w.heap.size + 1] Wd X2 := hS1.trans hon (fun r hr => .inl hr)
 refine hK.out _ _ hS2 (fun _ => ?_)
 clear hK K
 refine wpAnyH_done (by kernel_rfl) ?_ _
 try simp only [Act.put]
 obtain ⟨z0, z1, z2⟩ := hx2
 have HE : Hid (Only [w.heap.size + 1] Wd X2) := hS2
 clear hS1 hS2 hon hrun b1 hHeld hHeld1
 go_wp2
 refine bodyPost_ret (v := oval o (.slice an nn cn) (.slice aw nw cw)) (by simp [results, Tryz.results10, go_sem, *]) rfl ⟨rfl, ?_⟩
 exact HB.out.trans (HE.out.below HB.out.size (by simp))
theorem light_any (w0 : World) (cs : List (List Lt × Value)) (v : Value) (w : World) (hw : Below w0.heap.size w0 w) (hl : RdC w0 w v cs) :
  Calls Tryz.prog 8 #[v] w fun e w' => (∃ b, e = .returned (.bool b)) ∧ Below w.heap.size w w' := by
 obtain ⟨a, c, rfl, hc1, hc2⟩ := hl.slice
 have HL : Hid (RdC w0 w (.slice a cs.length c) cs ∧ Below w0.heap.size w0 w) := ⟨hl, hw⟩
 clear hl hw
 go_enter Tryz.func8, Tryz.ntmps8
 go_wp2
 go_loopw [3] (fun vi wr => ∃ i : Nat, vi = .int .i64 i ∧ i <= cs.length ∧ Hid (Below w.heap.size w wr)) (fun vi _ => cs.length - (intOf vi).toNat)
 case atStart => exact ⟨0, rfl, Nat.zero_le _, Below.refl _ _⟩
 case round =>
  obtain ⟨i, rfl, hi, HB⟩ := hrel
  by_cases hlt : i < cs.length
  ·have hiI : (i : Int) < (cs.length : Int) := by omega
   obtain ⟨bb, oo, rfl, hlb, hcs, hok⟩ := (HL.out.1.keep HB.out).nth hlt
   have b0 : Below w0.heap.size w0 wr := HL.out.2.trans (HB.out.mono HL.out.2.size)
   have hcz := rcsize_any cs[i].1 cs[i].2 wr (hok.1.keep b0)
   obtain ⟨q, hq⟩ : ∃ q, cs[i] = q := ⟨_, rfl⟩
   rw [hq] at hcs hok hcz
   obtain ⟨cl, sv⟩ := q
   simp only [OkC] at hok
   simp only [CsC, Nat.mul_one] at hcs
   simp only at hcz
   obtain ⟨ca, cc, rfl⟩ := hok.1.slice
   clear hok hlb hq b0
   by_cases h10 : 10 < cl.length
   ·have e1 : (cl.length : Int) > 10 := by omega
    clear hcz
    go_wp2
    go_ret
    exact ⟨⟨_, rfl⟩, HB.out⟩
   ·have e1 : ¬ ((cl.length : Int) > 10) := by omega
    have e1N : ¬ (10 < cl.length) := h10
    generalize wrap64 (csize cl) = zz at *
    by_cases h2 : zz > 200
    ·go_wp2_with fail
     refine hcz.mono ?_
     rintro e W2 ⟨rfl, b2⟩
     go_wp2
     go_ret
     exact ⟨⟨_, rfl⟩, HB.out.trans (b2.mono HB.out.size)⟩
    ·go_wp2_with fail
     refine hcz.mono ?_
     rintro e W2 ⟨rfl, b2⟩
     have HB2 : Hid (Below w.heap.size w W2) := HB.out.trans (b2.mono HB.out.size)
     clear b2
     go_wp2
     go_roundw
     case rel => exact ⟨i + 1, by go_num, by omega, HB2.out⟩
     case measure => simp [intOf]; omega
  ·go_wp2
   go_ret
   exact ⟨⟨_, rfl⟩, HB.out⟩
def ta : T := .mk 0 ⟨#[97]⟩ []
def tb : T := .mk 0 ⟨#[98]⟩ []
def g00 : Sg := ⟨[], []⟩
def o00 : Od := ⟨false, g00⟩
def o01 : Od := ⟨true, g00⟩
theorem g00_ok : g00.Ok := by
 unfold Sg.Ok
 refine ⟨by decide, by decide, fun x hx => ?_, fun x hx => ?_, by decide⟩
 ·cases hx
 ·cases hx
theorem ab_ne : ta ≠ tb := fun e => by
 have : ta.fn = tb.fn := by rw [e]
 exact absurd this (by decide)
theorem ta_right : ta.rightW = 0 := by kernel_rfl
theorem tb_right : tb.rightW = 0 := by kernel_rfl
theorem alv1 : litR o00 ⟨true, ta, tb⟩ ⟨false, ta, tb⟩ = 1 := by
 unfold litR
 rw [if_pos ⟨g00_ok, ⟨ta_right, tb_right⟩, ta_right, tb_right⟩]
 unfold lcm
 rw [mcmp_gr]
 refine ⟨fun h => ?_, fun x hx => ?_⟩
 ·have := h ta
  have hne : ¬ tb = ta := fun e => ab_ne e.symm
  simp [sds, cnt, hne] at this
 ·simp only [sds, cnt, if_true, Bool.false_eq_true, if_false] at hx
  omega
theorem alv2 : unbB o00 [⟨false, ta, tb⟩] 0 [1] = true := unbB_yes ⟨⟨g00_ok, by kernel_rfl⟩, 0, by simp, rfl, fun k hk hn => by simp at hk; omega⟩
theorem alv3 : litR o00 ⟨false, ta, tb⟩ ⟨false, tb, ta⟩ = 0 := by
 unfold litR
 rw [if_pos ⟨g00_ok, ⟨ta_right, tb_right⟩, tb_right, ta_right⟩]
 unfold lcm
 rw [mcmp_zero]
 intro x
 simp only [sds, cnt, Bool.false_eq_true, if_false]
 omega
theorem alv4 : ocmp o01 tb ta = 1 := by
 show (if o01.path = true then lcmp g00 tb ta else ccmp g00 tb ta) = 1
 rw [if_pos (show o01.path = true from rfl)]
 unfold lcmp
 rw [if_pos ⟨g00_ok, tb_right, ta_right⟩, pcmp_gr]
 exact .head (by decide) (by decide) (fun y hy => by cases hy) (.inl (by decide))
theorem nilArgs9 (W : World) : ArgsAt W (.slice none 0 0) [] := (ArgsP.nil (fun _ => True) W).args
theorem okAB (W : World) : OkT W (ta, .slice none 0 0) ∧ OkT W (tb, .slice none 0 0) := ⟨⟨nilArgs9 W, by decide⟩, ⟨nilArgs9 W, by decide⟩⟩
theorem odNil (W : World) (p : Bool) : OdAt W ⟨p, g00⟩ (.slice none 0 0) (.slice none 0 0) := odAt_of ⟨⟨none, 0, rfl, Nat.le_refl _, by omega, fun h => absurd h (by simp [g00])⟩, ⟨none, 0, rfl, Nat.le_refl _, by omega, fun h => absurd h (by simp [g00])⟩, fun x hx => by cases hx⟩
theorem okLit (W : World) (n : Bool) (x y : T) (hx : x = ta ∨ x = tb) (hy : y = ta ∨ y = tb) : OkL W (⟨n, x, y⟩, .slice none 0 0, .slice none 0 0) := by
 have h : ∀ z : T, z = ta ∨ z = tb -> ArgsAt W (.slice none 0 0) z.args ∧ z.size <= 1048576 := fun z hz => by
  rcases hz with rfl | rfl
  ·exact ⟨nilArgs9 W, by decide⟩
  ·exact ⟨nilArgs9 W, by decide⟩
 exact ⟨⟨(h x hx).1, (h y hy).1⟩, (h x hx).2, (h y hy).2⟩
theorem okCl (W : World) : OkC (W.alloc (lbox ⟨false, ta, tb⟩ (.slice none 0 0) (.slice none 0 0))) ([⟨false, ta, tb⟩], .slice (some ⟨W.heap.size, 0, none⟩) 1 1) := by
 refine ⟨⟨_, _, rfl, Nat.le_refl _, by omega, fun _ => ⟨W.heap.size, 0, rfl, fun i hi => ⟨.slice none 0 0, .slice none 0 0, ?_⟩⟩⟩, fun x hx => ?_⟩
 ·have h0 : i = 0 := by simp at hi; omega
  subst h0
  exact lbox_at W ⟨false, ta, tb⟩ (.slice none 0 0) (.slice none 0 0) (nilArgs9 W) (nilArgs9 W)
 ·have : x = ⟨false, ta, tb⟩ := by simpa using hx
  subst this
  exact ⟨by decide, by decide⟩
theorem alive9_any (w : World) : Calls Tryz.prog 9 #[] w fun e w' => e = .returned (.bool true) ∧ Below w.heap.size w w' := by
 obtain ⟨W1, h1⟩ : ∃ X, w.alloc (.cells #[.int .i64 0, .string ⟨#[]⟩, .slice none 0 0] 30) = X := ⟨_, rfl⟩
 obtain ⟨W2, h2⟩ : ∃ X, W1.alloc (.cells #[.int .i64 0, .string ⟨#[]⟩, .slice none 0 0] 30) = X := ⟨_, rfl⟩
 have b1 : Below w.heap.size w W1 := by rw [<- h1]; exact below_box _ _
 have b2 : Below W1.heap.size W1 W2 := by rw [<- h2]; exact below_box _ _
 have s1 : W1.heap.size = w.heap.size + 1 := by rw [<- h1]; simp
 have s2 : W2.heap.size = w.heap.size + 2 := by rw [<- h2]; simp [s1]
 have z1 : W2.heap[w.heap.size]? = some (.cells #[.int .i64 0, .string ⟨#[]⟩, .slice none 0 0] 30 (0, 0)) := (b2.block _ (by omega)).trans (by rw [<- h1]; exact (MapKept.heap_alloc _ _).1)
 have z2 : W2.heap[w.heap.size + 1]? = some (.cells #[.int .i64 0, .string ⟨#[]⟩, .slice none 0 0] 30 (0, 0)) := by
  have := (MapKept.heap_alloc W1 (.cells #[.int .i64 0, .string ⟨#[]⟩, .slice none 0 0] 30)).1
  rw [h2, s1] at this
  exact this
 obtain ⟨Y1, hr1, c1, on1⟩ := bxstT W2 w.heap.size #[.int .i64 0, .string ⟨#[]⟩, .slice none 0 0] (ta, .slice none 0 0) z1 rfl (onesT (w0 := w) (fun p hp => by
  have e : p = (ta, .slice none 0 0) := by simpa using hp
  rw [e]; exact (okAB w).1))
 have z2' := (on1.block (w.heap.size + 1) (by omega) (by simp)).trans z2
 obtain ⟨Y2, hr2, c2, on2⟩ := bxstT Y1 (w.heap.size + 1) #[.int .i64 0, .string ⟨#[]⟩, .slice none 0 0] (tb, .slice none 0 0) z2' rfl (onesT (w0 := w) (fun p hp => by
  have e : p = (tb, .slice none 0 0) := by simpa using hp
  rw [e]; exact (okAB w).2))
 have sy1 := on1.size
 have sy2 := on2.size
 obtain ⟨Y3, h3⟩ : ∃ X, Y2.alloc (.cells #[.bool false, .slice none 0 0, .slice none 0 0] 40) = X := ⟨_, rfl⟩
 have b3 : Below Y2.heap.size Y2 Y3 := by rw [<- h3]; exact below_box _ _
 have s3 : Y2.heap.size < Y3.heap.size := by rw [<- h3]; simp
 obtain ⟨o0, o1, o2⟩ := obox_cells Y2 (.bool false) (.slice none 0 0) (.slice none 0 0) 40
 rw [h3] at o0 o1 o2
 have bw : Below w.heap.size w Y3 := by
  have e2 : Below w.heap.size w W2 := b1.trans (b2.mono b1.size)
  have e3 : Below w.heap.size w Y1 := e2.trans (on1.below (by omega) (by simp))
  have e4 : Below w.heap.size w Y2 := e3.trans (on2.below (by omega) (by simp))
  exact e4.trans (b3.mono (by omega))
 have c1' : CsT Y2 w.heap.size 0 (ta, .slice none 0 0) := by
  obtain ⟨k0, k1, k2⟩ := c1
  exact ⟨cell_on on2 (by simp) k0, cell_on on2 (by simp) k1, cell_on on2 (by simp) k2⟩
 have HC : Hid (∀ Z, Below Y3.heap.size Y3 Z -> (Z.cell? ⟨w.heap.size, 0, none⟩ = some (.int .i64 0) ∧ Z.cell? ⟨w.heap.size, 1, none⟩ = some (.string ⟨#[97]⟩) ∧ Z.cell? ⟨w.heap.size, 2, none⟩ = some (.slice none 0 0)) ∧ (Z.cell? ⟨w.heap.size + 1, 0, none⟩ = some (.int .i64 0) ∧ Z.cell? ⟨w.heap.size + 1, 1, none⟩ = some (.string ⟨#[98]⟩) ∧ Z.cell? ⟨w.heap.size + 1, 2, none⟩ = some (.slice none 0 0)) ∧ Z.cell? ⟨Y2.heap.size, 0, none⟩ = some (.bool false) ∧ Z.cell? ⟨Y2.heap.size, 1, none⟩ = some (.slice none 0 0) ∧ Z.cell? ⟨Y2.heap.size, 2, none⟩ = some (.slice none 0 0)) := fun Z hZ => by
  have e : Below Y2.heap.size Y2 Z := b3.trans (hZ.mono (by omega))
  exact ⟨c1'.keep e (by omega), c2.keep e (by omega), kc hZ s3 o0, kc hZ s3 o1, kc hZ s3 o2⟩
 have q1 : ∀ Z : World, Calls Tryz.prog 13 #[.agg #[.bool false, .slice none 0 0, .slice none 0 0], .agg #[.bool true, .int .i64 0, .string ⟨#[97]⟩, .slice none 0 0, .int .i64 0, .string ⟨#[98]⟩, .slice none 0 0], .agg #[.bool false, .int .i64 0, .string ⟨#[97]⟩, .slice none 0 0, .int .i64 0, .string ⟨#[98]⟩, .slice none 0 0]] Z fun e Z' => e = .returned (.int .i64 1) ∧ Below Z.heap.size Z Z' := fun Z => by
  have := olits_any Z o00 _ _ (odNil Z false) (⟨true, ta, tb⟩, .slice none 0 0, .slice none 0 0) (⟨false, ta, tb⟩, .slice none 0 0, .slice none 0 0) (okLit Z _ _ _ (.inl rfl) (.inr rfl)) (okLit Z _ _ _ (.inl rfl) (.inr rfl)) Z (Below.refl _ _)
  simp only [alv1] at this
  exact this
 have q2 : ∀ Z : World, Calls Tryz.prog 17 #[.agg #[.bool false, .slice none 0 0, .slice none 0 0], .slice (some ⟨Z.heap.size, 0, none⟩) 1 1, .int .i64 0] (Z.alloc (.cells #[.bool false, .int .i64 0, .string ⟨#[97]⟩, .slice none 0 0, .int .i64 0, .string ⟨#[98]⟩, .slice none 0 0] 32)) fun e Z' => e = .returned (.bool true) ∧ Below Z.heap.size Z Z' := fun Z => by
  have := maximal_any (Z.alloc (lbox ⟨false, ta, tb⟩ (.slice none 0 0) (.slice none 0 0))) o00 _ _ (odNil _ false) [⟨false, ta, tb⟩] _ (okCl Z) 0 (Z.alloc (lbox ⟨false, ta, tb⟩ (.slice none 0 0) (.slice none 0 0))) (Below.refl _ _)
  rw [alv2] at this
  have hb := below_box Z (lbox ⟨false, ta, tb⟩ (.slice none 0 0) (.slice none 0 0))
  exact this.mono fun e Z' ⟨h1, h2⟩ => ⟨h1, hb.trans (h2.mono hb.size)⟩
 have q3 : ∀ Z : World, Calls Tryz.prog 13 #[.agg #[.bool false, .slice none 0 0, .slice none 0 0], .agg #[.bool false, .int .i64 0, .string ⟨#[97]⟩, .slice none 0 0, .int .i64 0, .string ⟨#[98]⟩, .slice none 0 0], .agg #[.bool false, .int .i64 0, .string ⟨#[98]⟩, .slice none 0 0, .int .i64 0, .string ⟨#[97]⟩, .slice none 0 0]] Z fun e Z' => e = .returned (.int .i64 0) ∧ Below Z.heap.size Z Z' := fun Z => by
  have := olits_any Z o00 _ _ (odNil Z false) (⟨false, ta, tb⟩, .slice none 0 0, .slice none 0 0) (⟨false, tb, ta⟩, .slice none 0 0, .slice none 0 0) (okLit Z _ _ _ (.inl rfl) (.inr rfl)) (okLit Z _ _ _ (.inr rfl) (.inl rfl)) Z (Below.refl _ _)
  simp only [alv3] at this
  exact this
 have q4 : ∀ Z : World, Calls Tryz.prog 11 #[.agg #[.bool true, .slice none 0 0, .slice none 0 0], .agg #[.int .i64 0, .string ⟨#[98]⟩, .slice none 0 0], .agg #[.int .i64 0, .string ⟨#[97]⟩, .slice none 0 0]] Z fun e Z' => e = .returned (.int .i64 1) ∧ Below Z.heap.size Z Z' := fun Z => by
  have := oterms_any Z o01 _ _ (odNil Z true) (tb, .slice none 0 0) (ta, .slice none 0 0) (okAB Z).2 (okAB Z).1 Z (Below.refl _ _)
  simp only [alv4] at this
  exact this
 have hr1' : (Instr.storeAt 30 (.pointer (some ⟨w.heap.size, 0, none⟩)) (.agg #[.int .i64 0, .string ⟨#[97]⟩, .slice none 0 0])).run Tryz.prog W2 = .ok () Y1 := hr1
 have hr2' : (Instr.storeAt 30 (.pointer (some ⟨w.heap.size + 1, 0, none⟩)) (.agg #[.int .i64 0, .string ⟨#[98]⟩, .slice none 0 0])).run Tryz.prog Y1 = .ok () Y2 := hr2
 have HB : Hid (Below w.heap.size w Y3) := bw
 have HQ : Hid ((∀ Z : World, Calls Tryz.prog 13 #[.agg #[.bool false, .slice none 0 0, .slice none 0 0], .agg #[.bool true, .int .i64 0, .string ⟨#[97]⟩, .slice none 0 0, .int .i64 0, .string ⟨#[98]⟩, .slice none 0 0], .agg #[.bool false, .int .i64 0, .string ⟨#[97]⟩, .slice none 0 0, .int .i64 0, .string ⟨#[98]⟩, .slice none 0 0]] Z fun e Z' => e = .returned (.int .i64 1) ∧ Below Z.heap.size Z Z') ∧ (∀ Z : World, Calls Tryz.prog 17 #[.agg #[.bool false, .slice none 0 0, .slice none 0 0], .slice (some ⟨Z.heap.size, 0, none⟩) 1 1, .int .i64 0] (Z.alloc (.cells #[.bool false, .int .i64 0, .string ⟨#[97]⟩, .slice none 0 0, .int .i64 0, .string ⟨#[98]⟩, .slice none 0 0] 32)) fun e Z' => e = .returned (.bool true) ∧ Below Z.heap.size Z Z') ∧ (∀ Z : World, Calls Tryz.prog 13 #[.agg #[.bool false, .slice none 0 0, .slice none 0 0], .agg #[.bool false, .int .i64 0, .string ⟨#[97]⟩, .slice none 0 0, .int .i64 0, .string ⟨#[98]⟩, .slice none 0 0], .agg #[.bool false, .int .i64 0, .string ⟨#[98]⟩, .slice none 0 0, .int .i64 0, .string ⟨#[97]⟩, .slice none 0 0]] Z fun e Z' => e = .returned (.int .i64 0) ∧ Below Z.heap.size Z Z') ∧ ∀ Z : World, Calls Tryz.prog 11 #[.agg #[.bool true, .slice none 0 0, .slice none 0 0], .agg #[.int .i64 0, .string ⟨#[98]⟩, .slice none 0 0], .agg #[.int .i64 0, .string ⟨#[97]⟩, .slice none 0 0]] Z fun e Z' => e = .returned (.int .i64 1) ∧ Below Z.heap.size Z Z') := ⟨q1, q2, q3, q4⟩
 obtain ⟨⟨k0, k1, k2⟩, ⟨k3, k4, k5⟩, k6, k7, k8⟩ := HC.out Y3 (Below.refl _ _)
 clear b1 b2 z1 z2 z2' c1 c1' c2 on1 on2 sy1 sy2 b3 s3 o0 o1 o2 bw s2 q1 q2 q3 q4 hr1 hr2
 go_enter Tryz.func9, Tryz.ntmps9
 go_wp2_with (first | (refine wpList_store_run rfl 30 _ _ rfl (.pointer (some ⟨w.heap.size, 0, none⟩)) (.agg #[.int .i64 0, .string ⟨#[97]⟩, .slice none 0 0]) rfl rfl hr1' ?_) | (refine wpList_store_run rfl 30 _ _ rfl (.pointer (some ⟨w.heap.size + 1, 0, none⟩)) (.agg #[.int .i64 0, .string ⟨#[98]⟩, .slice none 0 0]) rfl rfl hr2' ?_))
 try rw [h3]
 refine (HQ.out.1 Y3).mono ?_
 rintro e X1 ⟨rfl, d1⟩
 have HB1 : Hid (Below Y3.heap.size Y3 X1) := d1
 clear d1 k0 k1 k2 k3 k4 k5 k6 k7 k8
 obtain ⟨⟨k0, k1, k2⟩, ⟨k3, k4, k5⟩, k6, k7, k8⟩ := HC.out X1 HB1.out
 go_wp2_with fail
 refine (HQ.out.2.1 X1).mono ?_
 rintro e X2 ⟨rfl, d2⟩
 have HB2 : Hid (Below Y3.heap.size Y3 X2) := HB1.out.trans (d2.mono HB1.out.size)
 clear d2 k0 k1 k2 k3 k4 k5 k6 k7 k8
 obtain ⟨⟨k0, k1, k2⟩, ⟨k3, k4, k5⟩, k6, k7, k8⟩ := HC.out X2 HB2.out
 go_wp2_with fail
 refine (HQ.out.2.2.1 X2).mono ?_
 rintro e X3 ⟨rfl, d3⟩
 have HB3 : Hid (Below Y3.heap.size Y3 X3) := HB2.out.trans (d3.mono HB2.out.size)
 clear d3 k0 k1 k2 k3 k4 k5 k6 k7 k8
 obtain ⟨⟨k0, k1, k2⟩, ⟨k3, k4, k5⟩, k6, k7, k8⟩ := HC.out X3 HB3.out
 go_wp2_with fail
 refine (HQ.out.2.2.2 X3).mono ?_
 rintro e X4 ⟨rfl, d4⟩
 go_wp2
 go_ret
 have e3 : Below w.heap.size w X3 := HB.out.trans (HB3.out.mono HB.out.size)
 exact ⟨rfl, e3.trans (d4.mono e3.size)⟩
end Go.Proofs.YtglphfhlpobgcaaGreat
