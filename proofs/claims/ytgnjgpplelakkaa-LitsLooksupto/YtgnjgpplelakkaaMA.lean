/-
  lits.Equal.
-/
import Derived.Test.YtgnjgpplelakkaaLB
namespace Go.Proofs.Ytgnjgpplelakkaa
open Go.RowKit

/-- Alike, side by side. -/
noncomputable def leq (x y : Lt) : Bool := (x.neg == y.neg) && same x.l y.l && same x.r y.r
theorem leq_iff {x y : Lt} : leq x y = true ↔ x = y := by
  unfold leq
  rw [Bool.and_eq_true, Bool.and_eq_true, same_iff, same_iff, beq_iff_eq]
  constructor
  · rintro ⟨⟨h1, h2⟩, h3⟩
    cases x; cases y
    simp_all
  · rintro rfl
    exact ⟨⟨rfl, rfl⟩, rfl⟩
open Classical in
noncomputable def ceq (c d : List Lt) : Bool := decide (c = d)

theorem ceq_true {c d : List Lt} : ceq c d = true ↔ c = d := by simp [ceq]
theorem ceq_false {c d : List Lt} (h : c ≠ d) : ceq c d = false := by simp [ceq, h]

set_option maxRecDepth 100000 in
set_option maxHeartbeats 4000000 in
theorem eq1_any (x y : Lt) (a b c d : Value) (w : World) (hxl : ArgsAt w a x.l.args) (hxr : ArgsAt w b x.r.args) (hyl : ArgsAt w c y.l.args) (hyr : ArgsAt w d y.r.args) :
    Calls Try.prog 47 #[lval x a b, lval y c d] w fun e w' => e = .returned (.bool (leq x y)) ∧ Below w.heap.size w w' := by
  have hS0 := TwoL.new hxl hxr hyl hyr
  have hLL : Serves (TwoL w x a b y c d) 48 #[tval x.l a, tval y.l c] (.bool (same x.l y.l)) := TwoL.serves fun X hX => tsame_any x.l y.l _ _ X hX.lx.al hX.ly.al
  have hRR : Serves (TwoL w x a b y c d) 48 #[tval x.r b, tval y.r d] (.bool (same x.r y.r)) := TwoL.serves fun X hX => tsame_any x.r y.r _ _ X hX.lx.ar hX.ly.ar
  have hC := fun X (h : TwoL w x a b y c d X) => And.intro h.lx.zero h.ly.zero
  have hbl := fun X (h : TwoL w x a b y c d X) => h.bel
  obtain ⟨_, _, rfl, _⟩ := hxl.slice
  obtain ⟨_, _, rfl, _⟩ := hxr.slice
  obtain ⟨_, _, rfl, _⟩ := hyl.slice
  obtain ⟨_, _, rfl, _⟩ := hyr.slice
  generalize hS : TwoL w x _ _ y _ _ = S at *
  clear hS hxl hxr hyl hyr
  have HE : Hid (leq x y = ((x.neg == y.neg) && same x.l y.l && same x.r y.r)) := rfl
  generalize same x.l y.l = p at *
  generalize same x.r y.r = q at *
  obtain ⟨⟨a0, a1, a2, a3, a4, a5, a6⟩, b0, b1, b2, b3, b4, b5, b6⟩ := hC _ hS0
  obtain ⟨n1, xl, xr⟩ := x
  obtain ⟨n2, yl, yr⟩ := y
  simp only at *
  by_cases hn : n1 = n2
  · subst hn
    have hb : (n1 == n1) = true := by simp
    cases p
    · go_enter Try.func47, Try.ntmps47
      go_wp2_with (first | (go_at_call 48; refine (hLL _ hS0).mono ?_; rintro e W1 ⟨rfl, H1⟩))
      go_ret
      exact ⟨ret_bool (by rw [HE.out]; simp), hbl _ H1⟩
    · go_enter Try.func47, Try.ntmps47
      go_wp2_with (first
        | (go_at_call 48; refine (hRR _ H1).mono ?_; rintro e W2 ⟨rfl, H2⟩)
        | (go_at_call 48; refine (hLL _ hS0).mono ?_; rintro e W1 ⟨rfl, H1⟩; obtain ⟨⟨a10, a11, a12, a13, a14, a15, a16⟩, b10, b11, b12, b13, b14, b15, b16⟩ := hC _ H1))
      go_ret
      exact ⟨ret_bool (by rw [HE.out]; simp), hbl _ H2⟩
  · have hb : (n1 == n2) = false := by simpa using hn
    go_enter Try.func47, Try.ntmps47
    go_wp2
    go_ret
    exact ⟨ret_bool (by rw [HE.out, hb]; rfl), hbl _ hS0⟩

set_option maxRecDepth 100000 in
set_option maxHeartbeats 4000000 in
theorem ceqf_any (l m : List Lt) (v u : Value) (w : World) (hl : ClauseAt w v l) (hm : ClauseAt w u m) :
    Calls Try.prog 46 #[v, u, .func (.func 47) #[] #[]] w fun e w' => e = .returned (.bool (ceq l m)) ∧ Below w.heap.size w w' := by
  obtain ⟨a, c, rfl⟩ := hl.slice
  obtain ⟨b, d, rfl⟩ := hm.slice
  have hlen := hl.len
  have hlen' := hm.len
  have HL : Hid (ClauseAt w (.slice a l.length c) l) := hl
  have HM : Hid (ClauseAt w (.slice b m.length d) m) := hm
  clear hl hm
  by_cases hlm : l.length = m.length
  · have hbn : ((l.length : Int) != (m.length : Int)) = false := by rw [bne_eq_false_iff_eq]; omega
    have HLM : Hid (l.length = m.length) := hlm
    clear hlm
    go_enter Try.func46, Try.ntmps46
    go_wp2
    go_loopw [17] (fun vi wr => ∃ i : Nat, vi = .int .i64 i ∧ i ≤ l.length ∧ Below w.heap.size w wr ∧ l.take i = m.take i) (fun vi _ => l.length - (intOf vi).toNat)
    case atStart => exact ⟨0, rfl, Nat.zero_le _, Below.refl _ _, by simp⟩
    case round =>
      obtain ⟨i, rfl, hi, hb, hall⟩ := hrel
      by_cases hlt : i < l.length
      · have hlt' : i < m.length := by have := HLM.out; omega
        obtain ⟨bb, o, sl, sr, rfl, hX⟩ := (HL.out.keep hb).nth hlt
        obtain ⟨bb', o', sl', sr', rfl, hY0⟩ := (HM.out.keep hb).nth hlt'
        have HN : Hid (l[i] = m[i] → l.take (i + 1) = m.take (i + 1)) := fun e => by rw [List.take_succ_eq_append_getElem hlt, List.take_succ_eq_append_getElem hlt', hall, e]
        have HF : Hid (l[i] ≠ m[i] → ceq l m = false) := fun e => ceq_false fun h => e (by simp [h])
        obtain ⟨x, hx⟩ : ∃ x, l[i] = x := ⟨_, rfl⟩
        obtain ⟨y, hy⟩ : ∃ y, m[i] = y := ⟨_, rfl⟩
        rw [hx] at hX HN HF
        rw [hy] at hY0 HN HF
        have b1 := below_box wr (lbox x sl sr)
        have b2 := below_box2 wr (lbox x sl sr) (lbox y sl' sr')
        have hY := hY0.keep b1
        have hT : TwoL wr x sl sr y sl' sr' ((wr.alloc (lbox x sl sr)).alloc (lbox y sl' sr')) := TwoL.new hX.al hX.ar hY0.al hY0.ar
        have hcall := eq1_any x y sl sr sl' sr' _ hT.lx.al hT.lx.ar hT.ly.al hT.ly.ar
        obtain ⟨c0, c1, c2, c3, c4, c5, c6⟩ : wr.cell? ⟨bb, o + i * 7, none⟩ = some (.bool x.neg) ∧ wr.cell? ⟨bb, o + i * 7 + 1, none⟩ = some (.int .i64 x.l.v) ∧ wr.cell? ⟨bb, o + i * 7 + 2, none⟩ = some (.string x.l.fn) ∧ wr.cell? ⟨bb, o + i * 7 + 3, none⟩ = some sl ∧ wr.cell? ⟨bb, o + i * 7 + 4, none⟩ = some (.int .i64 x.r.v) ∧ wr.cell? ⟨bb, o + i * 7 + 5, none⟩ = some (.string x.r.fn) ∧ wr.cell? ⟨bb, o + i * 7 + 6, none⟩ = some sr := ⟨hX.c0, hX.c1, hX.c2, hX.c3, hX.c4, hX.c5, hX.c6⟩
        obtain ⟨d0, d1, d2, d3, d4, d5, d6⟩ : (wr.alloc (lbox x sl sr)).cell? ⟨bb', o' + i * 7, none⟩ = some (.bool y.neg) ∧ (wr.alloc (lbox x sl sr)).cell? ⟨bb', o' + i * 7 + 1, none⟩ = some (.int .i64 y.l.v) ∧ (wr.alloc (lbox x sl sr)).cell? ⟨bb', o' + i * 7 + 2, none⟩ = some (.string y.l.fn) ∧ (wr.alloc (lbox x sl sr)).cell? ⟨bb', o' + i * 7 + 3, none⟩ = some sl' ∧ (wr.alloc (lbox x sl sr)).cell? ⟨bb', o' + i * 7 + 4, none⟩ = some (.int .i64 y.r.v) ∧ (wr.alloc (lbox x sl sr)).cell? ⟨bb', o' + i * 7 + 5, none⟩ = some (.string y.r.fn) ∧ (wr.alloc (lbox x sl sr)).cell? ⟨bb', o' + i * 7 + 6, none⟩ = some sr' := ⟨hY.c0, hY.c1, hY.c2, hY.c3, hY.c4, hY.c5, hY.c6⟩
        obtain ⟨⟨k0, k1, k2, k3, k4, k5, k6⟩, q0, q1, q2, q3, q4, q5, q6⟩ := And.intro hT.lx.zero hT.ly.zero
        have HB : Hid (Below w.heap.size w ((wr.alloc (lbox x sl sr)).alloc (lbox y sl' sr'))) := hb.trans (b2.mono hb.size)
        obtain ⟨_, _, rfl, _⟩ := hX.al.slice
        obtain ⟨_, _, rfl, _⟩ := hX.ar.slice
        obtain ⟨_, _, rfl, _⟩ := hY0.al.slice
        obtain ⟨_, _, rfl, _⟩ := hY0.ar.slice
        have i0' : (i : Int) < (l.length : Int) := by omega
        have i1' : (0 : Int) ≤ (i : Int) := by omega
        have i2' : (i : Int) < (m.length : Int) := by omega
        clear hX hY hY0 hT b1 b2 hb hall hx hy
        cases hE : leq x y
        · rw [hE] at hcall
          have HG : Hid (ceq l m = false) := HF.out fun e => by rw [leq_iff.2 e] at hE; cases hE
          clear hE HF HN
          go_wp2_with (first | (go_at_call 47; refine hcall.mono ?_; rintro e W1 ⟨rfl, H1⟩))
          go_ret
          exact ⟨ret_bool HG.out.symm, HB.out.trans (H1.mono HB.out.size)⟩
        · rw [hE] at hcall
          have HG : Hid (l.take (i + 1) = m.take (i + 1)) := HN.out (leq_iff.1 hE)
          clear hE HF HN
          go_wp2_with (first | (go_at_call 47; refine hcall.mono ?_; rintro e W1 ⟨rfl, H1⟩))
          go_roundw
          case rel => exact ⟨i + 1, by go_num, by omega, HB.out.trans (H1.mono HB.out.size), HG.out⟩
          case measure => simp [intOf]; omega
      · have HG : Hid (ceq l m = true) := by
          refine ceq_true.2 ?_
          rw [List.take_of_length_le (by omega), List.take_of_length_le (by have := HLM.out; omega)] at hall
          exact hall
        clear hall
        go_wp2
        go_ret
        exact ⟨ret_bool HG.out.symm, hb⟩
  · have hbn : ((l.length : Int) != (m.length : Int)) = true := by rw [bne_iff_ne]; omega
    have HG : Hid (ceq l m = false) := ceq_false fun h => hlm (by rw [h])
    go_enter Try.func46, Try.ntmps46
    go_wp2
    go_ret
    exact ⟨ret_bool HG.out.symm, Below.refl _ _⟩

set_option maxHeartbeats 1000000 in
theorem cequal_any (l m : List Lt) (v u : Value) (w : World) (hl : ClauseAt w v l) (hm : ClauseAt w u m) :
    Calls Try.prog 15 #[v, u] w fun e w' => e = .returned (.bool (ceq l m)) ∧ Below w.heap.size w w' := by
  have h := ceqf_any l m v u w hl hm
  obtain ⟨a, c, rfl⟩ := hl.slice
  obtain ⟨b, d, rfl⟩ := hm.slice
  clear hl hm
  generalize ceq l m = r at *
  go_enter Try.func15, Try.ntmps15
  go_wp2_with (first | (go_at_call 46; refine h.mono ?_; rintro e W1 ⟨rfl, H1⟩))
  go_ret
  exact ⟨rfl, H1⟩

end Go.Proofs.Ytgnjgpplelakkaa
