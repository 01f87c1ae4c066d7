/-
  Lists of clauses; what is asked of a term.
-/
import Derived.Test.YtglphfhlpobgcaaGreatYL
import Derived.Test.YtglphfhlpobgcaaGreatMF
import Derived.Test.YtglphfhlpobgcaaGreatKE
import Derived.Test.YtglphfhlpobgcaaGreatRB
namespace Go.Proofs.YtglphfhlpobgcaaGreat
open Go.RowKit Go.Maps

/-- The cells of one thing. -/
def CsC (W : World) (b o : Nat) (p : (List Lt × Value)) : Prop := W.cell? ⟨b, o, none⟩ = some p.2
theorem CsC.keep {W W' : World} {n b o : Nat} {p : (List Lt × Value)} (h : CsC W b o p) (hb : Below n W W') (hl : b < n) : CsC W' b o p := by
  exact kc hb hl h
/-- What holds of a thing. -/
def OkC (w0 : World) (p : (List Lt × Value)) : Prop := ClauseAt w0 p.2 p.1 ∧ ∀ x ∈ p.1, x.l.size ≤ 1048576 ∧ x.r.size ≤ 1048576
theorem OkC.keep {w0 w1 : World} {p : (List Lt × Value)} (h : OkC w0 p) (hb : Below w0.heap.size w0 w1) : OkC w1 p := ⟨h.1.keep hb, h.2⟩
/-- A list that is read. -/
structure RdC (w0 W : World) (v : Value) (ps : List (List Lt × Value)) : Prop where
  sl : ∃ a c, v = .slice a ps.length c ∧ ps.length ≤ c ∧ c ≤ 9223372036854775807 ∧ ∀ i (h : i < ps.length), ∃ b o, a = some ⟨b, o, none⟩ ∧ b < W.heap.size ∧ CsC W b (o + i * 1) ps[i]
  ok : ∀ p ∈ ps, OkC w0 p
theorem RdC.keep {w0 W W' : World} {v : Value} {ps : List (List Lt × Value)} (h : RdC w0 W v ps) (hb : Below W.heap.size W W') : RdC w0 W' v ps := by
  obtain ⟨⟨a, c, e, h1, h2, h3⟩, ok⟩ := h
  refine ⟨⟨a, c, e, h1, h2, fun i hi => ?_⟩, ok⟩
  obtain ⟨b, o, e, hl, hc⟩ := h3 i hi
  exact ⟨b, o, e, Nat.lt_of_lt_of_le hl hb.size, hc.keep hb hl⟩
theorem RdC.base {w0 w1 W : World} {v : Value} {ps : List (List Lt × Value)} (h : RdC w0 W v ps) (hb : Below w0.heap.size w0 w1) : RdC w1 W v ps := ⟨h.sl, fun p hp => (h.ok p hp).keep hb⟩
theorem RdC.slice {w0 W : World} {v : Value} {ps : List (List Lt × Value)} (h : RdC w0 W v ps) : ∃ a c, v = .slice a ps.length c ∧ ps.length ≤ c ∧ c ≤ 9223372036854775807 := by
  obtain ⟨⟨a, c, e, h1, h2, _⟩, _⟩ := h
  exact ⟨a, c, e, h1, h2⟩
theorem RdC.nth {w0 W : World} {a : Option Addr} {n c : Nat} {ps : List (List Lt × Value)} (h : RdC w0 W (.slice a n c) ps) {i : Nat} (hi : i < ps.length) : ∃ b o, a = some ⟨b, o, none⟩ ∧ b < W.heap.size ∧ CsC W b (o + i * 1) ps[i] ∧ OkC w0 ps[i] := by
  obtain ⟨⟨a', c', e, h1, h2, h3⟩, ok⟩ := h
  injection e with e1 e2 e3
  subst e1
  obtain ⟨b, o, e, hl, hc⟩ := h3 i hi
  exact ⟨b, o, e, hl, hc, ok _ (List.getElem_mem hi)⟩
theorem rdC_nil (w0 W : World) : RdC w0 W (.slice none 0 0) [] := ⟨⟨none, 0, rfl, Nat.le_refl _, by omega, fun i h => absurd h (by simp)⟩, by simp⟩

/-- The cells of a list. -/
def flC (ps : List (List Lt × Value)) : List Value := ps.flatMap fun p => [p.2]
theorem flC_len (ps : List (List Lt × Value)) : (flC ps).length = ps.length * 1 := by
  induction ps with
  | nil => rfl
  | cons p r ih => simp only [flC, List.flatMap_cons, List.length_append, List.length_cons, List.length_nil] at ih ⊢; omega
theorem flC_app (a b : List (List Lt × Value)) : flC (a ++ b) = flC a ++ flC b := by simp [flC]
theorem flC_one (p : (List Lt × Value)) : flC [p] = [p.2] := by simp [flC]
theorem flC_drop (ps : List (List Lt × Value)) (i : Nat) : (flC ps).drop (i * 1) = flC (ps.drop i) := by
  by_cases h : i ≤ ps.length
  · have e : ps = ps.take i ++ ps.drop i := (List.take_append_drop i ps).symm
    have hl : (flC (ps.take i)).length = i * 1 := by rw [flC_len, List.length_take, Nat.min_eq_left h]
    conv => lhs; rw [e, flC_app, ← hl]
    rw [List.drop_left]
  · rw [List.drop_eq_nil_of_le (by rw [flC_len]; omega), List.drop_eq_nil_of_le (by omega)]
    rfl
theorem flC_take (ps : List (List Lt × Value)) (i : Nat) : (flC ps).take (i * 1) = flC (ps.take i) := by
  by_cases h : i ≤ ps.length
  · have e : ps = ps.take i ++ ps.drop i := (List.take_append_drop i ps).symm
    have hl : (flC (ps.take i)).length = i * 1 := by rw [flC_len, List.length_take, Nat.min_eq_left h]
    conv => lhs; rw [e, flC_app, ← hl]
    rw [List.take_left]
  · rw [List.take_of_length_le (by rw [flC_len]; omega), List.take_of_length_le (by omega)]
theorem flC_get (ps : List (List Lt × Value)) (i : Nat) (h : i < ps.length) (j : Nat) (hj : j < 1) : (flC ps)[i * 1 + j]? = (flC [ps[i]])[j]? := by
  rw [← List.getElem?_drop, flC_drop, List.drop_eq_getElem_cons h, show ps[i] :: ps.drop (i + 1) = [ps[i]] ++ ps.drop (i + 1) from rfl, flC_app, List.getElem?_append_left (by rw [flC_len]; simpa using hj)]
/-- Cells that hold a list. -/
theorem csC_of {W : World} {b off : Nat} {ps : List (List Lt × Value)} (h : ∀ j u, (flC ps)[j]? = some u → W.cell? ⟨b, off + j, none⟩ = some u) {i : Nat} (hi : i < ps.length) : CsC W b (off + i * 1) ps[i] := by
  have hc : ∀ j u, j < 1 → (flC [ps[i]])[j]? = some u → W.cell? ⟨b, off + i * 1 + j, none⟩ = some u := fun j u hj hu => by
    rw [Nat.add_assoc]; exact h _ _ ((flC_get ps i hi j hj).trans hu)
  rw [flC_one] at hc
  have := hc 0 _ (by omega) rfl
  simpa [CsC] using this
theorem rdC_of_row {w0 W : World} {base : Nat} {v : Value} {ps : List (List Lt × Value)} (h : W.ownsRow base 35 1 v ps.length (flC ps)) (ok : ∀ p ∈ ps, OkC w0 p) : RdC w0 W v ps := by
  obtain ⟨hl, ⟨e, h0⟩ | ⟨g, cap, cur, e, hb, hg, hc, hm, hsz, ht⟩⟩ := h
  · have : ps = [] := List.eq_nil_of_length_eq_zero h0
    subst this
    rw [e]
    exact rdC_nil w0 W
  · refine ⟨⟨_, cap, e, hc, by unfold maxLen at hm; omega, fun i hi => ⟨g, 0, rfl, (Array.getElem?_eq_some_iff.1 hg).1, ?_⟩⟩, ok⟩
    refine csC_of (fun j u hj => ?_) hi
    have hjl : j < ps.length * 1 := by have := (List.getElem?_eq_some_iff.1 hj).1; rwa [flC_len] at this
    rw [← ht, List.getElem?_take, if_pos hjl] at hj
    rw [Nat.zero_add, cell_of_row _ _ _ _ 35 (0, 0) hg, ← hj]
    simp
theorem oneC (p : (List Lt × Value)) (hs : ∃ a n c, p.2 = .slice a n c) : ∀ u ∈ flC [p], u.oneCell' = true := by
  rw [flC_one]
  intro u hu
  have e : u = p.2 := by simpa using hu
  obtain ⟨a, n, c, e'⟩ := hs
  rw [e, e']; rfl
theorem onesC {w0 : World} {ps : List (List Lt × Value)} (ok : ∀ p ∈ ps, OkC w0 p) : ∀ u ∈ flC ps, u.oneCell' = true := by
  intro u hu
  simp only [flC, List.mem_flatMap] at hu
  obtain ⟨p, hp, hu⟩ := hu
  have h := ok p hp
  refine oneC p (by obtain ⟨a, c, e⟩ := h.1.slice; exact ⟨_, _, _, e⟩) u (by rw [flC_one]; exact hu)

/-- A function that tells of a thing. -/
def PrC (w0 W0 : World) (g : Nat) (lb : Array Value) (P : (List Lt × Value) → Bool) : Prop :=
  ∀ (p : (List Lt × Value)) (W : World), OkC w0 p → Below W0.heap.size W0 W → Calls Tryz.prog g (#[p.2] ++ lb) W fun e W' => e = .returned (.bool (P p)) ∧ Below W.heap.size W W'

set_option maxRecDepth 100000 in
set_option maxHeartbeats 2000000 in
theorem indexC_any (w0 W0 : World) (g : Nat) (lb : Array Value) (P : (List Lt × Value) → Bool) (eg : ∀ args w, (callFunc g args).run Tryz.prog w = .ok (.enter g args) w) (hp : PrC w0 W0 g lb P) (ps : List (List Lt × Value)) (v : Value) (w : World) (hw : Below W0.heap.size W0 w) (hl : RdC w0 w v ps) :
    Calls Tryz.prog 109 #[v, .func (.func g) #[] lb] w fun e W' => e = .returned (.int .i64 (firstG P ps 0)) ∧ Below w.heap.size w W' := by
  obtain ⟨a, c, rfl, hc1, hc2⟩ := hl.slice
  have HL : Hid (RdC w0 w (.slice a ps.length c) ps) := hl
  clear hl
  go_enter Tryz.func109, Tryz.ntmps109
  go_wp2
  go_loopw [8] (fun vi wr => ∃ i : Nat, vi = .int .i64 i ∧ i ≤ ps.length ∧ Below w.heap.size w wr ∧ ∀ j (hj : j < ps.length), j < i → P ps[j] = false) (fun vi _ => ps.length - (intOf vi).toNat)
  case atStart => exact ⟨0, rfl, Nat.zero_le _, Below.refl _ _, fun j _ hj => absurd hj (by omega)⟩
  case round =>
    obtain ⟨i, rfl, hi, hb, hall⟩ := hrel
    by_cases hlt : i < ps.length
    · obtain ⟨bb, o, rfl, hlb, hcs, hok⟩ := (HL.out.keep hb).nth hlt
      have hc := hp ps[i] wr hok (hw.trans (hb.mono hw.size))
      have HF : Hid (firstG P ps 0 = if P ps[i] then (i : Int) else firstG P (ps.drop (i + 1)) (i + 1)) := by
        show _ = _
        rw [firstG_drop P ps i hi hall, List.drop_eq_getElem_cons hlt]
        rfl
      have HN : Hid (P ps[i] = false → ∀ j (hj : j < ps.length), j < i + 1 → P ps[j] = false) := fun h1 j hj hji => by
        by_cases e : j = i
        · subst e; exact h1
        · exact hall j hj (by omega)
      obtain ⟨q, hq⟩ : ∃ q, ps[i] = q := ⟨_, rfl⟩
      rw [hq] at hcs hok HF HN hc
      obtain ⟨z, hz⟩ : ∃ z, P q = z := ⟨_, rfl⟩
      rw [hz] at HF HN hc
      have HB : Hid (Below w.heap.size w wr) := hb
      clear hq hall hb hz
      obtain ⟨t, s⟩ := q
      have c0 := hcs
      simp only [CsC, Nat.mul_one] at c0
      simp only [OkC] at hok
      simp only at c0 hc
      obtain ⟨_, _, rfl⟩ := hok.1.slice
      
      clear hok hlb
      cases z
      · have HNN : Hid (∀ j (hj : j < ps.length), j < i + 1 → P ps[j] = false) := HN.out rfl
        clear HF HN
        go_wp2_with (first | (go_at_fn g; refine hc.mono ?_; rintro e w3 ⟨rfl, hb3⟩))
        go_roundw
        case rel => exact ⟨i + 1, by go_num, by omega, HB.out.trans (hb3.mono HB.out.size), HNN.out⟩
        case measure => simp [intOf]; omega
      · have HG : Hid (firstG P ps 0 = i) := by show _ = _; rw [HF.out]; rfl
        clear HF HN
        go_wp2_with (first | (go_at_fn g; refine hc.mono ?_; rintro e w3 ⟨rfl, hb3⟩))
        go_ret
        exact ⟨ret_i64 HG.out.symm, HB.out.trans (hb3.mono HB.out.size)⟩
    · have HG : Hid (firstG P ps 0 = -1) := by
        show _ = _
        rw [firstG_drop P ps i hi hall, show i = ps.length by omega, List.drop_length]
        rfl
      clear hall
      go_wp2
      go_ret
      exact ⟨ret_i64 HG.out.symm, hb⟩

set_option maxHeartbeats 1000000 in
theorem containsC_any (w0 W0 : World) (g : Nat) (lb : Array Value) (P : (List Lt × Value) → Bool) (eg : ∀ args w, (callFunc g args).run Tryz.prog w = .ok (.enter g args) w) (hp : PrC w0 W0 g lb P) (ps : List (List Lt × Value)) (v : Value) (w : World) (hw : Below W0.heap.size W0 w) (hl : RdC w0 w v ps) :
    Calls Tryz.prog 70 #[v, .func (.func g) #[] lb] w fun e W' => e = .returned (.bool (ps.any P)) ∧ Below w.heap.size w W' := by
  have hi := indexC_any w0 W0 g lb P eg hp ps v w hw hl
  obtain ⟨a, c, rfl, _, _⟩ := hl.slice
  have HE : Hid (decide (firstG P ps 0 ≥ 0) = ps.any P) := firstG_any P ps 0
  generalize firstG P ps 0 = z at *
  clear hl hp hw
  go_enter Tryz.func70, Tryz.ntmps70
  go_wp2_with (first | (go_at_call 109; refine hi.mono ?_; rintro e w3 ⟨rfl, hb3⟩))
  go_ret
  exact ⟨ret_bool (by rw [← HE.out]), hb3⟩

/-- A clause that came is a list that is read. -/
theorem rdL_of_clause {w : World} {v : Value} {l : List Lt} (h : ClauseAt w v l) (hs : ∀ x ∈ l, x.l.size ≤ 1048576 ∧ x.r.size ≤ 1048576) : ∃ qs : List (Lt × Value × Value), qs.map (·.1) = l ∧ RdL w w v qs := by
  obtain ⟨a, c, rfl, h1, h2, h3⟩ := h
  by_cases h0 : 0 < l.length
  · obtain ⟨b, o, rfl, h4⟩ := h3 h0
    have h5 : ∀ i : Fin l.length, ∃ p : Value × Value, LitAt w b (o + i.1 * 7) l[i.1] p.1 p.2 := fun i => by
      obtain ⟨sl, sr, hh⟩ := h4 i.1 i.2
      exact ⟨(sl, sr), hh⟩
    obtain ⟨f, hf⟩ := Classical.axiomOfChoice h5
    have hl : (List.ofFn fun i : Fin l.length => (l[i.1], f i)).length = l.length := by simp
    refine ⟨List.ofFn fun i : Fin l.length => (l[i.1], f i), ?_, ⟨_, c, by rw [hl], by rw [hl]; exact h1, h2, fun i hi => ⟨b, o, rfl, ?_, ?_⟩⟩, fun p hp => ?_⟩
    · apply List.ext_getElem
      · simp
      · intro i h1 h2
        simp
    · exact (hf ⟨0, h0⟩).lt
    · have hi' : i < l.length := by simpa using hi
      have := hf ⟨i, hi'⟩
      simp only [List.getElem_ofFn]
      exact ⟨this.c0, this.c1, this.c2, this.c3, this.c4, this.c5, this.c6⟩
    · obtain ⟨i, hi, rfl⟩ := List.getElem_of_mem hp
      have hi' : i < l.length := by simpa using hi
      have := hf ⟨i, hi'⟩
      simp only [List.getElem_ofFn]
      exact ⟨⟨this.al, this.ar⟩, hs _ (List.getElem_mem hi')⟩
  · have e : l = [] := List.eq_nil_of_length_eq_zero (by omega)
    subst e
    exact ⟨[], rfl, ⟨⟨a, c, rfl, h1, h2, fun i hi => absurd hi (by simp)⟩, by simp⟩⟩

open Classical in
/-- What Lits answers. -/
noncomputable def litR (o : Od) (x y : Lt) : Int := if o.g.Ok ∧ (x.l.rightW = 0 ∧ x.r.rightW = 0) ∧ y.l.rightW = 0 ∧ y.r.rightW = 0 then lcm o x y else 2

theorem eg29 : ∀ args w, (callFunc 29 args).run Tryz.prog w = .ok (.enter 29 args) w := enters_of Tryz.func29 (by kernel_rfl) rfl
set_option maxRecDepth 100000 in
set_option maxHeartbeats 2000000 in
theorem wrong_any (w0 W0 : World) (hw : Below w0.heap.size w0 W0) : PrT w0 W0 29 #[] (fun p => decide (p.1.rightW ≠ 0)) := by
  intro p W hp hW
  show Calls Tryz.prog 29 #[tval p.1 p.2] W _
  obtain ⟨x, s⟩ := p
  simp only [OkT] at hp
  have hb := below_box W (tbox x s)
  obtain ⟨t0, t1, t2⟩ := tbox_cells W x s
  have b0 : Below w0.heap.size w0 (W.alloc (tbox x s)) := (hw.trans (hW.mono hw.size)).trans (hb.mono (by have := hw.size; have := hW.size; omega))
  have hc := tright_any x s (W.alloc (tbox x s)) (ArgsAt.keep b0 (Nat.le_refl _) hp.1) (short_of x hp.2).1
  obtain ⟨a, c, rfl, _, _⟩ := hp.1.slice
  obtain ⟨z, hz⟩ : ∃ z, x.rightW = z := ⟨_, rfl⟩
  simp only [hz]
  rw [hz] at hc
  have HB : Hid (Below W.heap.size W (W.alloc (tbox x (.slice a x.args.length c)))) := hb
  clear hp hb b0 hW hw hz
  go_enter Tryz.func29, Tryz.ntmps29
  go_wp2_with (first | (go_at_call 30; refine hc.mono ?_; rintro e w3 ⟨rfl, hb3⟩))
  go_ret
  exact ⟨ret_bool (by rw [Bool.eq_iff_iff]; simp), HB.out.trans (hb3.mono HB.out.size)⟩

end Go.Proofs.YtglphfhlpobgcaaGreat
