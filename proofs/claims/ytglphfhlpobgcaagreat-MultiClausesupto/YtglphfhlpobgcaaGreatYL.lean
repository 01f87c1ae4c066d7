import Derived.Test.YtglphfhlpobgcaaGreatYF
import Derived.Test.YtglphfhlpobgcaaGreatLB
import Derived.Test.YtglphfhlpobgcaaGreatYK
namespace Go.Proofs.YtglphfhlpobgcaaGreat
set_option maxRecDepth 100000
set_option maxHeartbeats 8000000
open Go.RowKit Go.Maps
def CsL (W : World) (b o : Nat) (p : (Lt × Value × Value)) : Prop := W.cell? ⟨b, o, none⟩ = some (.bool p.1.neg) ∧ W.cell? ⟨b, o + 1, none⟩ = some (.int .i64 p.1.l.v) ∧ W.cell? ⟨b, o + 2, none⟩ = some (.string p.1.l.fn) ∧ W.cell? ⟨b, o + 3, none⟩ = some p.2.1 ∧ W.cell? ⟨b, o + 4, none⟩ = some (.int .i64 p.1.r.v) ∧ W.cell? ⟨b, o + 5, none⟩ = some (.string p.1.r.fn) ∧ W.cell? ⟨b, o + 6, none⟩ = some p.2.2
theorem CsL.keep {W W' : World} {n b o : Nat} {p : (Lt × Value × Value)} (h : CsL W b o p) (hb : Below n W W') (hl : b < n) : CsL W' b o p := by
 obtain ⟨c0, c1, c2, c3, c4, c5, c6⟩ := h
 exact ⟨kc hb hl c0, kc hb hl c1, kc hb hl c2, kc hb hl c3, kc hb hl c4, kc hb hl c5, kc hb hl c6⟩
def OkL (w0 : World) (p : (Lt × Value × Value)) : Prop := (ArgsAt w0 p.2.1 p.1.l.args ∧ ArgsAt w0 p.2.2 p.1.r.args) ∧ p.1.l.size <= 1048576 ∧ p.1.r.size <= 1048576
theorem OkL.keep {w0 w1 : World} {p : (Lt × Value × Value)} (h : OkL w0 p) (hb : Below w0.heap.size w0 w1) : OkL w1 p := ⟨⟨ArgsAt.keep hb (Nat.le_refl _) h.1.1, ArgsAt.keep hb (Nat.le_refl _) h.1.2⟩, h.2⟩
structure RdL (w0 W : World) (v : Value) (ps : List (Lt × Value × Value)) : Prop where
 sl : ∃ a c, v = .slice a ps.length c ∧ ps.length <= c ∧ c <= 9223372036854775807 ∧ ∀ i (h : i < ps.length), ∃ b o, a = some ⟨b, o, none⟩ ∧ b < W.heap.size ∧ CsL W b (o + i * 7) ps[i]
 ok : ∀ p ∈ ps, OkL w0 p
theorem RdL.keep {w0 W W' : World} {v : Value} {ps : List (Lt × Value × Value)} (h : RdL w0 W v ps) (hb : Below W.heap.size W W') : RdL w0 W' v ps := by
 obtain ⟨⟨a, c, e, h1, h2, h3⟩, ok⟩ := h
 refine ⟨⟨a, c, e, h1, h2, fun i hi => ?_⟩, ok⟩
 obtain ⟨b, o, e, hl, hc⟩ := h3 i hi
 exact ⟨b, o, e, Nat.lt_of_lt_of_le hl hb.size, hc.keep hb hl⟩
theorem RdL.base {w0 w1 W : World} {v : Value} {ps : List (Lt × Value × Value)} (h : RdL w0 W v ps) (hb : Below w0.heap.size w0 w1) : RdL w1 W v ps := ⟨h.sl, fun p hp => (h.ok p hp).keep hb⟩
theorem RdL.slice {w0 W : World} {v : Value} {ps : List (Lt × Value × Value)} (h : RdL w0 W v ps) : ∃ a c, v = .slice a ps.length c ∧ ps.length <= c ∧ c <= 9223372036854775807 := by
 obtain ⟨⟨a, c, e, h1, h2, _⟩, _⟩ := h
 exact ⟨a, c, e, h1, h2⟩
theorem RdL.nth {w0 W : World} {a : Option Addr} {n c : Nat} {ps : List (Lt × Value × Value)} (h : RdL w0 W (.slice a n c) ps) {i : Nat} (hi : i < ps.length) : ∃ b o, a = some ⟨b, o, none⟩ ∧ b < W.heap.size ∧ CsL W b (o + i * 7) ps[i] ∧ OkL w0 ps[i] := by
 obtain ⟨⟨a', c', e, h1, h2, h3⟩, ok⟩ := h
 injection e with e1 e2 e3
 subst e1
 obtain ⟨b, o, e, hl, hc⟩ := h3 i hi
 exact ⟨b, o, e, hl, hc, ok _ (List.getElem_mem hi)⟩
theorem rdL_nil (w0 W : World) : RdL w0 W (.slice none 0 0) [] := ⟨⟨none, 0, rfl, Nat.le_refl _, by omega, fun i h => absurd h (by simp)⟩, by simp⟩
def flL (ps : List (Lt × Value × Value)) : List Value := ps.flatMap fun p => [.bool p.1.neg, .int .i64 p.1.l.v, .string p.1.l.fn, p.2.1, .int .i64 p.1.r.v, .string p.1.r.fn, p.2.2]
theorem flL_len (ps : List (Lt × Value × Value)) : (flL ps).length = ps.length * 7 := by
 induction ps with
 | nil => rfl
 | cons p r ih => simp only [flL, List.flatMap_cons, List.length_append, List.length_cons, List.length_nil] at ih ⊢; omega
theorem flL_app (a b : List (Lt × Value × Value)) : flL (a ++ b) = flL a ++ flL b := by simp [flL]
theorem flL_one (p : (Lt × Value × Value)) : flL [p] = [.bool p.1.neg, .int .i64 p.1.l.v, .string p.1.l.fn, p.2.1, .int .i64 p.1.r.v, .string p.1.r.fn, p.2.2] := by simp [flL]
theorem flL_drop (ps : List (Lt × Value × Value)) (i : Nat) : (flL ps).drop (i * 7) = flL (ps.drop i) := by
 by_cases h : i <= ps.length
 ·have e : ps = ps.take i ++ ps.drop i := (List.take_append_drop i ps).symm
  have hl : (flL (ps.take i)).length = i * 7 := by rw [flL_len, List.length_take, Nat.min_eq_left h]
  conv => lhs; rw [e, flL_app, <- hl]
  rw [List.drop_left]
 ·rw [List.drop_eq_nil_of_le (by rw [flL_len]; omega), List.drop_eq_nil_of_le (by omega)]
  rfl
theorem flL_take (ps : List (Lt × Value × Value)) (i : Nat) : (flL ps).take (i * 7) = flL (ps.take i) := by
 by_cases h : i <= ps.length
 ·have e : ps = ps.take i ++ ps.drop i := (List.take_append_drop i ps).symm
  have hl : (flL (ps.take i)).length = i * 7 := by rw [flL_len, List.length_take, Nat.min_eq_left h]
  conv => lhs; rw [e, flL_app, <- hl]
  rw [List.take_left]
 ·rw [List.take_of_length_le (by rw [flL_len]; omega), List.take_of_length_le (by omega)]
theorem flL_get (ps : List (Lt × Value × Value)) (i : Nat) (h : i < ps.length) (j : Nat) (hj : j < 7) : (flL ps)[i * 7 + j]? = (flL [ps[i]])[j]? := by
 rw [<- List.getElem?_drop, flL_drop, List.drop_eq_getElem_cons h, show ps[i] :: ps.drop (i + 1) = [ps[i]] ++ ps.drop (i + 1) from rfl, flL_app, List.getElem?_append_left (by rw [flL_len]; simpa using hj)]
theorem csL_of {W : World} {b off : Nat} {ps : List (Lt × Value × Value)} (h : ∀ j u, (flL ps)[j]? = some u -> W.cell? ⟨b, off + j, none⟩ = some u) {i : Nat} (hi : i < ps.length) : CsL W b (off + i * 7) ps[i] := by
 have hc : ∀ j u, j < 7 -> (flL [ps[i]])[j]? = some u -> W.cell? ⟨b, off + i * 7 + j, none⟩ = some u := fun j u hj hu => by
  rw [Nat.add_assoc]; exact h _ _ ((flL_get ps i hi j hj).trans hu)
 rw [flL_one] at hc
 refine ⟨hc 0 _ (by omega) rfl, hc 1 _ (by omega) rfl, hc 2 _ (by omega) rfl, hc 3 _ (by omega) rfl, hc 4 _ (by omega) rfl, hc 5 _ (by omega) rfl, hc 6 _ (by omega) rfl⟩
theorem rdL_of_row {w0 W : World} {base : Nat} {v : Value} {ps : List (Lt × Value × Value)} (h : W.ownsRow base 32 7 v ps.length (flL ps)) (ok : ∀ p ∈ ps, OkL w0 p) : RdL w0 W v ps := by
 obtain ⟨hl, ⟨e, h0⟩ | ⟨g, cap, cur, e, hb, hg, hc, hm, hsz, ht⟩⟩ := h
 ·have : ps = [] := List.eq_nil_of_length_eq_zero h0
  subst this
  rw [e]
  exact rdL_nil w0 W
 ·refine ⟨⟨_, cap, e, hc, by unfold maxLen at hm; omega, fun i hi => ⟨g, 0, rfl, (Array.getElem?_eq_some_iff.1 hg).1, ?_⟩⟩, ok⟩
  refine csL_of (fun j u hj => ?_) hi
  have hjl : j < ps.length * 7 := by have := (List.getElem?_eq_some_iff.1 hj).1; rwa [flL_len] at this
  rw [<- ht, List.getElem?_take, if_pos hjl] at hj
  rw [Nat.zero_add, cell_of_row _ _ _ _ 32 (0, 0) hg, <- hj]
  simp
theorem oneL (p : (Lt × Value × Value)) (hs : (∃ a n c, p.2.1 = .slice a n c) ∧ ∃ a n c, p.2.2 = .slice a n c) : ∀ u ∈ flL [p], u.oneCell' = true := by
 rw [flL_one]
 intro u hu
 simp only [List.mem_cons, List.not_mem_nil, or_false] at hu
 rcases hu with rfl | rfl | rfl | rfl | rfl | rfl | rfl
 ·rfl
 ·rfl
 ·rfl
 ·obtain ⟨⟨a, n, c, e⟩, _⟩ := hs
  rw [e]; rfl
 ·rfl
 ·rfl
 ·obtain ⟨_, a, n, c, e⟩ := hs
  rw [e]; rfl
theorem onesL {w0 : World} {ps : List (Lt × Value × Value)} (ok : ∀ p ∈ ps, OkL w0 p) : ∀ u ∈ flL ps, u.oneCell' = true := by
 intro u hu
 simp only [flL, List.mem_flatMap] at hu
 obtain ⟨p, hp, hu⟩ := hu
 have h := ok p hp
 refine oneL p ⟨by obtain ⟨a, c, e, _⟩ := h.1.1.slice; exact ⟨_, _, _, e⟩, by obtain ⟨a, c, e, _⟩ := h.1.2.slice; exact ⟨_, _, _, e⟩⟩ u (by rw [flL_one]; exact hu)
def PrL (w0 W0 : World) (g : Nat) (lb : Array Value) (P : (Lt × Value × Value) -> Bool) : Prop :=
 ∀ (p : (Lt × Value × Value)) (W : World), OkL w0 p -> Below W0.heap.size W0 W -> Calls Tryz.prog g (#[lval p.1 p.2.1 p.2.2] ++ lb) W fun e W' => e = .returned (.bool (P p)) ∧ Below W.heap.size W W'
theorem indexL_any (w0 W0 : World) (g : Nat) (lb : Array Value) (P : (Lt × Value × Value) -> Bool) (eg : ∀ args w, (callFunc g args).run Tryz.prog w = .ok (.enter g args) w) (hp : PrL w0 W0 g lb P) (ps : List (Lt × Value × Value)) (v : Value) (w : World) (hw : Below W0.heap.size W0 w) (hl : RdL w0 w v ps) :
  Calls Tryz.prog 111 #[v, .func (.func g) #[] lb] w fun e W' => e = .returned (.int .i64 (firstG P ps 0)) ∧ Below w.heap.size w W' := by
 obtain ⟨a, c, rfl, hc1, hc2⟩ := hl.slice
 have HL : Hid (RdL w0 w (.slice a ps.length c) ps) := hl
 clear hl
 go_enter Tryz.func111, Tryz.ntmps111
 go_wp2
 go_loopw [8] (fun vi wr => ∃ i : Nat, vi = .int .i64 i ∧ i <= ps.length ∧ Below w.heap.size w wr ∧ ∀ j (hj : j < ps.length), j < i -> P ps[j] = false) (fun vi _ => ps.length - (intOf vi).toNat)
 case atStart => exact ⟨0, rfl, Nat.zero_le _, Below.refl _ _, fun j _ hj => absurd hj (by omega)⟩
 case round =>
  obtain ⟨i, rfl, hi, hb, hall⟩ := hrel
  by_cases hlt : i < ps.length
  ·obtain ⟨bb, o, rfl, hlb, hcs, hok⟩ := (HL.out.keep hb).nth hlt
   have hc := hp ps[i] wr hok (hw.trans (hb.mono hw.size))
   have HF : Hid (firstG P ps 0 = if P ps[i] then (i : Int) else firstG P (ps.drop (i + 1)) (i + 1)) := by
    show _ = _
    rw [firstG_drop P ps i hi hall, List.drop_eq_getElem_cons hlt]
    rfl
   have HN : Hid (P ps[i] = false -> ∀ j (hj : j < ps.length), j < i + 1 -> P ps[j] = false) := fun h1 j hj hji => by
    by_cases e : j = i
    ·subst e; exact h1
    ·exact hall j hj (by omega)
   obtain ⟨q, hq⟩ : ∃ q, ps[i] = q := ⟨_, rfl⟩
   rw [hq] at hcs hok HF HN hc
   obtain ⟨z, hz⟩ : ∃ z, P q = z := ⟨_, rfl⟩
   rw [hz] at HF HN hc
   have HB : Hid (Below w.heap.size w wr) := hb
   clear hq hall hb hz
   obtain ⟨t, s, r⟩ := q
   obtain ⟨c0, c1, c2, c3, c4, c5, c6⟩ := hcs
   simp only [OkL] at hok
   simp only at c0 c1 c2 c3 c4 c5 c6 hc
   obtain ⟨_, _, rfl, _⟩ := hok.1.1.slice
   obtain ⟨_, _, rfl, _⟩ := hok.1.2.slice
   
   clear hok hlb
   cases z
   ·have HNN : Hid (∀ j (hj : j < ps.length), j < i + 1 -> P ps[j] = false) := HN.out rfl
    clear HF HN
    go_wp2_with (first | (go_at_fn g; refine hc.mono ?_; rintro e w3 ⟨rfl, hb3⟩))
    go_roundw
    case rel => exact ⟨i + 1, by go_num, by omega, HB.out.trans (hb3.mono HB.out.size), HNN.out⟩
    case measure => simp [intOf]; omega
   ·have HG : Hid (firstG P ps 0 = i) := by show _ = _; rw [HF.out]; rfl
    clear HF HN
    go_wp2_with (first | (go_at_fn g; refine hc.mono ?_; rintro e w3 ⟨rfl, hb3⟩))
    go_ret
    exact ⟨ret_i64 HG.out.symm, HB.out.trans (hb3.mono HB.out.size)⟩
  ·have HG : Hid (firstG P ps 0 = -1) := by
    show _ = _
    rw [firstG_drop P ps i hi hall, show i = ps.length by omega, List.drop_length]
    rfl
   clear hall
   go_wp2
   go_ret
   exact ⟨ret_i64 HG.out.symm, hb⟩
theorem containsL_any (w0 W0 : World) (g : Nat) (lb : Array Value) (P : (Lt × Value × Value) -> Bool) (eg : ∀ args w, (callFunc g args).run Tryz.prog w = .ok (.enter g args) w) (hp : PrL w0 W0 g lb P) (ps : List (Lt × Value × Value)) (v : Value) (w : World) (hw : Below W0.heap.size W0 w) (hl : RdL w0 w v ps) :
  Calls Tryz.prog 115 #[v, .func (.func g) #[] lb] w fun e W' => e = .returned (.bool (ps.any P)) ∧ Below w.heap.size w W' := by
 have hi := indexL_any w0 W0 g lb P eg hp ps v w hw hl
 obtain ⟨a, c, rfl, _, _⟩ := hl.slice
 have HE : Hid (decide (firstG P ps 0 ≥ 0) = ps.any P) := firstG_any P ps 0
 generalize firstG P ps 0 = z at *
 clear hl hp hw
 go_enter Tryz.func115, Tryz.ntmps115
 go_wp2_with (first | (go_at_call 111; refine hi.mono ?_; rintro e w3 ⟨rfl, hb3⟩))
 go_ret
 exact ⟨ret_bool (by rw [<- HE.out]), hb3⟩
theorem Tryz.info32q : (Tryz.prog.info? 32).map (fun i => (i.zero, i.size, i.bytes)) = some (some (.agg #[.bool false, .int .i64 0, .string ⟨#[]⟩, .slice none 0 0, .int .i64 0, .string ⟨#[]⟩, .slice none 0 0]), 7, 104) := by kernel_rfl
theorem zeroL (w : World) : (zeroValue 32).run Tryz.prog w = .ok (.agg #[.bool false, .int .i64 0, .string ⟨#[]⟩, .slice none 0 0, .int .i64 0, .string ⟨#[]⟩, .slice none 0 0]) w := by kernel_rfl
theorem RdL.cells {w0 W : World} {b o n c : Nat} {ps : List (Lt × Value × Value)} (h : RdL w0 W (.slice (some ⟨b, o, none⟩) n c) ps) : ∀ j u, (flL ps)[j]? = some u -> W.cell? ⟨b, o + j, none⟩ = some u := by
 intro j u hj
 have hjl : j < ps.length * 7 := by have := (List.getElem?_eq_some_iff.1 hj).1; rwa [flL_len] at this
 have hi : j / 7 < ps.length := Nat.div_lt_of_lt_mul (by omega)
 obtain ⟨b', o', e, _, hc, _⟩ := h.nth hi
 obtain ⟨rfl, rfl⟩ : b = b' ∧ o = o' := by injection e with e; injection e with e1 e2; exact ⟨e1, e2⟩
 have hr : j % 7 < 7 := Nat.mod_lt _ (by omega)
 have hjj : j = j / 7 * 7 + j % 7 := by omega
 rw [hjj, flL_get ps _ hi _ hr, flL_one] at hj
 obtain ⟨q, hq⟩ : ∃ q, j / 7 = q := ⟨_, rfl⟩
 obtain ⟨m, hm⟩ : ∃ m, j % 7 = m := ⟨_, rfl⟩
 rw [hq, hm] at hjj
 simp only [hq, hm] at hj hc
 rw [hm] at hr
 obtain ⟨c0, c1, c2, c3, c4, c5, c6⟩ := hc
 have : m = 0 ∨ m = 1 ∨ m = 2 ∨ m = 3 ∨ m = 4 ∨ m = 5 ∨ m = 6 := by omega
 rw [hjj]
 rcases this with rfl | rfl | rfl | rfl | rfl | rfl | rfl
 ·have := Option.some.inj hj
  subst this
  simpa using c0
 ·have := Option.some.inj hj
  subst this
  rw [<- Nat.add_assoc]; exact c1
 ·have := Option.some.inj hj
  subst this
  rw [<- Nat.add_assoc]; exact c2
 ·have := Option.some.inj hj
  subst this
  rw [<- Nat.add_assoc]; exact c3
 ·have := Option.some.inj hj
  subst this
  rw [<- Nat.add_assoc]; exact c4
 ·have := Option.some.inj hj
  subst this
  rw [<- Nat.add_assoc]; exact c5
 ·have := Option.some.inj hj
  subst this
  rw [<- Nat.add_assoc]; exact c6
theorem cloneL_any (w0 : World) (ps : List (Lt × Value × Value)) (v : Value) (w : World) (hl : RdL w0 w v ps) (hn : ps.length <= 100000) :
  Calls Tryz.prog 110 #[v] w fun e w' => ∃ v', e = .returned v' ∧ w'.ownsRow w.heap.size 32 7 v' ps.length (flL ps) ∧ Below w.heap.size w w' := by
 obtain ⟨a, c, rfl, hc1, hc2⟩ := hl.slice
 obtain ⟨i0, hi, hz0, hz1, hz2⟩ := info_parts Tryz.info32q
 have q1 : ∀ (w : World) (n c n' c' : Nat), (binOp .eql 34 (.slice none n c) (.slice none n' c')).run Tryz.prog w = .ok (.bool true) w := fun w n c n' c' => by kernel_rfl
 have q2 : ∀ (w : World) (ad : Addr) (n c n' c' : Nat), (binOp .eql 34 (.slice (some ad) n c) (.slice none n' c')).run Tryz.prog w = .ok (.bool false) w := fun w ad n c n' c' => by kernel_rfl
 cases a with
 | none =>
  have h0 : ps = [] := by
   cases ps with
   | nil => rfl
   | cons p r =>
    obtain ⟨b, o, e, _⟩ := hl.nth (i := 0) (by simp)
    cases e
  subst h0
  clear hl hn
  go_enter Tryz.func110, Tryz.ntmps110
  go_wp2
  go_ret
  exact ⟨_, rfl, ⟨rfl, .inl ⟨rfl, rfl⟩⟩, Below.refl _ _⟩
 | some ad =>
  have hcells : Hid (∀ j u, (flL ps)[j]? = some u -> w.cell? (ad.add j) = some u) := fun j u hj => by
   cases ps with
   | nil => simp [flL] at hj
   | cons p r =>
    obtain ⟨b, o, e, _⟩ := hl.nth (i := 0) (by simp)
    injection e with e
    subst e
    rw [Addr.add_mid]
    exact hl.cells j u hj
  have hones : Hid (∀ u ∈ flL ps, u.oneCell' = true) := onesL hl.ok
  obtain ⟨n, hn'⟩ : ∃ n, ps.length = n := ⟨_, rfl⟩
  have hfl : Hid ((flL ps).length = n * 7) := by show _ = _; rw [flL_len, hn']
  rw [hn'] at hc1 hn ⊢
  clear hl hn'
  go_enter Tryz.func110, Tryz.ntmps110
  go_wp2_with (at_builtin; refine wpList_append_own_at _ rfl _ _ 34 rfl w.heap.size 32 i0 _ 7 104 Tryz.underlying34 hi hz0 hz1 hz2 rfl (by decide) (.slice (some ⟨w.heap.size, 0, none⟩) 0 0) 0 [] rfl (World.ownsRow_made w #[] 0 (Nat.le_refl _) (Nat.zero_le _) (by simp)) ad n c (flL ps) rfl hfl.out (fun j u hj => Lib.cell?_alloc_some _ (hcells.out j u hj)) hones.out (by rw [Nat.zero_add]; unfold maxLen; omega) (by rw [Nat.zero_add]; omega) (by simp) ?_; intro v' w1 hown hgrow hnil hat; obtain ⟨a1, c1, rfl⟩ := row_slice hown)
  go_ret
  have o1 : Only [w.heap.size] (w.alloc (.cells #[] 32)) w1 := Only.of_grown hgrow (fun r e => by simp [Value.ownBlock] at e; simp [e])
  exact ⟨_, rfl, by simpa using hown, (below_box w _).trans (o1.below (by simp) (by simp))⟩
theorem rowL_open {W : World} {base : Nat} {v : Value} {ps : List (Lt × Value × Value)} (h : W.ownsRow base 32 7 v ps.length (flL ps)) (h0 : 0 < ps.length) : ∃ g cap cur, v = .slice (some ⟨g, 0, none⟩) ps.length cap ∧ base <= g ∧ W.heap[g]? = some (.cells cur 32 (0, 0)) ∧ ps.length <= cap ∧ cap <= maxLen ∧ cur.size = cap * 7 ∧ cur.toList.take (ps.length * 7) = flL ps := by
 obtain ⟨hl, ⟨e, h1⟩ | h⟩ := h
 ·omega
 ·exact h
theorem eraseL (ps : List (Lt × Value × Value)) (k : Nat) : flL (ps.eraseIdx k) = flL (ps.take k) ++ flL (ps.drop (k + 1)) := by
 rw [List.eraseIdx_eq_take_drop_succ, flL_app]
theorem deleteL_any (w0 : World) (base : Nat) (ps : List (Lt × Value × Value)) (v : Value) (w : World) (h : w.ownsRow base 32 7 v ps.length (flL ps)) (ok : ∀ p ∈ ps, OkL w0 p) (k j : Nat) (hj : j = k + 1) (hk : k < ps.length) :
  Calls Tryz.prog 113 #[v, .int .i64 (k : Int), .int .i64 (j : Int)] w fun e w' => ∃ v' g, e = .returned v' ∧ v.ownBlock = some g ∧ v'.ownBlock = some g ∧ w'.ownsRow base 32 7 v' (ps.eraseIdx k).length (flL (ps.eraseIdx k)) ∧ Only [g] w w' := by
 obtain ⟨g, cap, cur, rfl, hb, hg, hc, hm, hsz, ht⟩ := rowL_open h (by omega)
 obtain ⟨i0, hi, hz0, hz1, hz2⟩ := info_parts Tryz.info32q
 have hmm : cap <= 9223372036854775807 := by unfold maxLen at hm; omega
 obtain ⟨n, hn⟩ : ∃ n, ps.length = n := ⟨_, rfl⟩
 rw [hn] at hc ht hk ⊢
 obtain ⟨news, hnews⟩ : ∃ l, flL (ps.drop j) = l := ⟨_, rfl⟩
 have hlen : news.length = (n - j) * 7 := by rw [<- hnews, flL_len, List.length_drop, hn]
 have hcl : cur.toList.length = cap * 7 := by simpa using hsz
 obtain ⟨A, hA, hsrc⟩ : ∃ A : Addr, (if cap = j then some (⟨g, 0, none⟩ : Addr) else some ⟨g, j * 7, none⟩) = some A ∧ Hid (∀ t u, news[t]? = some u -> w.drew.cell? (A.add t) = some u) := by
  by_cases h : cap = j
  ·refine ⟨⟨g, 0, none⟩, by simp [h], fun t u hu => ?_⟩
   have h0 : news.length = 0 := by rw [hlen]; omega
   rw [List.length_eq_zero_iff.1 h0] at hu
   simp at hu
  ·refine ⟨⟨g, j * 7, none⟩, by simp [h], fun t u hu => ?_⟩
   have htl : t < (n - j) * 7 := by have := (List.getElem?_eq_some_iff.1 hu).1; rwa [hlen] at this
   rw [<- hnews, <- flL_drop, List.getElem?_drop, <- ht, List.getElem?_take, if_pos (by omega)] at hu
   rw [Addr.add_mid]
   show w.cell? _ = _
   rw [cell_of_row _ _ _ _ 32 (0, 0) hg, <- hu]
   simp
 have s1 : Hid (news.length = (n - j) * 7) := hlen
 have s2 : Hid (∀ u ∈ news, u.oneCell' = true) := by
  intro u hu
  rw [<- hnews] at hu
  exact onesL (w0 := w0) (fun p hp => ok p (List.mem_of_mem_drop hp)) u hu
 have s3 : Hid (∀ t, t < news.length -> (w.drew.cell? ⟨g, 0 + k * 7 + t, none⟩).isSome = true ∧ w.drew.frozen? ⟨g, 0 + k * 7 + t, none⟩ = false) := by
  intro t htl
  rw [hlen] at htl
  have hlt : 0 + k * 7 + t < cur.size := by omega
  exact ⟨by show (w.cell? _).isSome = true; rw [cell_of_row _ _ _ _ 32 (0, 0) hg]; simpa using hlt, by show w.frozen? _ = false; simp [World.frozen?, hg]⟩
 obtain ⟨cur1, p1, p2, p3⟩ := heap_put g 32 news (k * 7) w.drew cur hg (by rw [hlen, hsz]; omega)
 obtain ⟨W1, hW1⟩ : ∃ W1, W1 = w.drew.setCells g (0 + k * 7) news := ⟨_, rfl⟩
 have hW1' : w.drew.setCells g (k * 7) news = W1 := by rw [hW1, Nat.zero_add]
 rw [hW1'] at p1 p3
 have hs1 : cur1.size = cap * 7 := by
  have := congrArg List.length p2
  simp only [Array.length_toList, List.length_append, List.length_take, List.length_drop, hlen, hsz] at this
  omega
 obtain ⟨cur2, r1, r2, r3⟩ := heap_put g 32 (Builtin.zeroCells #[.bool false, .int .i64 0, .string ⟨#[]⟩, .slice none 0 0, .int .i64 0, .string ⟨#[]⟩, .slice none 0 0] 1).toList ((n - 1) * 7) W1 cur1 p1 (by rw [zeros_len, hs1]; simp; omega)
 have hclr : ∀ ty, (Builtin.clear_ #[34] ty #[.slice (some ⟨g, (n - 1) * 7, none⟩) 1 (cap - (n - 1))]).run Tryz.prog W1 = .ok (.tuple #[]) (W1.setCells g ((n - 1) * 7) (Builtin.zeroCells #[.bool false, .int .i64 0, .string ⟨#[]⟩, .slice none 0 0, .int .i64 0, .string ⟨#[]⟩, .slice none 0 0] 1).toList) := fun ty =>
  run_clear_many W1 34 32 ty (.agg #[.bool false, .int .i64 0, .string ⟨#[]⟩, .slice none 0 0, .int .i64 0, .string ⟨#[]⟩, .slice none 0 0]) Tryz.underlying34 zeroL (by intro u hu; simp only [Value.cells, List.mem_cons, List.not_mem_nil, or_false] at hu; rcases hu with rfl | rfl | rfl | rfl | rfl | rfl | rfl <;> rfl) (by decide) g ((n - 1) * 7) 1 (cap - (n - 1)) (by omega) (fun j hj => by have hj' : j < 1 * 7 := hj; have hlt : (n - 1) * 7 + j < cur1.size := (by omega); simp [World.cell?, p1, hlt]) (fun j hj => by simp [World.frozen?, p1])
 have HF : Hid ((W1.setCells g ((n - 1) * 7) (Builtin.zeroCells #[.bool false, .int .i64 0, .string ⟨#[]⟩, .slice none 0 0, .int .i64 0, .string ⟨#[]⟩, .slice none 0 0] 1).toList).ownsRow base 32 7 (.slice (some ⟨g, 0, none⟩) (n - 1) cap) (ps.eraseIdx k).length (flL (ps.eraseIdx k)) ∧ Only [g] w (W1.setCells g ((n - 1) * 7) (Builtin.zeroCells #[.bool false, .int .i64 0, .string ⟨#[]⟩, .slice none 0 0, .int .i64 0, .string ⟨#[]⟩, .slice none 0 0] 1).toList)) := by
  have hel : (ps.eraseIdx k).length = n - 1 := by rw [List.length_eraseIdx_of_lt (by omega), hn]
  refine ⟨⟨flL_len _, .inr ⟨g, cap, cur2, by rw [hel], hb, r1, by omega, hm, ?_, ?_⟩⟩, ?_⟩
  ·have := congrArg List.length r2
   simp only [Array.length_toList, List.length_append, List.length_take, List.length_drop, zeros_size, hs1, List.size_toArray, List.length_cons, List.length_nil] at this
   omega
  ·rw [hel, r2, eraseL, <- hj, hnews, List.append_assoc, List.take_append_of_le_length (by simp [hs1]; omega), List.take_take, Nat.min_self, p2, List.append_assoc, <- flL_take]
   have e1 : (cur.toList.take (k * 7)).length = k * 7 := by rw [List.length_take, hcl]; omega
   have e2 : cur.toList.take (k * 7) = (flL ps).take (k * 7) := by rw [<- ht, List.take_take, Nat.min_eq_left (by omega)]
   rw [e2] at e1 ⊢
   rw [List.take_append, e1, List.take_of_length_le (by omega)]
   congr 1
   rw [List.take_append_of_le_length (by omega), List.take_of_length_le (by omega)]
  ·have d0 : Only [g] w w.drew := Only.of_below (Below.refl _ w).drew
   exact (d0.trans p3 (fun r hr => .inl hr)).trans r3 (fun r hr => .inl hr)
 have hW : Hid (W1 = w.drew.setCells g (0 + k * 7) news) := hW1
 have a1 : (0 : Int) <= (k : Int) := by omega
 have a2 : (k : Int) <= (j : Int) := by omega
 have a3 : (j : Int) <= (n : Int) := by omega
 have a4 : (n : Int) <= (cap : Int) := by omega
 have a5 : ((k : Int) == (j : Int)) = false := by rw [beq_eq_false_iff_ne]; omega
 have a6 : (k : Int) <= (cap : Int) := by omega
 have a7 : (j : Int) <= (cap : Int) := by omega
 have a8 : k + (n - j) = n - 1 := by omega
 have a9 : n - (n - 1) = 1 := by omega
 have HJ : Hid (j = k + 1 ∧ k < n ∧ n <= cap) := ⟨hj, hk, hc⟩
 clear hj hW1 hW1' r1 r2 r3 hs1 p1 p2 p3 h ok ht hcl hg hsz hb hlen hnews
 go_enter Tryz.func113, Tryz.ntmps113
 go_wp2_with fail
 go_region_law (refine step_append_room rfl (.tmp 22) (.tmp 25) 34 rfl 32 i0 7 Tryz.underlying34 hi hz1 g 0 k cap (by simp [Act.eval, Act.put]) A (n - j) (cap - j) news (by simp [Act.eval, Act.put]) s1.out hsrc.out s2.out (by have := HJ.out; omega) s3.out ?_; rw [<- hW.out])
 go_wp2
 go_ret
 exact ⟨_, g, rfl, rfl, rfl, HF.out⟩
noncomputable def smL (p q : (Lt × Value × Value)) : Bool := open Classical in decide ((fun p : Lt × Value × Value => kap p.1) p = (fun p : Lt × Value × Value => kap p.1) q)
theorem smL_iff {p q : (Lt × Value × Value)} : smL p q = true ↔ (fun p : Lt × Value × Value => kap p.1) p = (fun p : Lt × Value × Value => kap p.1) q := by simp [smL]
theorem smL_no {p q : (Lt × Value × Value)} : smL p q = false ↔ (fun p : Lt × Value × Value => kap p.1) p ≠ (fun p : Lt × Value × Value => kap p.1) q := by simp [smL]
theorem sameL_any (w0 : World) (p q : (Lt × Value × Value)) (hp : OkL w0 p) (hq : OkL w0 q) (W : World) (hW : Below w0.heap.size w0 W) : Calls Tryz.prog 40 #[lval p.1 p.2.1 p.2.2, lval q.1 q.2.1 q.2.2] W fun e W' => e = .returned (.bool (smL p q)) ∧ Below W.heap.size W W' := by
 have h := lsame_any p.1 q.1 p.2.1 p.2.2 q.2.1 q.2.2 W (ArgsAt.keep hW (Nat.le_refl _) hp.1.1) (ArgsAt.keep hW (Nat.le_refl _) hp.1.2) (ArgsAt.keep hW (Nat.le_refl _) hq.1.1) (ArgsAt.keep hW (Nat.le_refl _) hq.1.2)
 have e : lsame p.1 q.1 = smL p q := by
  rw [Bool.eq_iff_iff, lsame_kap, smL_iff]
 rw [e] at h
 exact h
theorem eg40 : ∀ args w, (callFunc 40 args).run Tryz.prog w = .ok (.enter 40 args) w := enters_of Tryz.func40 (by kernel_rfl) rfl
theorem rowL_set {W : World} {base g cap : Nat} {n : Nat} {ps : List (Lt × Value × Value)} (h : W.ownsRow base 32 7 (.slice (some ⟨g, 0, none⟩) n cap) ps.length (flL ps)) (hn : ps.length = n) {k : Nat} (hk : k < ps.length) (q : (Lt × Value × Value)) (h1 : ∀ u ∈ flL [q], u.oneCell' = true) :
  (Instr.storeAt 32 (.pointer (some ⟨g, k * 7, none⟩)) (lval q.1 q.2.1 q.2.2)).run Tryz.prog W = .ok () (W.setCells g (k * 7) (flL [q])) ∧ (W.setCells g (k * 7) (flL [q])).ownsRow base 32 7 (.slice (some ⟨g, 0, none⟩) n cap) (ps.set k q).length (flL (ps.set k q)) ∧ Only [g] W (W.setCells g (k * 7) (flL [q])) := by
 obtain ⟨g', cap', cur, e, hb, hg, hc, hm, hsz, ht⟩ := rowL_open h (by omega)
 obtain ⟨rfl, rfl⟩ : g = g' ∧ cap = cap' := by injection e with e1 e2 e3; injection e1 with e1; injection e1 with e1; exact ⟨e1, e3⟩
 have hfl : (flL [q]).length = 7 := by rw [flL_len]; simp
 obtain ⟨cur', p1, p2, p3⟩ := heap_put g 32 (flL [q]) (k * 7) W cur hg (by rw [hfl, hsz]; omega)
 have hcl : cur.toList.length = cap * 7 := by simpa using hsz
 refine ⟨?_, ⟨flL_len _, .inr ⟨g, cap, cur', by rw [List.length_set, hn], hb, p1, by rw [List.length_set]; omega, hm, ?_, ?_⟩⟩, p3⟩
 ·have hr := run_storeAt_mid (P := Tryz.prog) W g (k * 7) 32 (flL [q]).toArray (fun j hj => by
   have hj' : j < 7 := by simpa [hfl] using hj
   have hlt : k * 7 + j < cur.size := by rw [hsz]; omega
   simp [World.cell?, World.frozen?, hg, hlt]) (by rw [List.size_toArray, hfl]; kernel_rfl) (all_oneCell_toArray h1)
  rw [flL_one] at hr ⊢
  exact hr
 ·have := congrArg List.length p2
  simp only [Array.length_toList, List.length_append, List.length_take, List.length_drop, hfl, hsz] at this
  omega
 ·rw [List.length_set, p2, hfl, List.set_eq_take_append_cons_drop, if_pos hk]
  have e1 : cur.toList.take (k * 7) = flL (ps.take k) := by rw [<- flL_take, <- ht, List.take_take, Nat.min_eq_left (by omega)]
  have e3 : (flL (ps.take k)).length = k * 7 := by rw [flL_len, List.length_take, Nat.min_eq_left (by omega)]
  have e2 : (cur.toList.drop (k * 7 + 7)).take ((ps.length - (k + 1)) * 7) = flL (ps.drop (k + 1)) := by
   rw [<- flL_drop, <- ht, List.drop_take, show ps.length * 7 - (k + 1) * 7 = (ps.length - (k + 1)) * 7 by omega, show (k + 1) * 7 = k * 7 + 7 by omega]
  rw [e1, List.append_assoc, List.take_append, e3, List.take_of_length_le (by omega), show q :: ps.drop (k + 1) = [q] ++ ps.drop (k + 1) from rfl, flL_app, flL_app]
  have e4 : (flL [q] ++ cur.toList.drop (k * 7 + 7)).take (ps.length * 7 - k * 7) = flL [q] ++ flL (ps.drop (k + 1)) := by
   rw [List.take_append, hfl, List.take_of_length_le (by omega), <- e2, show ps.length * 7 - k * 7 - 7 = (ps.length - (k + 1)) * 7 by omega]
  rw [e4]
structure CpL (w0 w : World) (base g cap n : Nat) (ps : List (Lt × Value × Value)) (q kk : Nat) (cur : List (Lt × Value × Value)) (W : World) : Prop where
 row : W.ownsRow base 32 7 (.slice (some ⟨g, 0, none⟩) n cap) cur.length (flL cur)
 len : cur.length = n
 on : Only [g] w W
 tk : cur.take kk = cmpt (fun p : Lt × Value × Value => kap p.1) (ps.take q)
 hi : ∀ j, q <= j + 1 -> cur[j]? = ps[j]?
 lt : kk + 1 <= q
 bel : Below w0.heap.size w0 W
section
variable {w0 w W W' : World} {base g cap n q kk : Nat} {ps cur : List (Lt × Value × Value)}
theorem CpL.below (h : CpL w0 w base g cap n ps q kk cur W) (hb : Below W.heap.size W W') : CpL w0 w base g cap n ps q kk cur W' :=
 ⟨rowL_keep h.row (fun r hr => by
  obtain ⟨_, c, hc⟩ := row_block h.row hr
  exact hb.block r (Array.getElem?_eq_some_iff.1 hc).1), h.len, h.on.trans (Only.of_below (B := []) hb) (by simp), h.tk, h.hi, h.lt, h.bel.trans (hb.mono h.bel.size)⟩
theorem CpL.skip (h : CpL w0 w base g cap n ps q kk cur W) (h1 : 1 <= q) (hq : q < ps.length) (hs : (fun p : Lt × Value × Value => kap p.1) ps[q] = (fun p : Lt × Value × Value => kap p.1) (ps[q - 1]'(by omega))) : CpL w0 w base g cap n ps (q + 1) kk cur W :=
 ⟨h.row, h.len, h.on, by rw [(cmpt_take (fun p : Lt × Value × Value => kap p.1) ps h1 hq).1 hs]; exact h.tk, fun j hj => h.hi j (by omega), by have := h.lt; omega, h.bel⟩
theorem CpL.put (h : CpL w0 w base g cap n ps q kk cur W) (h1 : 1 <= q) (hq : q < ps.length) (hn : ps.length = n) (hs : (fun p : Lt × Value × Value => kap p.1) ps[q] ≠ (fun p : Lt × Value × Value => kap p.1) (ps[q - 1]'(by omega))) (hlow : w0.heap.size <= g) (W2 : World) (hr : W2.ownsRow base 32 7 (.slice (some ⟨g, 0, none⟩) n cap) (cur.set kk ps[q]).length (flL (cur.set kk ps[q]))) (ho : Only [g] W W2) : CpL w0 w base g cap n ps (q + 1) (kk + 1) (cur.set kk ps[q]) W2 := by
 have hlt := h.lt
 have hkl : kk < cur.length := by rw [h.len]; omega
 refine ⟨hr, by rw [List.length_set]; exact h.len, h.on.trans ho (fun r hr => .inl hr), ?_, fun j hj => ?_, by omega, h.bel.trans (ho.below (by have := h.bel.size; omega) (by simpa using hlow))⟩
 ·rw [(cmpt_take (fun p : Lt × Value × Value => kap p.1) ps h1 hq).2 hs, <- h.tk, List.take_succ_eq_append_getElem (by rw [List.length_set]; exact hkl), List.take_set_of_le (Nat.le_refl _)]
  simp
 ·rw [List.getElem?_set_ne (by omega)]
  exact h.hi j (by omega)
theorem CpL.read (h : CpL w0 w base g cap n ps q kk cur W) (ok : ∀ p ∈ cur, OkL w0 p) {j : Nat} (hj : q <= j + 1) (hl : j < ps.length) (hn : ps.length = n) : CsL W g (j * 7) ps[j] := by
 have hc := (rdL_of_row h.row ok)
 have hjl : j < cur.length := by rw [h.len]; omega
 obtain ⟨b, o, e, _, hcs, _⟩ := hc.nth hjl
 obtain ⟨rfl, rfl⟩ : g = b ∧ 0 = o := by injection e with e; injection e with e1 e2; exact ⟨e1, e2⟩
 rw [Nat.zero_add] at hcs
 have he : cur[j] = ps[j] := by
  have := h.hi j hj
  rw [List.getElem?_eq_getElem hjl, List.getElem?_eq_getElem hl] at this
  exact Option.some.inj this
 rwa [he] at hcs
end
theorem CpL.end_ {w0 w W : World} {base g cap n q kk : Nat} {ps cur : List (Lt × Value × Value)} (h : CpL w0 w base g cap n ps q kk cur W) (_ok : ∀ p ∈ cur, OkL w0 p) (hq : ps.length <= q) (hkn : kk < n) (_hlow : w0.heap.size <= g) :
  (∀ ty, (Builtin.clear_ #[34] ty #[.slice (some ⟨g, kk * 7, none⟩) (n - kk) (cap - kk)]).run Tryz.prog W = .ok (.tuple #[]) (W.setCells g (kk * 7) (Builtin.zeroCells #[.bool false, .int .i64 0, .string ⟨#[]⟩, .slice none 0 0, .int .i64 0, .string ⟨#[]⟩, .slice none 0 0] (n - kk)).toList)) ∧
  (W.setCells g (kk * 7) (Builtin.zeroCells #[.bool false, .int .i64 0, .string ⟨#[]⟩, .slice none 0 0, .int .i64 0, .string ⟨#[]⟩, .slice none 0 0] (n - kk)).toList).ownsRow base 32 7 (.slice (some ⟨g, 0, none⟩) kk cap) (cmpt (fun p : Lt × Value × Value => kap p.1) ps).length (flL (cmpt (fun p : Lt × Value × Value => kap p.1) ps)) ∧ Only [g] w (W.setCells g (kk * 7) (Builtin.zeroCells #[.bool false, .int .i64 0, .string ⟨#[]⟩, .slice none 0 0, .int .i64 0, .string ⟨#[]⟩, .slice none 0 0] (n - kk)).toList) := by
 have hl := h.len
 obtain ⟨g', cap', cr, e, hb, hg, hc, hm, hsz, ht⟩ := rowL_open h.row (by omega)
 obtain ⟨rfl, rfl⟩ : g = g' ∧ cap = cap' := by injection e with e1 e2 e3; injection e1 with e1; injection e1 with e1; exact ⟨e1, e3⟩
 obtain ⟨cr', p1, p2, p3⟩ := heap_put g 32 (Builtin.zeroCells #[.bool false, .int .i64 0, .string ⟨#[]⟩, .slice none 0 0, .int .i64 0, .string ⟨#[]⟩, .slice none 0 0] (n - kk)).toList (kk * 7) W cr hg (by rw [zeros_len, hsz]; simp; omega)
 have hcl : cr.toList.length = cap * 7 := by simpa using hsz
 have hz : (Builtin.zeroCells #[.bool false, .int .i64 0, .string ⟨#[]⟩, .slice none 0 0, .int .i64 0, .string ⟨#[]⟩, .slice none 0 0] (n - kk)).toList.length = (n - kk) * 7 := zeros_len _ _
 have hcr : cr'.size = cap * 7 := by
  have := congrArg List.length p2
  rw [List.length_append, List.length_append, hz, List.length_take, List.length_drop, hcl, Array.length_toList] at this
  omega
 have htk : cur.take kk = cmpt (fun p : Lt × Value × Value => kap p.1) ps := by rw [h.tk, List.take_of_length_le hq]
 have hkl : (cmpt (fun p : Lt × Value × Value => kap p.1) ps).length = kk := by rw [<- htk, List.length_take]; omega
 refine ⟨fun ty => run_clear_many W 34 32 ty (.agg #[.bool false, .int .i64 0, .string ⟨#[]⟩, .slice none 0 0, .int .i64 0, .string ⟨#[]⟩, .slice none 0 0]) Tryz.underlying34 zeroL (by intro u hu; simp only [Value.cells, List.mem_cons, List.not_mem_nil, or_false] at hu; rcases hu with rfl | rfl | rfl | rfl | rfl | rfl | rfl <;> rfl) (by decide) g (kk * 7) (n - kk) (cap - kk) (by omega) (fun j hj => by have hj' : j < (n - kk) * 7 := hj; have hlt : kk * 7 + j < cr.size := (by rw [hsz]; omega); simp [World.cell?, hg, hlt]) (fun j hj => by simp [World.frozen?, hg]), ?_, h.on.trans p3 (fun r hr => .inl hr)⟩
 refine ⟨flL_len _, .inr ⟨g, cap, cr', by rw [hkl], hb, p1, by omega, hm, hcr, ?_⟩⟩
 rw [hkl, p2, List.append_assoc, List.take_append, List.length_take, hcl, Nat.min_eq_left (by omega), List.take_of_length_le (by rw [List.length_take]; omega), Nat.sub_self, List.take_zero, List.append_nil, <- htk, <- flL_take, <- ht, List.take_take, Nat.min_eq_left (by omega)]
theorem compactL_any (w0 : World) (base : Nat) (ps : List (Lt × Value × Value)) (v : Value) (w : World) (h : w.ownsRow base 32 7 v ps.length (flL ps)) (ok : ∀ p ∈ ps, OkL w0 p) (hw : Below w0.heap.size w0 w) (hbase : w0.heap.size <= base) :
  Calls Tryz.prog 114 #[v, .func (.func 40) #[] #[]] w fun e w' => ∃ v', e = .returned v' ∧ w'.ownsRow base 32 7 v' (cmpt (fun p : Lt × Value × Value => kap p.1) ps).length (flL (cmpt (fun p : Lt × Value × Value => kap p.1) ps)) ∧ v'.ownBlock = v.ownBlock ∧ Only v.ownBlock.toList w w' := by
 have eg := eg40
 by_cases h2 : ps.length < 2
 ·have HR : Hid (w.ownsRow base 32 7 v (cmpt (fun p : Lt × Value × Value => kap p.1) ps).length (flL (cmpt (fun p : Lt × Value × Value => kap p.1) ps))) := by show World.ownsRow ..; rw [cmpt_short _ _ h2]; exact h
  obtain ⟨a, c, rfl⟩ := row_slice h
  have h2I : (ps.length : Int) < 2 := by omega
  clear h ok hw
  go_enter Tryz.func114, Tryz.ntmps114
  go_wp2
  go_ret
  exact ⟨_, rfl, HR.out, rfl, Only.refl _ _⟩
 ·obtain ⟨g, cap, cr, rfl, hb, hg, hcn, hm, hsz, ht⟩ := rowL_open h (by omega)
  obtain ⟨n, hn⟩ : ∃ n, ps.length = n := ⟨_, rfl⟩
  have hmm : cap <= 9223372036854775807 := by unfold maxLen at hm; omega
  have HH : Hid (w.ownsRow base 32 7 (.slice (some ⟨g, 0, none⟩) n cap) ps.length (flL ps) ∧ (∀ p ∈ ps, OkL w0 p) ∧ Below w0.heap.size w0 w ∧ w0.heap.size <= g ∧ ps.length = n) := ⟨by rw [<- hn]; exact h, ok, hw, by omega, hn⟩
  rw [hn] at h2 hcn
  rw [hn]
  have h2I : ¬ (n : Int) < 2 := by omega
  clear h ok hw hb hg hsz ht hn hm
  go_enter Tryz.func114, Tryz.ntmps114
  go_wp2
  go_loopw [5] (fun vk wr => ∃ k : Nat, vk = .int .i64 k ∧ 1 <= k ∧ k <= n ∧ Hid (Below w.heap.size w wr ∧ cmpt (fun p : Lt × Value × Value => kap p.1) (ps.take k) = ps.take k)) (fun vk _ => n - (intOf vk).toNat)
  case atStart =>
   refine ⟨1, rfl, Nat.le_refl _, by omega, Below.refl _ _, cmpt_short _ _ (by rw [List.length_take]; omega)⟩
  case round =>
   obtain ⟨k, rfl, hk1, hk, HI⟩ := hrel
   by_cases hlt : k < n
   ·obtain ⟨m, hm⟩ : ∃ m, k = m + 1 := ⟨k - 1, by omega⟩
    have hkm : (k : Int) - 1 = (m : Int) := by omega
    have hn := HH.out.2.2.2.2
    have hkI : (k : Int) < (n : Int) := by omega
    have hmI : (m : Int) < (n : Int) := by omega
    have hck : ¬ cap = k := by omega
    have hkc : (k : Int) <= (n : Int) := by omega
    have hpk : k < ps.length := by omega
    have hpm : m < ps.length := by omega
    have hC0 : CpL w0 w base g cap n ps 0 0 ps wr -> True := fun _ => trivial
    have hrow : wr.ownsRow base 32 7 (.slice (some ⟨g, 0, none⟩) n cap) ps.length (flL ps) := rowL_keep HH.out.1 (fun r hr => by
     obtain ⟨_, c, hc⟩ := row_block HH.out.1 hr
     exact HI.out.1.block r (Array.getElem?_eq_some_iff.1 hc).1)
    have hrd := rdL_of_row hrow HH.out.2.1
    obtain ⟨b', o', e', hl1, cK, okK⟩ := hrd.nth hpk
    obtain ⟨b'', o'', e'', hl2, cM, okM⟩ := hrd.nth hpm
    obtain ⟨rfl, rfl⟩ : g = b' ∧ 0 = o' := by injection e' with e; injection e with e1 e2; exact ⟨e1, e2⟩
    obtain ⟨rfl, rfl⟩ : g = b'' ∧ 0 = o'' := by injection e'' with e; injection e with e1 e2; exact ⟨e1, e2⟩
    rw [Nat.zero_add] at cK cM
    have bw0 : Below w0.heap.size w0 wr := HH.out.2.2.1.trans (HI.out.1.mono HH.out.2.2.1.size)
    have lw0 := bw0.size
    have hc : ∀ W, Below wr.heap.size wr W -> Calls Tryz.prog 40 #[lval ps[k].1 ps[k].2.1 ps[k].2.2, lval ps[m].1 ps[m].2.1 ps[m].2.2] W fun e W' => e = .returned (.bool (smL ps[k] ps[m])) ∧ Below W.heap.size W W' := fun W hW => sameL_any w0 _ _ okK okM W (bw0.trans (hW.mono lw0))
    have HS : Hid (smL ps[k] ps[m] = true -> cmpt (fun p : Lt × Value × Value => kap p.1) (ps.take (k + 1)) = ps.take k) := fun e => by
     have e1 : ps[m] = ps[k - 1]'(by omega) := by congr 1; omega
     rw [(cmpt_take (fun p : Lt × Value × Value => kap p.1) ps hk1 hpk).1 (by rw [<- e1]; exact smL_iff.1 e)]
     exact HI.out.2
    have HN : Hid (smL ps[k] ps[m] = false -> cmpt (fun p : Lt × Value × Value => kap p.1) (ps.take (k + 1)) = ps.take (k + 1)) := fun e => by
     have e1 : ps[m] = ps[k - 1]'(by omega) := by congr 1; omega
     rw [(cmpt_take (fun p : Lt × Value × Value => kap p.1) ps hk1 hpk).2 (by rw [<- e1]; exact smL_no.1 e), HI.out.2, List.take_succ_eq_append_getElem hpk]
    obtain ⟨pk, hpke⟩ : ∃ p, ps[k] = p := ⟨_, rfl⟩
    obtain ⟨pm, hpme⟩ : ∃ p, ps[m] = p := ⟨_, rfl⟩
    rw [hpke] at cK okK hc HS HN
    rw [hpme] at cM okM hc HS HN
    obtain ⟨z, hz⟩ : ∃ z, smL pk pm = z := ⟨_, rfl⟩
    rw [hz] at hc HS HN
    have HB : Hid (Below w.heap.size w wr) := HI.out.1
    clear HI hrow hrd hC0 hpke hpme hz bw0 hm
    obtain ⟨tk, sk, rk⟩ := pk
    obtain ⟨tm, sm, rm⟩ := pm
    simp only [OkL] at okK okM
    simp only at hc
    obtain ⟨ka, kc_, rfl, _, _⟩ := okK.1.1.slice
    obtain ⟨ma, mc_, rfl, _, _⟩ := okM.1.1.slice
    obtain ⟨kb, kd_, rfl, _, _⟩ := okK.1.2.slice
    obtain ⟨mb, md_, rfl, _, _⟩ := okM.1.2.slice
    obtain ⟨k0, k1, k2, k3, k4, k5, k6⟩ := cK
    obtain ⟨m0, m1, m2, m3, m4, m5, m6⟩ := cM
    simp only at k0 k1 k2 k3 k4 k5 k6 m0 m1 m2 m3 m4 m5 m6
    have Fk0 := cell_far (w := wr) hl1 k0
    have Fk1 := cell_far (w := wr) hl1 k1
    have Fk2 := cell_far (w := wr) hl1 k2
    have Fk3 := cell_far (w := wr) hl1 k3
    have Fk4 := cell_far (w := wr) hl1 k4
    have Fk5 := cell_far (w := wr) hl1 k5
    have Fk6 := cell_far (w := wr) hl1 k6
    have Fm0 := cell_far (w := wr) hl2 m0
    have Fm1 := cell_far (w := wr) hl2 m1
    have Fm2 := cell_far (w := wr) hl2 m2
    have Fm3 := cell_far (w := wr) hl2 m3
    have Fm4 := cell_far (w := wr) hl2 m4
    have Fm5 := cell_far (w := wr) hl2 m5
    have Fm6 := cell_far (w := wr) hl2 m6
    clear k0 k1 k2 k3 k4 k5 k6 m0 m1 m2 m3 m4 m5 m6 okK okM
    cases z
    ·have HNN : Hid (cmpt (fun p : Lt × Value × Value => kap p.1) (ps.take (k + 1)) = ps.take (k + 1)) := HN.out rfl
     clear HN HS
     go_wp2
     refine wp_region_far (by kernel_rfl) ?_
     repeat (first | go_big_quiet_step (exact calls_far hc _) | quiet_step (exact calls_far hc _))
     refine wpQuiet_nil ?_
     intro _ hw'
     obtain ⟨pf, rfl⟩ := hw'
     go_wp2
     go_roundw
     case rel => exact ⟨k + 1, by go_num, by omega, by omega, HB.out.trans ((below_far wr pf).mono HB.out.size), HNN.out⟩
     case measure => simp [intOf]; omega
    ·have HSS : Hid (cmpt (fun p : Lt × Value × Value => kap p.1) (ps.take (k + 1)) = ps.take k) := HS.out rfl
     clear HN HS
     go_wp2
     refine wp_region_far (by kernel_rfl) ?_
     repeat (first | go_big_quiet_step (exact calls_far hc _) | quiet_step (exact calls_far hc _))
     refine wpQuiet_nil ?_
     intro _ hw'
     obtain ⟨pf, rfl⟩ := hw'
     have HC : Hid (CpL w0 w base g cap n ps (k + 1) k ps (far wr pf)) := by
      have b1 : Below w.heap.size w (far wr pf) := HB.out.trans ((below_far wr pf).mono HB.out.size)
      exact ⟨rowL_keep HH.out.1 (fun r hr => by
       obtain ⟨_, c, hc⟩ := row_block HH.out.1 hr
       exact b1.block r (Array.getElem?_eq_some_iff.1 hc).1), hn, Only.of_below b1, HSS.out.symm, fun j _ => rfl, Nat.le_refl _, HH.out.2.2.1.trans (b1.mono HH.out.2.2.1.size)⟩
     clear Fk0 Fk1 Fk2 Fk3 Fk4 Fk5 Fk6 Fm0 Fm1 Fm2 Fm3 Fm4 Fm5 Fm6
     generalize far wr pf = wq at *
     go_wp2
     obtain ⟨wo, hwo⟩ : ∃ Z, Z = wr := ⟨_, rfl⟩
     subst hwo
     clear hc hkm hmI hpm hl1 hl2 hkI
     go_loopw [5, 7] (fun v5 v7 wr => ∃ kk k2 : Nat, v5 = .int .i64 kk ∧ v7 = .int .i64 k2 ∧ 1 <= k2 ∧ k + k2 <= n ∧ kk + 1 <= k + k2 ∧ Hid (∃ cur, CpL w0 w base g cap n ps (k + k2) kk cur wr ∧ ∀ p ∈ cur, OkL w0 p)) (fun _ v7 _ => n - (intOf v7).toNat)
     case atStart => exact ⟨k, 1, rfl, rfl, Nat.le_refl _, by omega, by omega, ps, HC.out, HH.out.2.1⟩
     case round =>
      obtain ⟨kk, k2, rfl, rfl, h21, hkn, hkk, HJ⟩ := hrel
      obtain ⟨cur, hC, okC⟩ := HJ.out
      clear HJ
      have hkkn : kk < n := by omega
      by_cases hlt2 : k2 < n - k
      ·obtain ⟨m2, hm2⟩ : ∃ m, k2 = m + 1 := ⟨k2 - 1, by omega⟩
       have hkm2 : (k2 : Int) - 1 = (m2 : Int) := by omega
       have hk2I : (k2 : Int) < ((n - k : Nat) : Int) := by omega
       have hm2I : (m2 : Int) < ((n - k : Nat) : Int) := by omega
       have hkkI : (kk : Int) < (n : Int) := by omega
       have hq : k + k2 < ps.length := by omega
       have hqm : k + m2 < ps.length := by omega
       have cK := hC.read okC (j := k + k2) (by omega) hq hn
       have cM := hC.read okC (j := k + m2) (by omega) hqm hn
       have ek : (k + k2) * 7 = k * 7 + k2 * 7 := Nat.add_mul ..
       have em : (k + m2) * 7 = k * 7 + m2 * 7 := Nat.add_mul ..
       rw [ek] at cK
       rw [em] at cM
       have okK := HH.out.2.1 _ (List.getElem_mem hq)
       have okM := HH.out.2.1 _ (List.getElem_mem hqm)
       have lw0 := hC.bel.size
       have hgl : g < wr.heap.size := by
        obtain ⟨_, c, hc⟩ := row_block hC.row (g := g) rfl
        exact (Array.getElem?_eq_some_iff.1 hc).1
       have hc : ∀ W, Below wr.heap.size wr W -> Calls Tryz.prog 40 #[lval ps[k + k2].1 ps[k + k2].2.1 ps[k + k2].2.2, lval ps[k + m2].1 ps[k + m2].2.1 ps[k + m2].2.2] W fun e W' => e = .returned (.bool (smL ps[k + k2] ps[k + m2])) ∧ Below W.heap.size W W' := fun W hW => sameL_any w0 _ _ okK okM W (hC.bel.trans (hW.mono lw0))
       have e1 : ps[k + m2] = ps[k + k2 - 1]'(by omega) := by congr 1; omega
       have hone1 : ∀ u ∈ flL [ps[k + k2]], u.oneCell' = true := onesL (w0 := w0) (fun p hp => by
        have e : p = ps[k + k2] := by simpa using hp
        rw [e]; exact okK)
       have HS : Hid (smL ps[k + k2] ps[k + m2] = true -> ∀ W, Below wr.heap.size wr W -> ∃ cur, CpL w0 w base g cap n ps (k + k2 + 1) kk cur W ∧ ∀ p ∈ cur, OkL w0 p) := fun e W hW => ⟨cur, (hC.below hW).skip (by omega) hq (by rw [<- e1]; exact smL_iff.1 e), okC⟩
       have HN : Hid (smL ps[k + k2] ps[k + m2] = false -> ∀ W, Below wr.heap.size wr W -> ∃ W2, (Instr.storeAt 32 (.pointer (some ⟨g, kk * 7, none⟩)) (lval ps[k + k2].1 ps[k + k2].2.1 ps[k + k2].2.2)).run Tryz.prog W = .ok () W2 ∧ ∃ cur, CpL w0 w base g cap n ps (k + k2 + 1) (kk + 1) cur W2 ∧ ∀ p ∈ cur, OkL w0 p) := fun e W hW => by
        have hW1 := hC.below hW
        obtain ⟨r1, r2, r3⟩ := rowL_set hW1.row hW1.len (k := kk) (by rw [hC.len]; exact hkkn) ps[k + k2] hone1
        exact ⟨_, r1, cur.set kk ps[k + k2], hW1.put (by omega) hq hn (by rw [<- e1]; exact smL_no.1 e) HH.out.2.2.2.1 _ r2 r3, fun p hp => by
         rcases List.mem_or_eq_of_mem_set hp with q | q
         ·exact okC p q
         ·rw [q]; exact okK⟩
       obtain ⟨pk, hpke⟩ : ∃ p, ps[k + k2] = p := ⟨_, rfl⟩
       obtain ⟨pm, hpme⟩ : ∃ p, ps[k + m2] = p := ⟨_, rfl⟩
       rw [hpke] at cK okK hc HS HN
       rw [hpme] at cM okM hc HS HN
       obtain ⟨z, hz⟩ : ∃ z, smL pk pm = z := ⟨_, rfl⟩
       rw [hz] at hc HS HN
       have hl1 := hgl
       have hl2 := hgl
       clear hC okC e1 hone1 hpke hpme hz lw0 ek em hm2
       obtain ⟨tk, sk, rk⟩ := pk
       obtain ⟨tm, sm, rm⟩ := pm
       simp only [OkL] at okK okM
       simp only at hc
       obtain ⟨ka, kc_, rfl, _, _⟩ := okK.1.1.slice
       obtain ⟨ma, mc_, rfl, _, _⟩ := okM.1.1.slice
       obtain ⟨kb, kd_, rfl, _, _⟩ := okK.1.2.slice
       obtain ⟨mb, md_, rfl, _, _⟩ := okM.1.2.slice
       obtain ⟨k0, k1, k2, k3, k4, k5, k6⟩ := cK
       obtain ⟨m0, m1, m2, m3, m4, m5, m6⟩ := cM
       simp only at k0 k1 k2 k3 k4 k5 k6 m0 m1 m2 m3 m4 m5 m6
       have Fk0 := cell_far (w := wr) hl1 k0
       have Fk1 := cell_far (w := wr) hl1 k1
       have Fk2 := cell_far (w := wr) hl1 k2
       have Fk3 := cell_far (w := wr) hl1 k3
       have Fk4 := cell_far (w := wr) hl1 k4
       have Fk5 := cell_far (w := wr) hl1 k5
       have Fk6 := cell_far (w := wr) hl1 k6
       have Fm0 := cell_far (w := wr) hl2 m0
       have Fm1 := cell_far (w := wr) hl2 m1
       have Fm2 := cell_far (w := wr) hl2 m2
       have Fm3 := cell_far (w := wr) hl2 m3
       have Fm4 := cell_far (w := wr) hl2 m4
       have Fm5 := cell_far (w := wr) hl2 m5
       have Fm6 := cell_far (w := wr) hl2 m6
       clear k0 k1 k2 k3 k4 k5 k6 m0 m1 m2 m3 m4 m5 m6 okK okM
       cases z
       ·have HNN := HN.out rfl
        have HNH : Hid (∀ W, Below wr.heap.size wr W -> ∃ W2, (Instr.storeAt 32 (.pointer (some ⟨g, kk * 7, none⟩)) (lval tk (.slice ka tk.l.args.length kc_) (.slice kb tk.r.args.length kd_))).run Tryz.prog W = .ok () W2 ∧ ∃ cur, CpL w0 w base g cap n ps (k + k2 + 1) (kk + 1) cur W2 ∧ ∀ p ∈ cur, OkL w0 p) := HNN
        clear HN HS HNN
        go_wp2
        refine wp_region_far (by kernel_rfl) ?_
        repeat (first | go_big_quiet_step (exact calls_far hc _) | quiet_step (exact calls_far hc _))
        refine wpQuiet_nil ?_
        intro _ hw'
        obtain ⟨pf, rfl⟩ := hw'
        obtain ⟨W2, hrun, hfin⟩ := HNH.out _ (below_far wr pf)
        have HFin : Hid (∃ cur, CpL w0 w base g cap n ps (k + k2 + 1) (kk + 1) cur W2 ∧ ∀ p ∈ cur, OkL w0 p) := hfin
        clear hfin
        have hgq : g < (far wr pf).heap.size := by have := (below_far wr pf).size; omega
        have Gk0 := Fk0 pf
        have Gk1 := Fk1 pf
        have Gk2 := Fk2 pf
        have Gk3 := Fk3 pf
        have Gk4 := Fk4 pf
        have Gk5 := Fk5 pf
        have Gk6 := Fk6 pf
        clear Fk0 Fk1 Fk2 Fk3 Fk4 Fk5 Fk6 Fm0 Fm1 Fm2 Fm3 Fm4 Fm5 Fm6
        generalize far wr pf = wq at *
        go_wp2_with (first | (refine wpList_store_run rfl 32 _ _ rfl (.pointer (some ⟨g, kk * 7, none⟩)) (lval tk (.slice ka tk.l.args.length kc_) (.slice kb tk.r.args.length kd_)) rfl rfl hrun ?_))
        go_roundw
        case rel => exact ⟨kk + 1, k2 + 1, by go_num, by go_num, by omega, by omega, by omega, HFin.out⟩
        case measure => simp [intOf]; omega
       ·have HSS := HS.out rfl
        have HSH : Hid (∀ W, Below wr.heap.size wr W -> ∃ cur, CpL w0 w base g cap n ps (k + k2 + 1) kk cur W ∧ ∀ p ∈ cur, OkL w0 p) := HSS
        clear HN HS HSS
        go_wp2
        refine wp_region_far (by kernel_rfl) ?_
        repeat (first | go_big_quiet_step (exact calls_far hc _) | quiet_step (exact calls_far hc _))
        refine wpQuiet_nil ?_
        intro _ hw'
        obtain ⟨pf, rfl⟩ := hw'
        go_wp2
        go_roundw
        case rel => exact ⟨kk, k2 + 1, rfl, by go_num, by omega, by omega, by omega, HSH.out _ (below_far wr pf)⟩
        case measure => simp [intOf]; omega
      ·obtain ⟨f1, f2, f3⟩ := hC.end_ okC (by omega) hkkn HH.out.2.2.2.1
       have HF : Hid ((wr.setCells g (kk * 7) (Builtin.zeroCells #[.bool false, .int .i64 0, .string ⟨#[]⟩, .slice none 0 0, .int .i64 0, .string ⟨#[]⟩, .slice none 0 0] (n - kk)).toList).ownsRow base 32 7 (.slice (some ⟨g, 0, none⟩) kk cap) (cmpt (fun p : Lt × Value × Value => kap p.1) ps).length (flL (cmpt (fun p : Lt × Value × Value => kap p.1) ps)) ∧ Only [g] w (wr.setCells g (kk * 7) (Builtin.zeroCells #[.bool false, .int .i64 0, .string ⟨#[]⟩, .slice none 0 0, .int .i64 0, .string ⟨#[]⟩, .slice none 0 0] (n - kk)).toList)) := ⟨f2, f3⟩
       have hkkI : (kk : Int) <= (n : Int) := by omega
       have hkkc : (kk : Int) <= (cap : Int) := by omega
       have hckk : ¬ cap = kk := by omega
       clear hC okC f2 f3
       go_wp2
       go_ret
       exact ⟨_, rfl, HF.out.1, rfl, HF.out.2⟩
   ·have HR : Hid (wr.ownsRow base 32 7 (.slice (some ⟨g, 0, none⟩) n cap) (cmpt (fun p : Lt × Value × Value => kap p.1) ps).length (flL (cmpt (fun p : Lt × Value × Value => kap p.1) ps))) := by
     have hn := HH.out.2.2.2.2
     have e := HI.out.2
     rw [List.take_of_length_le (by omega)] at e
     show World.ownsRow ..
     rw [e]
     exact rowL_keep HH.out.1 (fun r hr => by
      obtain ⟨_, c, hc⟩ := row_block HH.out.1 hr
      exact HI.out.1.block r (Array.getElem?_eq_some_iff.1 hc).1)
    go_wp2
    go_ret
    exact ⟨_, rfl, HR.out, rfl, Only.of_below HI.out.1⟩
abbrev foL (o : Od) (vn vw : Value) : Value := .func (.func 33) #[oval o vn vw] #[]
noncomputable def odL (o : Od) (p q : (Lt × Value × Value)) : Int := lcm o p.1 q.1
def OrdrL (w0 : World) (o : Od) (vn vw : Value) : Prop := ∀ (p q : (Lt × Value × Value)) (W : World), OkL w0 p -> OkL w0 q -> Below w0.heap.size w0 W ->
 Calls Tryz.prog 33 #[oval o vn vw, lval p.1 p.2.1 p.2.2, lval q.1 q.2.1 q.2.2] W fun e W' => e = .returned (.int .i64 (odL o p q)) ∧ Below W.heap.size W W'
theorem eg33 : ∀ args w, (callFunc 33 args).run Tryz.prog w = .ok (.enter 33 args) w := enters_of Tryz.func33 (by kernel_rfl) rfl
theorem eg116 : ∀ args w, (callFunc 116 args).run Tryz.prog w = .ok (.enter 116 args) w := enters_of Tryz.func116 (by kernel_rfl) rfl
theorem eg117 : ∀ args w, (callFunc 117 args).run Tryz.prog w = .ok (.enter 117 args) w := enters_of Tryz.func117 (by kernel_rfl) rfl
theorem bxL_cells (w : World) (p : (Lt × Value × Value)) : CsL (w.alloc (lbox p.1 p.2.1 p.2.2)) w.heap.size 0 p := by
 have h : (w.alloc (lbox p.1 p.2.1 p.2.2)).heap[w.heap.size]? = some (.cells (flL [p]).toArray 32 (0, 0)) := by rw [flL_one]; exact (MapKept.heap_alloc w (lbox p.1 p.2.1 p.2.2)).1
 have := csL_of (W := w.alloc (lbox p.1 p.2.1 p.2.2)) (b := w.heap.size) (off := 0) (ps := [p]) (fun j u hj => by rw [Nat.zero_add, cell_of_row _ _ _ _ 32 (0, 0) h]; simpa using hj) (i := 0) (by simp)
 simpa using this
theorem cov2L (w0 W0 : World) (o : Od) (vn vw : Value) (ho : OdAt w0 o vn vw) (hO : OrdrL w0 o vn vw) (bo bb : Nat) (q : (Lt × Value × Value)) (hq : OkL w0 q) (hw : Below w0.heap.size w0 W0) (c1 : W0.cell? ⟨bo, 0, none⟩ = some (foL o vn vw)) (lo : bo < W0.heap.size) (cq : CsL W0 bb 0 q) (lq : bb < W0.heap.size) :
  PrL w0 W0 117 #[.pointer (some ⟨bo, 0, none⟩), .pointer (some ⟨bb, 0, none⟩)] (fun p => decide (odL o p q = 1)) := by
 intro p W hp hW
 show Calls Tryz.prog 117 #[lval p.1 p.2.1 p.2.2, .pointer (some ⟨bo, 0, none⟩), .pointer (some ⟨bb, 0, none⟩)] W _
 obtain ⟨an, nn, cn, rfl⟩ := ho.vn
 obtain ⟨aw, nw, cw, rfl⟩ := ho.vw
 have hb := below_box W (lbox p.1 p.2.1 p.2.2)
 have cp := bxL_cells W p
 have b1 : Below W0.heap.size W0 (W.alloc (lbox p.1 p.2.1 p.2.2)) := hW.trans (hb.mono hW.size)
 have d1 := kc b1 lo c1
 have dq := cq.keep b1 lq
 have hc := hO p q (W.alloc (lbox p.1 p.2.1 p.2.2)) hp hq (hw.trans (b1.mono hw.size))
 have eg := eg33
 have HB : Hid (Below W.heap.size W (W.alloc (lbox p.1 p.2.1 p.2.2))) := hb
 obtain ⟨z, hz⟩ : ∃ z, odL o p q = z := ⟨_, rfl⟩
 simp only [hz]
 rw [hz] at hc
 clear ho hO hw c1 cq hW b1 hb hz lo lq
 obtain ⟨x, sx, rx⟩ := p
 obtain ⟨y, sy, ry⟩ := q
 simp only [OkL] at hp hq
 obtain ⟨_, _, rfl, _⟩ := hp.1.1.slice
 obtain ⟨_, _, rfl, _⟩ := hp.1.2.slice
 obtain ⟨_, _, rfl, _⟩ := hq.1.1.slice
 obtain ⟨_, _, rfl, _⟩ := hq.1.2.slice
 obtain ⟨p0, p1, p2, p3, p4, p5, p6⟩ := cp
 obtain ⟨q0, q1, q2, q3, q4, q5, q6⟩ := dq
 simp only at p0 p1 p2 p3 p4 p5 p6 q0 q1 q2 q3 q4 q5 q6 hc d1
 clear hp hq
 go_enter Tryz.func117, Tryz.ntmps117
 go_wp2_with (first | (go_at_fn 33; refine hc.mono ?_; rintro e w3 ⟨rfl, hb3⟩))
 go_ret
 exact ⟨ret_bool (by rw [Bool.eq_iff_iff]; simp), HB.out.trans (hb3.mono HB.out.size)⟩
theorem cov1L (w0 W0 : World) (o : Od) (vn vw : Value) (ho : OdAt w0 o vn vw) (hO : OrdrL w0 o vn vw) (bo bm : Nat) (vm : Value) (ms : List (Lt × Value × Value)) (hw : Below w0.heap.size w0 W0) (c1 : W0.cell? ⟨bo, 0, none⟩ = some (foL o vn vw)) (lo : bo < W0.heap.size) (c2 : W0.cell? ⟨bm, 0, none⟩ = some vm) (lm : bm < W0.heap.size) (hm : RdL w0 W0 vm ms) :
  PrL w0 W0 116 #[.pointer (some ⟨bm, 0, none⟩), .pointer (some ⟨bo, 0, none⟩)] (fun q => !(ms.any fun p => decide (odL o p q = 1))) := by
 intro q W hq hW
 show Calls Tryz.prog 116 #[lval q.1 q.2.1 q.2.2, .pointer (some ⟨bm, 0, none⟩), .pointer (some ⟨bo, 0, none⟩)] W _
 have hb := below_box W (lbox q.1 q.2.1 q.2.2)
 have cq := bxL_cells W q
 have b1 : Below W0.heap.size W0 (W.alloc (lbox q.1 q.2.1 q.2.2)) := hW.trans (hb.mono hW.size)
 have d1 := kc b1 lo c1
 have d2 := kc b1 lm c2
 have b01 := hw.trans (b1.mono hw.size)
 have hp := cov2L w0 (W.alloc (lbox q.1 q.2.1 q.2.2)) o vn vw ho hO bo W.heap.size q hq b01 d1 (by have := b1.size; omega) cq (by simp)
 have hc := containsL_any w0 (W.alloc (lbox q.1 q.2.1 q.2.2)) 117 _ _ eg117 hp ms vm (W.alloc (lbox q.1 q.2.1 q.2.2)) (Below.refl _ _) (hm.keep b1)
 obtain ⟨a, c, rfl, _, _⟩ := hm.slice
 have HB : Hid (Below W.heap.size W (W.alloc (lbox q.1 q.2.1 q.2.2))) := hb
 obtain ⟨z, hz⟩ : ∃ z, (ms.any fun p => decide (odL o p q = 1)) = z := ⟨_, rfl⟩
 simp only [hz]
 rw [hz] at hc
 clear ho hO hw c1 c2 hW b1 hb hz lo lm hm hp b01 d1 cq
 obtain ⟨y, sy, ry⟩ := q
 simp only [OkL] at hq
 obtain ⟨_, _, rfl, _⟩ := hq.1.1.slice
 obtain ⟨_, _, rfl, _⟩ := hq.1.2.slice
 simp only at hc d2
 clear hq
 go_enter Tryz.func116, Tryz.ntmps116
 go_wp2_with (first | (go_at_call 115; refine hc.mono ?_; rintro e w3 ⟨rfl, hb3⟩))
 go_ret
 exact ⟨rfl, HB.out.trans (hb3.mono HB.out.size)⟩
noncomputable def covBL (o : Od) (ms ns : List (Lt × Value × Value)) : Bool := !(ns.any fun q => !(ms.any fun p => decide (odL o p q = 1)))
theorem covBL_iff {o : Od} {ms ns : List (Lt × Value × Value)} : covBL o ms ns = true ↔ cov (fun p : Lt × Value × Value => kap p.1) (gL o) ms ns := by
 have hg : ∀ p q : (Lt × Value × Value), odL o p q = 1 ↔ (gL o) ((fun p : Lt × Value × Value => kap p.1) p) ((fun p : Lt × Value × Value => kap p.1) q) := fun p q => gL_iff.symm
 unfold covBL cov
 rw [Bool.not_eq_true', List.any_eq_false]
 constructor
 ·intro h b hb
  have h1 := h b hb
  cases e : ms.any fun p => decide (odL o p b = 1)
  ·rw [e] at h1; exact absurd rfl h1
  ·obtain ⟨a, ha, e⟩ := List.any_eq_true.1 e
   exact ⟨a, ha, (hg a b).1 (of_decide_eq_true e)⟩
 ·intro h b hb
  obtain ⟨a, ha, e⟩ := h b hb
  have e : (ms.any fun p => decide (odL o p b = 1)) = true := List.any_eq_true.2 ⟨a, ha, decide_eq_true ((hg a b).2 e)⟩
  rw [e]
  simp
theorem coversL_any (w0 : World) (o : Od) (vn vw : Value) (ho : OdAt w0 o vn vw) (hO : OrdrL w0 o vn vw) (ms ns : List (Lt × Value × Value)) (vm v : Value) (w : World) (hw : Below w0.heap.size w0 w) (hm : RdL w0 w vm ms) (hn : RdL w0 w v ns) :
  Calls Tryz.prog 72 #[foL o vn vw, vm, v] w fun e w' => e = .returned (.bool (covBL o ms ns)) ∧ Below w.heap.size w w' := by
 obtain ⟨W1, h1⟩ : ∃ X, w.alloc (.cells #[foL o vn vw] 43) = X := ⟨_, rfl⟩
 obtain ⟨W2, h2⟩ : ∃ X, W1.alloc (.cells #[vm] 34) = X := ⟨_, rfl⟩
 have b1 : Below w.heap.size w W1 := by rw [<- h1]; exact below_box _ _
 have b2 : Below W1.heap.size W1 W2 := by rw [<- h2]; exact below_box _ _
 have s1 : W1.heap.size = w.heap.size + 1 := by rw [<- h1]; simp
 have s2 : W2.heap.size = w.heap.size + 2 := by rw [<- h2]; simp [s1]
 have bb : Below w.heap.size w W2 := b1.trans (b2.mono b1.size)
 have c1 := box1_cells w (foL o vn vw) 43
 rw [h1] at c1
 have c1' := kc b2 (by omega) c1
 have c2 := box1_cells W1 vm 34
 rw [h2, s1] at c2
 have hp := cov1L w0 W2 o vn vw ho hO w.heap.size (w.heap.size + 1) vm ms (hw.trans (bb.mono hw.size)) c1' (by omega) c2 (by omega) (hm.keep bb)
 have hc := containsL_any w0 W2 116 _ _ eg116 hp ns v W2 (Below.refl _ _) (hn.keep bb)
 obtain ⟨a, c, rfl, _, _⟩ := hm.slice
 obtain ⟨a', c', rfl, _, _⟩ := hn.slice
 obtain ⟨an, nn, cn, rfl⟩ := ho.vn
 obtain ⟨aw, nw, cw, rfl⟩ := ho.vw
 have HB : Hid (Below w.heap.size w W2) := bb
 unfold covBL
 obtain ⟨z, hz⟩ : ∃ z, (ns.any fun q => !(ms.any fun p => decide (odL o p q = 1))) = z := ⟨_, rfl⟩
 rw [hz] at hc ⊢
 clear ho hO hw hm hn hz b1 b2 bb c1 c1' c2 hp s2
 go_enter Tryz.func72, Tryz.ntmps72
 try rw [h1]
 try rw [h2]
 try rw [s1]
 go_wp2_with fail
 try rw [h1]
 try rw [h2]
 try rw [s1]
 refine hc.mono ?_
 rintro e w3 ⟨rfl, hb3⟩
 go_wp2
 go_ret
 exact ⟨rfl, HB.out.trans (hb3.mono HB.out.size)⟩
abbrev fsL : Value := .func (.func 40) #[] #[]
theorem eg112 : ∀ args w, (callFunc 112 args).run Tryz.prog w = .ok (.enter 112 args) w := enters_of Tryz.func112 (by kernel_rfl) rfl
theorem bxstL (Y : World) (bx : Nat) (cz : Array Value) (q : (Lt × Value × Value)) (h : Y.heap[bx]? = some (.cells cz 32 (0, 0))) (hz : cz.size = 7) (h1 : ∀ u ∈ flL [q], u.oneCell' = true) :
  ∃ Y', (Instr.storeAt 32 (.pointer (some ⟨bx, 0, none⟩)) (lval q.1 q.2.1 q.2.2)).run Tryz.prog Y = .ok () Y' ∧ CsL Y' bx 0 q ∧ Only [bx] Y Y' := by
 have hfl : (flL [q]).length = 7 := by rw [flL_len]; simp
 obtain ⟨cur', p1, p2, p3⟩ := heap_put bx 32 (flL [q]) 0 Y cz h (by rw [hfl, hz]; omega)
 refine ⟨Y.setCells bx 0 (flL [q]), ?_, ?_, p3⟩
 ·have hr := run_storeAt_mid (P := Tryz.prog) Y bx 0 32 (flL [q]).toArray (fun j hj => by
   have hj' : j < 7 := by simpa [hfl] using hj
   have hlt : 0 + j < cz.size := by rw [hz]; omega
   simp only [World.cell?, World.frozen?, h]
   simp at hlt
   simp [hlt]) (by rw [List.size_toArray, hfl]; kernel_rfl) (all_oneCell_toArray h1)
  rw [flL_one] at hr ⊢
  exact hr
 ·have := csL_of (W := Y.setCells bx 0 (flL [q])) (b := bx) (off := 0) (ps := [q]) (fun j u hj => by
   have hjl : j < (flL [q]).length := (List.getElem?_eq_some_iff.1 hj).1
   rw [Nat.zero_add]
   simp only [World.cell?, p1]
   have e : cur'[j]? = cur'.toList[j]? := by simp
   rw [p2, List.take_zero, List.nil_append, List.getElem?_append_left hjl, hj] at e
   simpa using e) (i := 0) (by simp)
  simpa using this
theorem apart1L (w0 W0 : World) (bs ba : Nat) (p : (Lt × Value × Value)) (hp : OkL w0 p) (hw : Below w0.heap.size w0 W0) (c1 : W0.cell? ⟨bs, 0, none⟩ = some fsL) (ls : bs < W0.heap.size) (cp : CsL W0 ba 0 p) (la : ba < W0.heap.size) :
  PrL w0 W0 112 #[.pointer (some ⟨bs, 0, none⟩), .pointer (some ⟨ba, 0, none⟩)] (fun q => smL p q) := by
 intro q W hq hW
 show Calls Tryz.prog 112 #[lval q.1 q.2.1 q.2.2, .pointer (some ⟨bs, 0, none⟩), .pointer (some ⟨ba, 0, none⟩)] W _
 have hb := below_box W (lbox q.1 q.2.1 q.2.2)
 have cq := bxL_cells W q
 have b1 : Below W0.heap.size W0 (W.alloc (lbox q.1 q.2.1 q.2.2)) := hW.trans (hb.mono hW.size)
 have d1 := kc b1 ls c1
 have dp := cp.keep b1 la
 have hc := sameL_any w0 p q hp hq (W.alloc (lbox q.1 q.2.1 q.2.2)) (hw.trans (b1.mono hw.size))
 have eg := eg40
 have HB : Hid (Below W.heap.size W (W.alloc (lbox q.1 q.2.1 q.2.2))) := hb
 obtain ⟨z, hz⟩ : ∃ z, smL p q = z := ⟨_, rfl⟩
 simp only [hz]
 rw [hz] at hc
 clear hw c1 cp hW b1 hb hz ls la
 obtain ⟨x, sx, rx⟩ := p
 obtain ⟨y, sy, ry⟩ := q
 simp only [OkL] at hp hq
 obtain ⟨_, _, rfl, _⟩ := hp.1.1.slice
 obtain ⟨_, _, rfl, _⟩ := hp.1.2.slice
 obtain ⟨_, _, rfl, _⟩ := hq.1.1.slice
 obtain ⟨_, _, rfl, _⟩ := hq.1.2.slice
 obtain ⟨p0, p1, p2, p3, p4, p5, p6⟩ := dp
 obtain ⟨q0, q1, q2, q3, q4, q5, q6⟩ := cq
 simp only at p0 p1 p2 p3 p4 p5 p6 q0 q1 q2 q3 q4 q5 q6 hc d1
 clear hp hq
 go_enter Tryz.func112, Tryz.ntmps112
 go_wp2_with (first | (go_at_fn 40; refine hc.mono ?_; rintro e w3 ⟨rfl, hb3⟩))
 go_ret
 exact ⟨rfl, HB.out.trans (hb3.mono HB.out.size)⟩
structure ApL (w0 w1 : World) (ms ns : List (Lt × Value × Value)) (i : Nat) (vM vN : Value) (out cur : List (Lt × Value × Value)) (W : World) : Prop where
 rm : W.ownsRow w1.heap.size 32 7 vM out.length (flL out)
 rn : W.ownsRow w1.heap.size 32 7 vN cur.length (flL cur)
 bel : Below w1.heap.size w1 W
 dj : ∀ g, vM.ownBlock = some g -> vN.ownBlock ≠ some g
 eq : aprt (fun p : Lt × Value × Value => kap p.1) ms ns = (out ++ (aprt (fun p : Lt × Value × Value => kap p.1) (ms.drop i) cur).1, (aprt (fun p : Lt × Value × Value => kap p.1) (ms.drop i) cur).2)
 okm : ∀ p ∈ out, OkL w0 p
 okn : ∀ p ∈ cur, OkL w0 p
 lm : out.length <= i
 ln : cur.length <= ns.length
 sv : (∃ a c, vM = .slice a out.length c) ∧ ∃ a c, vN = .slice a cur.length c
section
variable {w0 w1 W W' : World} {ms ns : List (Lt × Value × Value)} {i : Nat} {vM vN vM' vN' : Value} {out cur : List (Lt × Value × Value)}
theorem ApL.below (h : ApL w0 w1 ms ns i vM vN out cur W) (hb : Below W.heap.size W W') : ApL w0 w1 ms ns i vM vN out cur W' :=
 ⟨rowL_keep h.rm (fun r hr => by
  obtain ⟨_, c, hc⟩ := row_block h.rm hr
  exact hb.block r (Array.getElem?_eq_some_iff.1 hc).1), rowL_keep h.rn (fun r hr => by
  obtain ⟨_, c, hc⟩ := row_block h.rn hr
  exact hb.block r (Array.getElem?_eq_some_iff.1 hc).1), h.bel.trans (hb.mono h.bel.size), h.dj, h.eq, h.okm, h.okn, h.lm, h.ln, h.sv⟩
theorem ApL.add (h : ApL w0 w1 ms ns i vM vN out cur W) (hi : i < ms.length) (hok : OkL w0 ms[i]) (hf : cur.findIdx? (fun q => smL ms[i] q) = none) (hr : W'.ownsRow w1.heap.size 32 7 vM' (out.length + 1) (flL out ++ flL [ms[i]])) (hg : W.grownBy W' vM.ownBlock) (hb : vM'.ownBlock = vM.ownBlock ∨ vM'.ownBlock = some W.heap.size) :
  ApL w0 w1 ms ns (i + 1) vM' vN (out ++ [ms[i]]) cur W' := by
 have nlt : ∀ g, vN.ownBlock = some g -> g < W.heap.size := fun g e => by
  obtain ⟨_, c, hc⟩ := row_block h.rn e
  exact (Array.getElem?_eq_some_iff.1 hc).1
 refine ⟨by rw [List.length_append, flL_app]; exact hr, rowL_keep h.rn (fun r e => hg.block r (nlt r e) (fun k => h.dj r k.symm e)), ?_, fun g e k => ?_, ?_, fun p hp => ?_, h.okn, by simp; exact h.lm, h.ln, ⟨by obtain ⟨a, c, e⟩ := row_slice hr; exact ⟨a, c, by rw [e]; simp⟩, h.sv.2⟩⟩
 ·have o : Only vM.ownBlock.toList W W' := Only.of_grown hg (fun r e => by simp [e])
  exact h.bel.trans (o.below h.bel.size (fun r hr => by
   have e : vM.ownBlock = some r := by simpa using hr
   exact (row_block h.rm e).1))
 ·rcases hb with q | q
  ·exact h.dj g (q ▸ e) k
  ·rw [q] at e
   have := nlt g k
   have := Option.some.inj e
   omega
 ·rw [h.eq, List.drop_eq_getElem_cons hi, aprt]
  have hf' : cur.findIdx? (fun b => (open Classical in decide ((fun p : Lt × Value × Value => kap p.1) ms[i] = (fun p : Lt × Value × Value => kap p.1) b))) = none := hf
  rw [hf']
  simp
 ·rcases List.mem_append.1 hp with q | q
  ·exact h.okm p q
  ·have : p = ms[i] := by simpa using q
   rw [this]; exact hok
theorem ApL.cut (h : ApL w0 w1 ms ns i vM vN out cur W) (hi : i < ms.length) {k : Nat} (hf : cur.findIdx? (fun q => smL ms[i] q) = some k) (hk : k < cur.length) {g : Nat} (hvN : vN.ownBlock = some g) (hvN' : vN'.ownBlock = some g) (hr : W'.ownsRow w1.heap.size 32 7 vN' (cur.eraseIdx k).length (flL (cur.eraseIdx k))) (ho : Only [g] W W') :
  ApL w0 w1 ms ns (i + 1) vM vN' out (cur.eraseIdx k) W' := by
 refine ⟨rowL_keep h.rm (fun r e => ho.block r (by
  obtain ⟨_, c, hc⟩ := row_block h.rm e
  exact (Array.getElem?_eq_some_iff.1 hc).1) (by simp only [List.mem_singleton]; intro q; exact h.dj r e (by rw [q]; exact hvN))), hr, h.bel.trans (ho.below h.bel.size (by simpa using (row_block h.rn hvN).1)), fun r e q => h.dj r e (by rw [hvN, <- hvN', q]), ?_, h.okm, fun p hp => h.okn p (List.mem_of_mem_eraseIdx hp), by have := h.lm; omega, by have := h.ln; rw [List.length_eraseIdx_of_lt hk]; omega, ⟨h.sv.1, by obtain ⟨a, c, e⟩ := row_slice hr; exact ⟨a, c, e⟩⟩⟩
 rw [h.eq, List.drop_eq_getElem_cons hi, aprt]
 have hf' : cur.findIdx? (fun b => (open Classical in decide ((fun p : Lt × Value × Value => kap p.1) ms[i] = (fun p : Lt × Value × Value => kap p.1) b))) = some k := hf
 rw [hf']
end
theorem apartL_any (w0 : World) (ms ns : List (Lt × Value × Value)) (vm vn : Value) (w : World) (hw : Below w0.heap.size w0 w) (hm : RdL w0 w vm ms) (hn : RdL w0 w vn ns) (lm : ms.length <= 60000) (ln : ns.length <= 60000) :
  Calls Tryz.prog 71 #[fsL, vm, vn] w fun e w' => ∃ v1 v2, e = .returned (.tuple #[v1, v2]) ∧ RdL w0 w' v1 (cmpt (fun p : Lt × Value × Value => kap p.1) (aprt (fun p : Lt × Value × Value => kap p.1) ms ns).1) ∧ RdL w0 w' v2 (cmpt (fun p : Lt × Value × Value => kap p.1) (aprt (fun p : Lt × Value × Value => kap p.1) ms ns).2) ∧ Below w.heap.size w w' := by
 obtain ⟨i0, hi0, hz0, hz1, hz2⟩ := info_parts Tryz.info32q
 obtain ⟨w1, h1⟩ : ∃ X, w.alloc (.cells #[fsL] 64) = X := ⟨_, rfl⟩
 have b1 : Below w.heap.size w w1 := by rw [<- h1]; exact below_box _ _
 have s1 : w1.heap.size = w.heap.size + 1 := by rw [<- h1]; simp
 have cs := box1_cells w fsL 64
 rw [h1] at cs
 have hm1 := hm.keep b1
 have hcl := cloneL_any w0 ns vn w1 (hn.keep b1) (by omega)
 have b01 : Below w0.heap.size w0 w1 := hw.trans (b1.mono hw.size)
 obtain ⟨ma, mc, rfl, hmc1, hmc2⟩ := hm.slice
 obtain ⟨na, nc, rfl, _, _⟩ := hn.slice
 have HH : Hid (RdL w0 w1 (.slice ma ms.length mc) ms ∧ Below w0.heap.size w0 w1 ∧ w1.cell? ⟨w.heap.size, 0, none⟩ = some fsL ∧ w1.heap.size = w.heap.size + 1 ∧ Below w.heap.size w w1 ∧ ∀ p ∈ ns, OkL w0 p) := ⟨hm1, b01, cs, s1, b1, hn.ok⟩
 clear hm hn hm1 b01 cs b1
 go_enter Tryz.func71, Tryz.ntmps71
 try rw [h1]
 go_wp2_with fail
 try rw [h1]
 refine hcl.mono ?_
 rintro e W2 ⟨v', rfl, hr, hb2⟩
 obtain ⟨ca, cc, rfl⟩ := row_slice hr
 have HA : Hid (ApL w0 w1 ms ns 0 (.slice none 0 0) (.slice ca ns.length cc) [] ns W2) := ⟨⟨rfl, .inl ⟨rfl, rfl⟩⟩, hr, hb2, fun g e => by simp [Value.ownBlock] at e, by simp, by simp, HH.out.2.2.2.2.2, Nat.le_refl _, Nat.le_refl _, ⟨none, 0, rfl⟩, ⟨_, _, rfl⟩⟩
 clear hcl hr hb2
 go_wp2
 go_loopw [6, 7, 15] (fun v6 v7 vi wr => ∃ (i : Nat) (a6 : Option Addr) (n6 c6 : Nat) (a7 : Option Addr) (n7 c7 : Nat), v6 = .slice a6 n6 c6 ∧ v7 = .slice a7 n7 c7 ∧ vi = .int .i64 i ∧ i <= ms.length ∧ Hid (∃ out cur, n6 = out.length ∧ n7 = cur.length ∧ ApL w0 w1 ms ns i (.slice a6 n6 c6) (.slice a7 n7 c7) out cur wr)) (fun _ _ vi _ => ms.length - (intOf vi).toNat)
 case atStart => exact ⟨0, none, 0, 0, ca, ns.length, cc, rfl, rfl, rfl, Nat.zero_le _, [], ns, rfl, rfl, HA.out⟩
 case round =>
  obtain ⟨i, a6, n6, c6, a7, n7, c7, rfl, rfl, rfl, hi, HI⟩ := hrel
  obtain ⟨out, cur, rfl, rfl, hA⟩ := HI.out
  clear HI HA
  by_cases hlt : i < ms.length
  ·have hiI : (i : Int) < (ms.length : Int) := by omega
   obtain ⟨bb, o, rfl, hlb, hcs, hok⟩ := (HH.out.1.keep hA.bel).nth hlt
   obtain ⟨Wz, hWz⟩ : ∃ X, wr.alloc (.cells #[.bool false, .int .i64 0, .string ⟨#[]⟩, .slice none 0 0, .int .i64 0, .string ⟨#[]⟩, .slice none 0 0] 32) = X := ⟨_, rfl⟩
   have bz : Below wr.heap.size wr Wz := by rw [<- hWz]; exact below_box _ _
   have hz : Wz.heap[wr.heap.size]? = some (.cells #[.bool false, .int .i64 0, .string ⟨#[]⟩, .slice none 0 0, .int .i64 0, .string ⟨#[]⟩, .slice none 0 0] 32 (0, 0)) := by rw [<- hWz]; exact (MapKept.heap_alloc _ _).1
   obtain ⟨W4, hrun, hcp, hon⟩ := bxstL Wz wr.heap.size #[.bool false, .int .i64 0, .string ⟨#[]⟩, .slice none 0 0, .int .i64 0, .string ⟨#[]⟩, .slice none 0 0] ms[i] hz rfl (onesL (w0 := w0) (fun p hp => by
    have e : p = ms[i] := by simpa using hp
    rw [e]; exact hok))
   have b4 : Below wr.heap.size wr W4 := bz.trans (hon.below bz.size (by simp))
   have hA4 := hA.below b4
   have s4 : wr.heap.size < W4.heap.size := by
    have := hon.size
    have : Wz.heap.size = wr.heap.size + 1 := by rw [<- hWz]; simp
    omega
   have hws := hA.bel.size
   have d4 : W4.cell? ⟨w.heap.size, 0, none⟩ = some fsL := kc hA4.bel (by have := HH.out.2.2.2.1; omega) HH.out.2.2.1
   have hw04 : Below w0.heap.size w0 W4 := HH.out.2.1.trans (hA4.bel.mono HH.out.2.1.size)
   have hpr := apart1L w0 W4 w.heap.size wr.heap.size ms[i] hok hw04 d4 (by have := HH.out.2.2.2.1; omega) hcp s4
   have hix := indexL_any w0 W4 112 _ _ eg112 hpr cur _ W4 (Below.refl _ _) (rdL_of_row hA4.rn hA4.okn)
   obtain ⟨q, hq⟩ : ∃ q, ms[i] = q := ⟨_, rfl⟩
   have HQ : Hid (∃ h : i < ms.length, ms[i] = q) := ⟨hlt, hq⟩
   have HA4 : Hid (ApL w0 w1 ms ns i (.slice a6 out.length c6) (.slice a7 cur.length c7) out cur W4 ∧ OkL w0 q ∧ CsL W4 wr.heap.size 0 q ∧ wr.heap.size < W4.heap.size) := ⟨hA4, hq ▸ hok, hq ▸ hcp, s4⟩
   have hmax : out.length <= 60000 := by have := hA.lm; omega
   rw [hq] at hcs hrun hix hok
   have hff := firstG_find (fun p => smL q p) cur 0
   clear hA hA4 hcp hon b4 bz hz d4 hw04 hpr hq hws s4
   obtain ⟨x, sx, rx⟩ := q
   simp only [OkL] at hok
   obtain ⟨xa, xc, rfl, _, _⟩ := hok.1.1.slice
   obtain ⟨xb, xd, rfl, _, _⟩ := hok.1.2.slice
   obtain ⟨k0, k1, k2, k3, k4, k5, k6⟩ := hcs
   simp only at k0 k1 k2 k3 k4 k5 k6 hrun
   clear hok
   rcases hff with ⟨e1, e2⟩ | ⟨k, hk, e1, e2⟩
   ·rw [e1] at hix
    have HF : Hid (cur.findIdx? (fun p => smL (x, .slice xa x.l.args.length xc, .slice xb x.r.args.length xd) p) = none) := e2
    clear e1 e2
    go_wp2_with (first | (refine wpList_store_run rfl 32 _ _ rfl (.pointer (some ⟨wr.heap.size, 0, none⟩)) (lval x (.slice xa x.l.args.length xc) (.slice xb x.r.args.length xd)) rfl rfl hrun ?_))
    try rw [hWz]
    refine hix.mono ?_
    rintro e W5 ⟨rfl, hb5⟩
    have hA5 := HA4.out.1.below hb5
    have hc5 := HA4.out.2.2.1.keep hb5 HA4.out.2.2.2
    obtain ⟨g0, g1, g2, g3, g4, g5, g6⟩ := hc5
    simp only [Nat.zero_add] at g0 g1 g2 g3 g4 g5 g6
    have hb6 := below_box W5 (.cells #[.bool x.neg, .int .i64 x.l.v, .string x.l.fn, .slice xa x.l.args.length xc, .int .i64 x.r.v, .string x.r.fn, .slice xb x.r.args.length xd] 32)
    have hrow6 : (W5.alloc (.cells #[.bool x.neg, .int .i64 x.l.v, .string x.l.fn, .slice xa x.l.args.length xc, .int .i64 x.r.v, .string x.r.fn, .slice xb x.r.args.length xd] 32)).ownsRow w1.heap.size 32 7 (.slice a6 out.length c6) out.length (flL out) := (hA5.below hb6).rm
    have hones : Hid (∀ u ∈ flL [(x, .slice xa x.l.args.length xc, .slice xb x.r.args.length xd)], u.oneCell' = true) := onesL (w0 := w0) (fun p hp => by
     have e : p = (x, .slice xa x.l.args.length xc, .slice xb x.r.args.length xd) := by simpa using hp
     rw [e]; exact HA4.out.2.1)
    have hlow : w1.heap.size <= W5.heap.size := hA5.bel.size
    have HA5 : Hid (ApL w0 w1 ms ns i (.slice a6 out.length c6) (.slice a7 cur.length c7) out cur (W5.alloc (.cells #[.bool x.neg, .int .i64 x.l.v, .string x.l.fn, .slice xa x.l.args.length xc, .int .i64 x.r.v, .string x.r.fn, .slice xb x.r.args.length xd] 32))) := hA5.below hb6
    clear hix hrun hA5 hb5 hb6 k0 k1 k2 k3 k4 k5 k6
    go_wp2_with (first
     | (at_builtin; refine wpList_append_own_at _ rfl _ _ 34 rfl w1.heap.size 32 i0 _ 7 104 Tryz.underlying34 hi0 hz0 hz1 hz2 rfl (by decide) (.slice a6 out.length c6) out.length (flL out) rfl hrow6 ⟨W5.heap.size, 0, none⟩ 1 1 (flL [(x, .slice xa x.l.args.length xc, .slice xb x.r.args.length xd)]) rfl (by rw [flL_len]; simp) (fun j u hj => by { rw [Addr.add_mid, Nat.zero_add, cell_of_row _ _ _ _ 32 (0, 0) (MapKept.heap_alloc W5 _).1]; rw [flL_one] at hj; simpa using hj }) hones.out (by unfold maxLen; omega) (by omega) (by simp; omega) ?_; intro v' w6 hown6 hg6 hnil6 hat6; obtain ⟨a8, c8, rfl⟩ := row_slice hown6))
    have HN : Hid (∃ out' cur', out.length + 1 = out'.length ∧ cur.length = cur'.length ∧ ApL w0 w1 ms ns (i + 1) (.slice a8 (out.length + 1) c8) (.slice a7 cur.length c7) out' cur' w6) := by
     obtain ⟨h, e⟩ := HQ.out
     refine ⟨out ++ [ms[i]], cur, by simp, rfl, HA5.out.add h (by rw [e]; exact HA4.out.2.1) (by rw [e]; exact HF.out) (by rw [e]; exact hown6) hg6 hat6⟩
    clear hown6 hg6 hnil6 hat6 hrow6 g0 g1 g2 g3 g4 g5 g6
    go_roundw
    case rel => exact ⟨i + 1, a8, out.length + 1, c8, a7, cur.length, c7, rfl, rfl, by go_num, by omega, HN.out⟩
    case measure => simp [intOf]; omega
   ·rw [e1, Nat.zero_add] at hix
    have HF : Hid (cur.findIdx? (fun p => smL (x, .slice xa x.l.args.length xc, .slice xb x.r.args.length xd) p) = some k ∧ k < cur.length) := ⟨e2, hk⟩
    have hk0 : ¬ (k : Int) < 0 := by omega
    clear e1 e2
    go_wp2_with (first | (refine wpList_store_run rfl 32 _ _ rfl (.pointer (some ⟨wr.heap.size, 0, none⟩)) (lval x (.slice xa x.l.args.length xc) (.slice xb x.r.args.length xd)) rfl rfl hrun ?_))
    try rw [hWz]
    refine hix.mono ?_
    rintro e W5 ⟨rfl, hb5⟩
    have hA5 := HA4.out.1.below hb5
    have hdel := deleteL_any w0 w1.heap.size cur (.slice a7 cur.length c7) W5 hA5.rn hA5.okn k (k + 1) rfl hk
    have hcn : (((k + 1 : Nat)) : Int) = (k : Int) + 1 := rfl
    rw [hcn] at hdel
    have hkb : (k : Int) <= 60000 := by have := hA5.ln; omega
    have HA5 : Hid (ApL w0 w1 ms ns i (.slice a6 out.length c6) (.slice a7 cur.length c7) out cur W5) := hA5
    clear hix hrun hA5 hb5 k0 k1 k2 k3 k4 k5 k6 hcn
    go_wp2_with fail
    refine hdel.mono ?_
    rintro e W6 ⟨v', g, rfl, hv1, hv2, hr6, ho6⟩
    obtain ⟨a8, c8, rfl⟩ := row_slice hr6
    obtain ⟨n8, hn8⟩ : ∃ n, (cur.eraseIdx k).length = n := ⟨_, rfl⟩
    have HN : Hid (∃ out' cur', out.length = out'.length ∧ n8 = cur'.length ∧ ApL w0 w1 ms ns (i + 1) (.slice a6 out.length c6) (.slice a8 n8 c8) out' cur' W6) := by
     obtain ⟨h, e⟩ := HQ.out
     subst hn8
     exact ⟨out, cur.eraseIdx k, rfl, rfl, HA5.out.cut h (by rw [e]; exact HF.out.1) HF.out.2 hv1 hv2 hr6 ho6⟩
    rw [hn8]
    clear hdel hv1 hv2 hr6 ho6 hn8
    go_wp2
    go_roundw
    case rel => exact ⟨i + 1, a6, out.length, c6, a8, n8, c8, rfl, rfl, by go_num, by omega, HN.out⟩
    case measure => simp [intOf]; omega
  ·have he := hA.eq
   rw [List.drop_eq_nil_of_le (by omega)] at he
   simp only [aprt, List.append_nil] at he
   obtain ⟨xs, hxs⟩ : ∃ l, cmpt (fun p : Lt × Value × Value => kap p.1) out = l := ⟨_, rfl⟩
   obtain ⟨ys, hys⟩ : ∃ l, cmpt (fun p : Lt × Value × Value => kap p.1) cur = l := ⟨_, rfl⟩
   have b01 := HH.out.2.1
   have hcM : ∀ Z, Only ((Value.slice a6 out.length c6).ownBlock.toList ++ (Value.slice a7 cur.length c7).ownBlock.toList) wr.drew Z -> (∀ r, (Value.slice a6 out.length c6).ownBlock = some r -> Z.heap[r]? = wr.heap[r]?) -> Calls Tryz.prog 114 #[.slice a6 out.length c6, fsL] Z fun e Z' => ∃ v', e = .returned v' ∧ Z'.ownsRow w1.heap.size 32 7 v' xs.length (flL xs) ∧ v'.ownBlock = (Value.slice a6 out.length c6).ownBlock ∧ Only (Value.slice a6 out.length c6).ownBlock.toList Z Z' := fun Z hZ hk => by
    have hb : Below w1.heap.size w1 Z := hA.bel.drew.trans (hZ.below hA.bel.drew.size (fun r hr => by
     rcases List.mem_append.1 hr with q | q
     ·exact (row_block hA.rm (by simpa using q)).1
     ·exact (row_block hA.rn (by simpa using q)).1))
    have := compactL_any w0 w1.heap.size out (.slice a6 out.length c6) Z (rowL_keep hA.rm hk) hA.okm (b01.trans (hb.mono b01.size)) b01.size
    rw [hxs] at this
    exact this
   have hcN : ∀ Z, Only ((Value.slice a6 out.length c6).ownBlock.toList ++ (Value.slice a7 cur.length c7).ownBlock.toList) wr.drew Z -> (∀ r, (Value.slice a7 cur.length c7).ownBlock = some r -> Z.heap[r]? = wr.heap[r]?) -> Calls Tryz.prog 114 #[.slice a7 cur.length c7, fsL] Z fun e Z' => ∃ v', e = .returned v' ∧ Z'.ownsRow w1.heap.size 32 7 v' ys.length (flL ys) ∧ v'.ownBlock = (Value.slice a7 cur.length c7).ownBlock ∧ Only (Value.slice a7 cur.length c7).ownBlock.toList Z Z' := fun Z hZ hk => by
    have hb : Below w1.heap.size w1 Z := hA.bel.drew.trans (hZ.below hA.bel.drew.size (fun r hr => by
     rcases List.mem_append.1 hr with q | q
     ·exact (row_block hA.rm (by simpa using q)).1
     ·exact (row_block hA.rn (by simpa using q)).1))
    have := compactL_any w0 w1.heap.size cur (.slice a7 cur.length c7) Z (rowL_keep hA.rn hk) hA.okn (b01.trans (hb.mono b01.size)) b01.size
    rw [hys] at this
    exact this
   have HDJ : Hid (∀ g, (Value.slice a6 out.length c6).ownBlock = some g -> (Value.slice a7 cur.length c7).ownBlock ≠ some g) := hA.dj
   have HLT : Hid ((∀ g, (Value.slice a6 out.length c6).ownBlock = some g -> g < wr.heap.size) ∧ ∀ g, (Value.slice a7 cur.length c7).ownBlock = some g -> g < wr.heap.size) := ⟨fun g e => by
     obtain ⟨_, c, hc⟩ := row_block hA.rm e
     exact (Array.getElem?_eq_some_iff.1 hc).1, fun g e => by
     obtain ⟨_, c, hc⟩ := row_block hA.rn e
     exact (Array.getElem?_eq_some_iff.1 hc).1⟩
   have q1 : ∀ Z, Only ((Value.slice a6 out.length c6).ownBlock.toList ++ (Value.slice a7 cur.length c7).ownBlock.toList) wr.drew Z -> Z.cell? ⟨w.heap.size, 0, none⟩ = some fsL := fun Z hZ => cell_on hZ (fun hr => by
     have hs := HH.out.2.2.2.1
     rcases List.mem_append.1 hr with q | q
     ·have := (row_block hA.rm (by simpa using q)).1; omega
     ·have := (row_block hA.rn (by simpa using q)).1; omega) (kc hA.bel.drew (by have := HH.out.2.2.2.1; omega) HH.out.2.2.1)
   have HO : Hid ((∀ p ∈ xs, OkL w0 p) ∧ (∀ p ∈ ys, OkL w0 p) ∧ Below w1.heap.size w1 wr.drew ∧ ∀ r ∈ (Value.slice a6 out.length c6).ownBlock.toList ++ (Value.slice a7 cur.length c7).ownBlock.toList, w1.heap.size <= r) := ⟨fun p hp => hA.okm p (cmpt_sub _ _ _ (by rw [hxs]; exact hp)), fun p hp => hA.okn p (cmpt_sub _ _ _ (by rw [hys]; exact hp)), hA.bel.drew, fun r hr => by
     rcases List.mem_append.1 hr with q | q
     ·exact (row_block hA.rm (by simpa using q)).1
     ·exact (row_block hA.rn (by simpa using q)).1⟩
   have hcMH : Hid (∀ Z, Only ((Value.slice a6 out.length c6).ownBlock.toList ++ (Value.slice a7 cur.length c7).ownBlock.toList) wr.drew Z -> (∀ r, (Value.slice a6 out.length c6).ownBlock = some r -> Z.heap[r]? = wr.heap[r]?) -> Calls Tryz.prog 114 #[.slice a6 out.length c6, fsL] Z fun e Z' => ∃ v', e = .returned v' ∧ Z'.ownsRow w1.heap.size 32 7 v' xs.length (flL xs) ∧ v'.ownBlock = (Value.slice a6 out.length c6).ownBlock ∧ Only (Value.slice a6 out.length c6).ownBlock.toList Z Z') := hcM
   have hcNH : Hid (∀ Z, Only ((Value.slice a6 out.length c6).ownBlock.toList ++ (Value.slice a7 cur.length c7).ownBlock.toList) wr.drew Z -> (∀ r, (Value.slice a7 cur.length c7).ownBlock = some r -> Z.heap[r]? = wr.heap[r]?) -> Calls Tryz.prog 114 #[.slice a7 cur.length c7, fsL] Z fun e Z' => ∃ v', e = .returned v' ∧ Z'.ownsRow w1.heap.size 32 7 v' ys.length (flL ys) ∧ v'.ownBlock = (Value.slice a7 cur.length c7).ownBlock ∧ Only (Value.slice a7 cur.length c7).ownBlock.toList Z Z') := hcN
   have HEQ : Hid (cmpt (fun p : Lt × Value × Value => kap p.1) (aprt (fun p : Lt × Value × Value => kap p.1) ms ns).1 = xs ∧ cmpt (fun p : Lt × Value × Value => kap p.1) (aprt (fun p : Lt × Value × Value => kap p.1) ms ns).2 = ys) := by rw [he]; exact ⟨hxs, hys⟩
   clear hA he hxs hys b01 hcM hcN
   go_wp2
   refine wp_region_held_drew (S := fun Z => Only ((Value.slice a6 out.length c6).ownBlock.toList ++ (Value.slice a7 cur.length c7).ownBlock.toList) wr.drew Z) (by kernel_rfl) (Only.refl _ _) (fun hHeld => ?_)
   refine take_mk 0 (.slice a6 out.length c6) rfl (by kernel_rfl) (by kernel_rfl) (by kernel_rfl) (fun _ _ _ h => h) (Or.inl ⟨by rfl, fun Z hZ => by go_simp⟩) (by assumption) ?_
   try simp only [Act.put, List.setIfInBounds_toArray, List.set_cons_zero, List.set_cons_succ]
   refine take_mk 1 (fsL) rfl (by kernel_rfl) (by kernel_rfl) (by kernel_rfl) (fun _ _ _ h => h) (Or.inl ⟨by rfl, fun Z hZ => by have := q1 Z hZ; go_simp⟩) (by assumption) ?_
   try simp only [Act.put, List.setIfInBounds_toArray, List.set_cons_zero, List.set_cons_succ]
   refine take_mk 3 (.slice a7 cur.length c7) rfl (by kernel_rfl) (by kernel_rfl) (by kernel_rfl) (fun _ _ _ h => h) (Or.inl ⟨by rfl, fun Z hZ => by go_simp⟩) (by assumption) ?_
   try simp only [Act.put, List.setIfInBounds_toArray, List.set_cons_zero, List.set_cons_succ]
   refine take_mk 4 (fsL) rfl (by kernel_rfl) (by kernel_rfl) (by kernel_rfl) (fun _ _ _ h => h) (Or.inl ⟨by rfl, fun Z hZ => by have := q1 Z hZ; go_simp⟩) (by assumption) ?_
   try simp only [Act.put, List.setIfInBounds_toArray, List.set_cons_zero, List.set_cons_succ]
   refine wpAnyH_ready (rs := [2]) (by kernel_rfl) (by simp) (AllReadyH.cons (o := ⟨_, _, _, _, _, _⟩) rfl (fun K hK => ?aa) AllReadyH.nil)
   case' aa =>
    rw [if_pos (by rfl)]
    go_simp
    refine (hcMH.out _ hHeld (fun r _ => rfl)).mono ?_
    rintro e X1 ⟨v1, rfl, hr1, hb1, ho1⟩
    obtain ⟨a1, c1, rfl⟩ := row_slice hr1
    have hS1 : Only ((Value.slice a6 out.length c6).ownBlock.toList ++ (Value.slice a7 cur.length c7).ownBlock.toList) wr.drew X1 := hHeld.trans ho1 (fun r hr => .inl (List.mem_append_left _ hr))
    refine hK.out _ _ hS1 (fun hHeld1 => ?_)
    clear hK K
    try simp only [Act.put, List.setIfInBounds_toArray, List.set_cons_zero, List.set_cons_succ]
    refine wpAnyH_ready (rs := [5]) (by kernel_rfl) (by simp) (AllReadyH.cons (o := ⟨_, _, _, _, _, _⟩) rfl (fun K hK => ?_) AllReadyH.nil)
    rw [if_pos (by rfl)]
    go_simp
    refine (hcNH.out _ hS1 (fun r e => ho1.block r (HLT.out.2 r e) (by simp only [Option.mem_toList]; exact fun q => HDJ.out r q e))).mono ?_
    rintro e X2 ⟨v2, rfl, hr2, hb2, ho2⟩
    obtain ⟨a2, c2, rfl⟩ := row_slice hr2
    have hS2 : Only ((Value.slice a6 out.length c6).ownBlock.toList ++ (Value.slice a7 cur.length c7).ownBlock.toList) wr.drew X2 := hS1.trans ho2 (fun r hr => .inl (List.mem_append_right _ hr))
    have HF : Hid (X2.ownsRow w1.heap.size 32 7 (.slice a1 xs.length c1) xs.length (flL xs) ∧ X2.ownsRow w1.heap.size 32 7 (.slice a2 ys.length c2) ys.length (flL ys) ∧ Only ((Value.slice a6 out.length c6).ownBlock.toList ++ (Value.slice a7 cur.length c7).ownBlock.toList) wr.drew X2) := ⟨rowL_keep hr1 (fun r e => ho2.block r (by obtain ⟨_, c, hc⟩ := row_block hr1 e; exact (Array.getElem?_eq_some_iff.1 hc).1) (by simp only [Option.mem_toList]; exact HDJ.out r (by rw [<- hb1]; exact e))), hr2, hS2⟩
    refine hK.out _ _ hS2 (fun _ => ?_)
    clear hK K
    try simp only [Act.put, List.setIfInBounds_toArray, List.set_cons_zero, List.set_cons_succ]
    refine take_mk 6 (.slice a1 xs.length c1) rfl (by kernel_rfl) (by kernel_rfl) (by kernel_rfl) (fun _ _ _ h => h) (Or.inl ⟨by rfl, fun Z hZ => by go_simp⟩) (by assumption) ?_
    try simp only [Act.put, List.setIfInBounds_toArray, List.set_cons_zero, List.set_cons_succ]
    refine take_mk 7 (.slice a2 ys.length c2) rfl (by kernel_rfl) (by kernel_rfl) (by kernel_rfl) (fun _ _ _ h => h) (Or.inl ⟨by rfl, fun Z hZ => by go_simp⟩) (by assumption) ?_
    try simp only [Act.put, List.setIfInBounds_toArray, List.set_cons_zero, List.set_cons_succ]
    refine wpAnyH_done (by kernel_rfl) ?_ _
    try simp only [Act.put]
    clear hS1 hS2 hr1 hr2 hb1 hb2 ho1 ho2 hHeld1
   all_goals (
    go_wp2
    (try simp only [Exit.inBlock, Exit.then]); refine bodyPost_ret (results_tmp2 rfl _ _ _) rfl ?_
    refine ⟨_, _, rfl, by rw [HEQ.out.1]; exact rdL_of_row HF.out.1 HO.out.1, by rw [HEQ.out.2]; exact rdL_of_row HF.out.2.1 HO.out.2.1, ?_⟩
    have hb : Below w1.heap.size w1 X2 := HO.out.2.2.1.trans (HF.out.2.2.below HO.out.2.2.1.size HO.out.2.2.2)
    exact HH.out.2.2.2.2.1.trans (hb.mono HH.out.2.2.2.2.1.size))
theorem extL_tells (o : Od) (ms ns : List (Lt × Value × Value)) {xs ys : List (Lt × Value × Value)} (hx : cmpt (fun p : Lt × Value × Value => kap p.1) (aprt (fun p : Lt × Value × Value => kap p.1) ms ns).1 = xs) (hy : cmpt (fun p : Lt × Value × Value => kap p.1) (aprt (fun p : Lt × Value × Value => kap p.1) ms ns).2 = ys) :
  ((xs.length = 0 ∧ ys.length = 0) -> mcmp (gL o) (ms.map (fun p : Lt × Value × Value => kap p.1)) (ns.map (fun p : Lt × Value × Value => kap p.1)) = 0) ∧
  (¬ (xs.length = 0 ∧ ys.length = 0) -> covBL o xs ys = true -> mcmp (gL o) (ms.map (fun p : Lt × Value × Value => kap p.1)) (ns.map (fun p : Lt × Value × Value => kap p.1)) = 1) ∧
  (¬ (xs.length = 0 ∧ ys.length = 0) -> covBL o xs ys = false -> covBL o ys xs = true -> mcmp (gL o) (ms.map (fun p : Lt × Value × Value => kap p.1)) (ns.map (fun p : Lt × Value × Value => kap p.1)) = -1) ∧
  (¬ (xs.length = 0 ∧ ys.length = 0) -> covBL o xs ys = false -> covBL o ys xs = false -> mcmp (gL o) (ms.map (fun p : Lt × Value × Value => kap p.1)) (ns.map (fun p : Lt × Value × Value => kap p.1)) = 2) := by
 obtain ⟨h1, h2⟩ := left_apart (fun p : Lt × Value × Value => kap p.1) ms ns
 rw [hx] at h1
 rw [hy] at h2
 obtain ⟨t1, t2⟩ := left_tells (fun p : Lt × Value × Value => kap p.1) (gL o) h1 h2
 obtain ⟨_, t3⟩ := left_tells (fun p : Lt × Value × Value => kap p.1) (gL o) h2 h1
 have hl : (xs.length = 0 ∧ ys.length = 0) ↔ (xs = [] ∧ ys = []) := by simp [List.length_eq_zero_iff]
 have no : ∀ {a b : List (Lt × Value × Value)}, covBL o a b = false -> ¬ cov (fun p : Lt × Value × Value => kap p.1) (gL o) a b := fun {a b} h k => by rw [covBL_iff.2 k] at h; cases h
 unfold mcmp
 refine ⟨fun h => ?_, fun h k => ?_, fun h k q => ?_, fun h k q => ?_⟩
 ·rw [if_pos (t1.1 (hl.1 h))]
 ·have hne := fun e => h (hl.2 e)
  rw [if_neg (fun e => hne (t1.2 e)), if_pos ((t2 hne).1 (covBL_iff.1 k))]
 ·have hne := fun e => h (hl.2 e)
  rw [if_neg (fun e => hne (t1.2 e)), if_neg (fun e => no k ((t2 hne).2 e)), if_pos ((t3 (fun e => hne ⟨e.2, e.1⟩)).1 (covBL_iff.1 q))]
 ·have hne := fun e => h (hl.2 e)
  rw [if_neg (fun e => hne (t1.2 e)), if_neg (fun e => no k ((t2 hne).2 e)), if_neg (fun e => no q ((t3 (fun e => hne ⟨e.2, e.1⟩)).2 e))]
theorem extendL_any (w0 : World) (o : Od) (vn vw : Value) (ho : OdAt w0 o vn vw) (hO : OrdrL w0 o vn vw) (ms ns : List (Lt × Value × Value)) (vm v : Value) (w : World) (hw : Below w0.heap.size w0 w) (hm : RdL w0 w vm ms) (hn : RdL w0 w v ns) (lm : ms.length <= 60000) (ln : ns.length <= 60000) :
  Calls Tryz.prog 39 #[fsL, foL o vn vw, vm, v] w fun e w' => e = .returned (.int .i64 (mcmp (gL o) (ms.map (fun p : Lt × Value × Value => kap p.1)) (ns.map (fun p : Lt × Value × Value => kap p.1)))) ∧ Below w.heap.size w w' := by
 have hap := apartL_any w0 ms ns vm v w hw hm hn lm ln
 obtain ⟨xs, hx⟩ : ∃ l, cmpt (fun p : Lt × Value × Value => kap p.1) (aprt (fun p : Lt × Value × Value => kap p.1) ms ns).1 = l := ⟨_, rfl⟩
 obtain ⟨ys, hy⟩ : ∃ l, cmpt (fun p : Lt × Value × Value => kap p.1) (aprt (fun p : Lt × Value × Value => kap p.1) ms ns).2 = l := ⟨_, rfl⟩
 have HT := extL_tells o ms ns hx hy
 rw [hx, hy] at hap
 have hcv := fun (W : World) (a b : Value) (hW : Below w.heap.size w W) (h1 : RdL w0 W a xs) (h2 : RdL w0 W b ys) => coversL_any w0 o vn vw ho hO xs ys a b W (hw.trans (hW.mono hw.size)) h1 h2
 have hcv' := fun (W : World) (a b : Value) (hW : Below w.heap.size w W) (h1 : RdL w0 W a ys) (h2 : RdL w0 W b xs) => coversL_any w0 o vn vw ho hO ys xs a b W (hw.trans (hW.mono hw.size)) h1 h2
 obtain ⟨z, hz⟩ : ∃ z, mcmp (gL o) (ms.map (fun p : Lt × Value × Value => kap p.1)) (ns.map (fun p : Lt × Value × Value => kap p.1)) = z := ⟨_, rfl⟩
 rw [hz] at HT ⊢
 obtain ⟨ma, mc, rfl, _, _⟩ := hm.slice
 obtain ⟨na, nc, rfl, _, _⟩ := hn.slice
 obtain ⟨an, nn, cn, rfl⟩ := ho.vn
 obtain ⟨aw, nw, cw, rfl⟩ := ho.vw
 have HC : Hid (∀ (W : World) (a b : Value), Below w.heap.size w W -> RdL w0 W a xs -> RdL w0 W b ys -> Calls Tryz.prog 72 #[foL o (.slice an nn cn) (.slice aw nw cw), a, b] W fun e w' => e = .returned (.bool (covBL o xs ys)) ∧ Below W.heap.size W w') := hcv
 have HC' : Hid (∀ (W : World) (a b : Value), Below w.heap.size w W -> RdL w0 W a ys -> RdL w0 W b xs -> Calls Tryz.prog 72 #[foL o (.slice an nn cn) (.slice aw nw cw), a, b] W fun e w' => e = .returned (.bool (covBL o ys xs)) ∧ Below W.heap.size W w') := hcv'
 clear hz hcv hcv' hm hn ho hO hw hx hy
 by_cases h0 : xs.length = 0 ∧ ys.length = 0
 ·have HV : Hid (z = 0) := HT.1 h0
  have e1 : ((xs.length : Int) == 0) = true := by rw [h0.1]; rfl
  have e2 : ((ys.length : Int) == 0) = true := by rw [h0.2]; rfl
  clear h0 HT
  go_enter Tryz.func39, Tryz.ntmps39
  go_wp2_with fail
  refine hap.mono ?_
  rintro e W2 ⟨v1, v2, rfl, r1, r2, b2⟩
  obtain ⟨a1, c1, rfl, _, _⟩ := r1.slice
  obtain ⟨a2, c2, rfl, _, _⟩ := r2.slice
  have HB : Hid (Below w.heap.size w W2) := b2
  clear r1 r2 b2
  go_wp2
  go_ret
  exact ⟨ret_i64 HV.out.symm, HB.out⟩
 ·have hp : (((xs.length : Int) == 0) = true ∧ ((ys.length : Int) == 0) = false) ∨ ((xs.length : Int) == 0) = false := by
   by_cases e : xs.length = 0
   ·exact .inl ⟨by rw [e]; rfl, by rw [beq_eq_false_iff_ne]; omega⟩
   ·exact .inr (by rw [beq_eq_false_iff_ne]; omega)
  cases k1 : covBL o xs ys
  case true =>
   have HV : Hid (z = 1) := HT.2.1 h0 k1
   rw [k1] at HC
   clear h0 HT k1 HC'
   rcases hp with ⟨e1, e2⟩ | e1
   all_goals (
    go_enter Tryz.func39, Tryz.ntmps39
    go_wp2_with fail
    refine hap.mono ?_
    rintro e W2 ⟨v1, v2, rfl, r1, r2, b2⟩
    have hcc := HC.out W2 v1 v2 b2 r1 r2
    obtain ⟨a1, c1, rfl, _, _⟩ := r1.slice
    obtain ⟨a2, c2, rfl, _, _⟩ := r2.slice
    have HB : Hid (Below w.heap.size w W2) := b2
    clear r1 r2 b2
    go_wp2_with fail
    refine hcc.mono ?_
    rintro e W3 ⟨rfl, b3⟩
    go_wp2
    go_ret
    exact ⟨ret_i64 HV.out.symm, HB.out.trans (b3.mono HB.out.size)⟩)
  case false =>
   rw [k1] at HC
   cases k2 : covBL o ys xs
   ·rw [k2] at HC'
    have HV : Hid (z = 2) := by show _ = _; exact HT.2.2.2 h0 k1 k2
    clear h0 HT k1 k2
    rcases hp with ⟨e1, e2⟩ | e1
    all_goals (
     go_enter Tryz.func39, Tryz.ntmps39
     go_wp2_with fail
     refine hap.mono ?_
     rintro e W2 ⟨v1, v2, rfl, r1, r2, b2⟩
     have hcc := HC.out W2 v1 v2 b2 r1 r2
     have r1H : Hid (RdL w0 W2 v1 xs ∧ RdL w0 W2 v2 ys) := ⟨r1, r2⟩
     obtain ⟨a1, c1, rfl, _, _⟩ := r1.slice
     obtain ⟨a2, c2, rfl, _, _⟩ := r2.slice
     have HB : Hid (Below w.heap.size w W2) := b2
     clear r1 r2 b2
     go_wp2_with fail
     refine hcc.mono ?_
     rintro e W3 ⟨rfl, b3⟩
     have b03 := HB.out.trans (b3.mono HB.out.size)
     have hcd := HC'.out W3 _ _ b03 (r1H.out.2.keep b3) (r1H.out.1.keep b3)
     have HB3 : Hid (Below w.heap.size w W3) := b03
     clear b3 b03 hcc
     go_wp2_with fail
     refine hcd.mono ?_
     rintro e W4 ⟨rfl, b4⟩
     go_wp2
     go_ret
     exact ⟨ret_i64 HV.out.symm, HB3.out.trans (b4.mono HB3.out.size)⟩)
   ·rw [k2] at HC'
    have HV : Hid (z = -1) := by show _ = _; exact HT.2.2.1 h0 k1 k2
    clear h0 HT k1 k2
    rcases hp with ⟨e1, e2⟩ | e1
    all_goals (
     go_enter Tryz.func39, Tryz.ntmps39
     go_wp2_with fail
     refine hap.mono ?_
     rintro e W2 ⟨v1, v2, rfl, r1, r2, b2⟩
     have hcc := HC.out W2 v1 v2 b2 r1 r2
     have r1H : Hid (RdL w0 W2 v1 xs ∧ RdL w0 W2 v2 ys) := ⟨r1, r2⟩
     obtain ⟨a1, c1, rfl, _, _⟩ := r1.slice
     obtain ⟨a2, c2, rfl, _, _⟩ := r2.slice
     have HB : Hid (Below w.heap.size w W2) := b2
     clear r1 r2 b2
     go_wp2_with fail
     refine hcc.mono ?_
     rintro e W3 ⟨rfl, b3⟩
     have b03 := HB.out.trans (b3.mono HB.out.size)
     have hcd := HC'.out W3 _ _ b03 (r1H.out.2.keep b3) (r1H.out.1.keep b3)
     have HB3 : Hid (Below w.heap.size w W3) := b03
     clear b3 b03 hcc
     go_wp2_with fail
     refine hcd.mono ?_
     rintro e W4 ⟨rfl, b4⟩
     go_wp2
     go_ret
     exact ⟨ret_i64 HV.out.symm, HB3.out.trans (b4.mono HB3.out.size)⟩)
def spt (x : Lt) (s r : Value) : List (T × Value) := if x.neg = true then [(x.l, s), (x.l, s), (x.r, r), (x.r, r)] else [(x.l, s), (x.r, r)]
theorem spt_sds (x : Lt) (s r : Value) : (spt x s r).map (fun p => p.1) = sds x := by
 unfold spt sds
 split <;> rfl
theorem spt_ok {w0 : World} {x : Lt} {s r : Value} (h : OkL w0 (x, s, r)) : ∀ p ∈ spt x s r, OkT w0 p := by
 have h1 : OkT w0 (x.l, s) := ⟨h.1.1, h.2.1⟩
 have h2 : OkT w0 (x.r, r) := ⟨h.1.2, h.2.2⟩
 intro p hp
 unfold spt at hp
 split at hp
 ·simp only [List.mem_cons, List.not_mem_nil, or_false] at hp
  rcases hp with rfl | rfl | rfl | rfl
  ·exact h1
  ·exact h1
  ·exact h2
  ·exact h2
 ·simp only [List.mem_cons, List.not_mem_nil, or_false] at hp
  rcases hp with rfl | rfl
  ·exact h1
  ·exact h2
theorem spt_len (x : Lt) (s r : Value) : (spt x s r).length <= 4 := by
 unfold spt
 split <;> simp
theorem row_built (W : World) (ps : List (T × Value)) (hl : ps.length <= 1000) : (W.alloc (.cells (flT ps).toArray 30)).ownsRow W.heap.size 30 3 (.slice (some ⟨W.heap.size, 0, none⟩) ps.length ps.length) ps.length (flT ps) :=
 ⟨flT_len _, .inr ⟨W.heap.size, ps.length, (flT ps).toArray, rfl, Nat.le_refl _, (MapKept.heap_alloc W _).1, Nat.le_refl _, by unfold maxLen; omega, by rw [List.size_toArray, flT_len], by rw [List.toList_toArray, <- flT_len, List.take_length]⟩⟩
theorem side_any (w0 : World) (x : Lt) (s r : Value) (hx : OkL w0 (x, s, r)) (W : World) (_hW : Below w0.heap.size w0 W) :
  Calls Tryz.prog 67 #[lval x s r] W fun e W' => ∃ v, e = .returned v ∧ RdT w0 W' v (spt x s r) ∧ Below W.heap.size W W' := by
 obtain ⟨W1, h1⟩ : ∃ X, W.alloc (lbox x s r) = X := ⟨_, rfl⟩
 have hb : Below W.heap.size W W1 := by rw [<- h1]; exact below_box _ _
 have hc := bxL_cells W (x, s, r)
 simp only at hc
 rw [h1] at hc
 have hrow := row_built W1 (spt x s r) (by have := spt_len x s r; omega)
 have hok := spt_ok hx
 have hb2 := below_box W1 (.cells (flT (spt x s r)).toArray 30)
 have HF : Hid (RdT w0 (W1.alloc (.cells (flT (spt x s r)).toArray 30)) (.slice (some ⟨W1.heap.size, 0, none⟩) (spt x s r).length (spt x s r).length) (spt x s r) ∧ Below W.heap.size W (W1.alloc (.cells (flT (spt x s r)).toArray 30))) := ⟨rdT_of_row hrow hok, hb.trans (hb2.mono hb.size)⟩
 simp only [OkL] at hx
 obtain ⟨xa, xc, rfl, _, _⟩ := hx.1.1.slice
 obtain ⟨xb, xd, rfl, _, _⟩ := hx.1.2.slice
 obtain ⟨k0, k1, k2, k3, k4, k5, k6⟩ := hc
 simp only [Nat.zero_add] at k0 k1 k2 k3 k4 k5 k6
 obtain ⟨n, l, r⟩ := x
 simp only at *
 clear hb hrow hok hb2 hx
 cases n
 ·have HG := HF.out
  simp only [spt, Bool.false_eq_true, if_false, flT, List.flatMap_cons, List.flatMap_nil, List.append_nil, List.cons_append, List.nil_append, List.length_cons, List.length_nil] at HG
  have HH : Hid (∃ v, Ending.returned (.slice (some ⟨W1.heap.size, 0, none⟩) 2 2) = .returned v ∧ RdT w0 (W1.alloc (.cells #[.int .i64 l.v, .string l.fn, .slice xa l.args.length xc, .int .i64 r.v, .string r.fn, .slice xb r.args.length xd] 30)) v (spt ⟨false, l, r⟩ (.slice xa l.args.length xc) (.slice xb r.args.length xd)) ∧ Below W.heap.size W (W1.alloc (.cells #[.int .i64 l.v, .string l.fn, .slice xa l.args.length xc, .int .i64 r.v, .string r.fn, .slice xb r.args.length xd] 30))) := ⟨_, rfl, by simpa [spt] using HG.1, HG.2⟩
  clear HF HG
  go_enter Tryz.func67, Tryz.ntmps67
  try rw [h1]
  go_wp2
  try rw [h1]
  go_ret
  exact HH.out
 ·have HG := HF.out
  simp only [spt, if_true, flT, List.flatMap_cons, List.flatMap_nil, List.append_nil, List.cons_append, List.nil_append, List.length_cons, List.length_nil] at HG
  have HH : Hid (∃ v, Ending.returned (.slice (some ⟨W1.heap.size, 0, none⟩) 4 4) = .returned v ∧ RdT w0 (W1.alloc (.cells #[.int .i64 l.v, .string l.fn, .slice xa l.args.length xc, .int .i64 l.v, .string l.fn, .slice xa l.args.length xc, .int .i64 r.v, .string r.fn, .slice xb r.args.length xd, .int .i64 r.v, .string r.fn, .slice xb r.args.length xd] 30)) v (spt ⟨true, l, r⟩ (.slice xa l.args.length xc) (.slice xb r.args.length xd)) ∧ Below W.heap.size W (W1.alloc (.cells #[.int .i64 l.v, .string l.fn, .slice xa l.args.length xc, .int .i64 l.v, .string l.fn, .slice xa l.args.length xc, .int .i64 r.v, .string r.fn, .slice xb r.args.length xd, .int .i64 r.v, .string r.fn, .slice xb r.args.length xd] 30))) := ⟨_, rfl, by simpa [spt] using HG.1, HG.2⟩
  clear HF HG
  go_enter Tryz.func67, Tryz.ntmps67
  try rw [h1]
  go_wp2
  try rw [h1]
  go_ret
  exact HH.out
theorem literals_any (w0 : World) (o : Od) (vn vw : Value) (ho : OdAt w0 o vn vw) : OrdrL w0 o vn vw := by
 intro p q W hp hq hW
 obtain ⟨x, sx, rx⟩ := p
 obtain ⟨y, sy, ry⟩ := q
 obtain ⟨an, nn, cn, rfl⟩ := ho.vn
 obtain ⟨aw, nw, cw, rfl⟩ := ho.vw
 obtain ⟨W1, h1⟩ : ∃ X, W.alloc (obox o (.slice an nn cn) (.slice aw nw cw)) = X := ⟨_, rfl⟩
 obtain ⟨W2, h2⟩ : ∃ X, W1.alloc (lbox x sx rx) = X := ⟨_, rfl⟩
 obtain ⟨W3, h3⟩ : ∃ X, W2.alloc (lbox y sy ry) = X := ⟨_, rfl⟩
 have b1 : Below W.heap.size W W1 := by rw [<- h1]; exact below_box _ _
 have b2 : Below W1.heap.size W1 W2 := by rw [<- h2]; exact below_box _ _
 have b3 : Below W2.heap.size W2 W3 := by rw [<- h3]; exact below_box _ _
 have s1 : W1.heap.size = W.heap.size + 1 := by rw [<- h1]; simp
 have s2 : W2.heap.size = W.heap.size + 2 := by rw [<- h2]; simp [s1]
 have s3 : W3.heap.size = W.heap.size + 3 := by rw [<- h3]; simp [s2]
 have b13 : Below W1.heap.size W1 W3 := b2.trans (b3.mono b2.size)
 have bb : Below W.heap.size W W3 := b1.trans (b13.mono b1.size)
 obtain ⟨Wd, hWd⟩ : ∃ X, W3.drew = X := ⟨_, rfl⟩
 have hd : Below W3.heap.size W3 Wd := by rw [<- hWd]; exact (Below.refl _ W3).drew
 obtain ⟨n0, hn0⟩ : ∃ n, Wd.heap.size = n := ⟨_, rfl⟩
 have hsd : Wd.heap.size = W3.heap.size := by rw [<- hWd]; rfl
 have hB0 : Below n0 W3.drew W3.drew := Below.refl _ _
 obtain ⟨o0, o1, o2⟩ := obox_cells W (.bool o.path) (.slice an nn cn) (.slice aw nw cw) 40
 rw [h1] at o0 o1 o2
 have cx := bxL_cells W1 (x, sx, rx)
 simp only at cx
 rw [h2, s1] at cx
 have cy := bxL_cells W2 (y, sy, ry)
 simp only at cy
 rw [h3, s2] at cy
 have cx3 := cx.keep b3 (by omega)
 have qo : ∀ Z, Below n0 Wd Z -> Z.cell? ⟨W.heap.size, 0, none⟩ = some (.bool o.path) ∧ Z.cell? ⟨W.heap.size, 1, none⟩ = some (.slice an nn cn) ∧ Z.cell? ⟨W.heap.size, 2, none⟩ = some (.slice aw nw cw) := fun Z hZ => by
  have e : Below W1.heap.size W1 Z := (b13.trans (hd.mono b13.size)).trans (hZ.mono (by omega))
  exact ⟨kc e (by omega) o0, kc e (by omega) o1, kc e (by omega) o2⟩
 have b0d : Below w0.heap.size w0 Wd := (hW.trans (bb.mono hW.size)).trans (hd.mono (by have := hW.size; omega))
 have lw : w0.heap.size <= n0 := by have := b0d.size; omega
 have HC1 : Hid (∀ Z, Below n0 Wd Z -> Calls Tryz.prog 67 #[lval x sx rx] Z fun e Z' => ∃ v, e = .returned v ∧ RdT w0 Z' v (spt x sx rx) ∧ Below Z.heap.size Z Z') := fun Z hZ => side_any w0 x sx rx hp Z (b0d.trans (hZ.mono lw))
 have HC2 : Hid (∀ Z, Below n0 Wd Z -> Calls Tryz.prog 67 #[lval y sy ry] Z fun e Z' => ∃ v, e = .returned v ∧ RdT w0 Z' v (spt y sy ry) ∧ Below Z.heap.size Z Z') := fun Z hZ => side_any w0 y sy ry hq Z (b0d.trans (hZ.mono lw))
 have HC3 : Hid (∀ Z v1 v2, Below n0 Wd Z -> RdT w0 Z v1 (spt x sx rx) -> RdT w0 Z v2 (spt y sy ry) -> Calls Tryz.prog 65 #[fsT, foT o (.slice an nn cn) (.slice aw nw cw), v1, v2] Z fun e Z' => e = .returned (.int .i64 (odL o (x, sx, rx) (y, sy, ry))) ∧ Below Z.heap.size Z Z') := fun Z v1 v2 hZ r1 r2 => by
  have := extendT_any w0 o _ _ ho (ordrT w0 o _ _ ho) (spt x sx rx) (spt y sy ry) v1 v2 Z (b0d.trans (hZ.mono lw)) r1 r2 (by have := spt_len x sx rx; omega) (by have := spt_len y sy ry; omega)
  rw [spt_sds, spt_sds] at this
  exact this
 have qx : ∀ Z, Below n0 Wd Z -> CsL Z (W.heap.size + 1) 0 (x, sx, rx) := fun Z hZ => cx3.keep (n := W3.heap.size) (hd.trans (hZ.mono (by omega))) (by omega)
 have qy : ∀ Z, Below n0 Wd Z -> CsL Z (W.heap.size + 2) 0 (y, sy, ry) := fun Z hZ => cy.keep (n := W3.heap.size) (hd.trans (hZ.mono (by omega))) (by omega)
 have HW : Hid (Below W.heap.size W Wd ∧ W.heap.size <= n0) := ⟨bb.trans (hd.mono bb.size), by omega⟩
 have HN : Hid (Wd.heap.size = n0) := hn0
 obtain ⟨z, hz⟩ : ∃ z, odL o (x, sx, rx) (y, sy, ry) = z := ⟨_, rfl⟩
 rw [hz] at HC3 ⊢
 simp only [OkL] at hp hq
 obtain ⟨xa, xc, rfl, _, _⟩ := hp.1.1.slice
 obtain ⟨xb, xd, rfl, _, _⟩ := hp.1.2.slice
 obtain ⟨ya, yc, rfl, _, _⟩ := hq.1.1.slice
 obtain ⟨yb, yd, rfl, _, _⟩ := hq.1.2.slice
 simp only [CsL, Nat.zero_add] at qx qy
 clear hz b1 b2 b3 b13 bb hd o0 o1 o2 cx cy cx3 b0d lw hp hq hW ho hn0 hsd s3
 simp only
 go_enter Tryz.func33, Tryz.ntmps33
 try rw [h1]
 try rw [h2]
 try rw [h3]
 go_wp2
 try rw [h1]
 try rw [h2]
 try rw [h3]
 try rw [s1]
 try rw [s2]
 refine wp_region_held_drew (S := fun Z => Below n0 W3.drew Z) (by kernel_rfl) hB0 (fun hHeld => ?_)
 rw [hWd] at hHeld ⊢
 refine take_mk 0 (oval o (.slice an nn cn) (.slice aw nw cw)) rfl (by kernel_rfl) (by kernel_rfl) (by kernel_rfl) (fun _ _ _ h => h) (Or.inl ⟨by rfl, fun Z hZ => by obtain ⟨y0, y1, y2⟩ := qo Z hZ; go_simp⟩) (by assumption) ?_
 try simp only [Act.put, List.setIfInBounds_toArray, List.set_cons_zero, List.set_cons_succ]
 refine take_mk 1 (foT o (.slice an nn cn) (.slice aw nw cw)) rfl (by kernel_rfl) (by kernel_rfl) (by kernel_rfl) (fun _ _ _ h => h) (Or.inl ⟨by rfl, fun Z hZ => by go_simp⟩) (by assumption) ?_
 try simp only [Act.put, List.setIfInBounds_toArray, List.set_cons_zero, List.set_cons_succ]
 refine take_mk 2 (lval x (.slice xa x.l.args.length xc) (.slice xb x.r.args.length xd)) rfl (by kernel_rfl) (by kernel_rfl) (by kernel_rfl) (fun _ _ _ h => h) (Or.inl ⟨by rfl, fun Z hZ => by obtain ⟨y0, y1, y2, y3, y4, y5, y6⟩ := qx Z hZ; go_simp⟩) (by assumption) ?_
 try simp only [Act.put, List.setIfInBounds_toArray, List.set_cons_zero, List.set_cons_succ]
 refine take_mk 4 (lval y (.slice ya y.l.args.length yc) (.slice yb y.r.args.length yd)) rfl (by kernel_rfl) (by kernel_rfl) (by kernel_rfl) (fun _ _ _ h => h) (Or.inl ⟨by rfl, fun Z hZ => by obtain ⟨y0, y1, y2, y3, y4, y5, y6⟩ := qy Z hZ; go_simp⟩) (by assumption) ?_
 try simp only [Act.put, List.setIfInBounds_toArray, List.set_cons_zero, List.set_cons_succ]
 refine wpAnyH_ready (rs := [3]) (by kernel_rfl) (by simp) (AllReadyH.cons (o := ⟨_, _, _, _, _, _⟩) rfl (fun K hK => ?_) AllReadyH.nil)
 rw [if_pos (by rfl)]
 go_simp
 refine (HC1.out _ hHeld).mono ?_
 rintro e X1 ⟨v1, rfl, r1, b1⟩
 obtain ⟨a1, c1, rfl, _, _⟩ := r1.slice
 have hS1 : Below n0 Wd X1 := hHeld.trans (b1.mono (by have := hHeld.size; have := HN.out; omega))
 refine hK.out _ _ hS1 (fun hHeld1 => ?_)
 clear hK K
 try simp only [Act.put, List.setIfInBounds_toArray, List.set_cons_zero, List.set_cons_succ]
 refine wpAnyH_ready (rs := [5]) (by kernel_rfl) (by simp) (AllReadyH.cons (o := ⟨_, _, _, _, _, _⟩) rfl (fun K hK => ?_) AllReadyH.nil)
 rw [if_pos (by rfl)]
 go_simp
 refine (HC2.out _ hS1).mono ?_
 rintro e X2 ⟨v2, rfl, r2, b2⟩
 obtain ⟨a2, c2, rfl, _, _⟩ := r2.slice
 have hS2 : Below n0 Wd X2 := hS1.trans (b2.mono (by have := hS1.size; have := HN.out; omega))
 have hcx := HC3.out _ _ _ hS2 (r1.keep b2) r2
 refine hK.out _ _ hS2 (fun hHeld2 => ?_)
 clear hK K
 try simp only [Act.put, List.setIfInBounds_toArray, List.set_cons_zero, List.set_cons_succ]
 refine wpAnyH_ready (rs := [6]) (by kernel_rfl) (by simp) (AllReadyH.cons (o := ⟨_, _, _, _, _, _⟩) rfl (fun K hK => ?_) AllReadyH.nil)
 rw [if_pos (by rfl)]
 go_simp
 refine hcx.mono ?_
 rintro e X3 ⟨rfl, b3⟩
 have hS3 : Below n0 Wd X3 := hS2.trans (b3.mono (by have := hS2.size; have := HN.out; omega))
 refine hK.out _ _ hS3 (fun hHeld3 => ?_)
 clear hK K
 try simp only [Act.put, List.setIfInBounds_toArray, List.set_cons_zero, List.set_cons_succ]
 refine take_mk 7 (.int .i64 z) rfl (by kernel_rfl) (by kernel_rfl) (by kernel_rfl) (fun _ _ _ h => h) (Or.inl ⟨by rfl, fun Z hZ => by go_simp⟩) (by assumption) ?_
 try simp only [Act.put, List.setIfInBounds_toArray, List.set_cons_zero, List.set_cons_succ]
 refine wpAnyH_done (by kernel_rfl) ?_ _
 try simp only [Act.put]
 have HE : Hid (Below n0 Wd X3) := hS3
 clear hS1 hS2 hS3 hHeld hHeld1 hHeld2 hHeld3 hcx b1 b2 b3 r1 r2
 go_wp2
 go_ret
 exact ⟨rfl, HW.out.1.trans (HE.out.mono HW.out.2)⟩
end Go.Proofs.YtglphfhlpobgcaaGreat
