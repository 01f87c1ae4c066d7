/-
  subst.kept, lasting, besides.
-/
import Derived.Test.YthinbkpjggihdaaSL
import Derived.Maps.AppendAt
import Derived.RangeFuncNested
namespace Go.Proofs.Ythinbkpjggihdaa
open Go.RowKit Go.Maps

theorem Try.info35 : (Try.prog.info? 35).map (fun i => (i.zero, i.size, i.bytes)) = some (some (.agg #[.int .i64 0, .int .i64 0, .string ⟨#[]⟩, .slice none 0 0]), 4, 56) := by kernel_rfl

/-- The cells of a row of binds. -/
def flatB (ps : List (Bd × Value)) : List Value := ps.flatMap fun p => [.int .i64 p.1.1, .int .i64 p.1.2.v, .string p.1.2.fn, p.2]
theorem flatB_snoc (ps : List (Bd × Value)) (p : Bd × Value) : flatB (ps ++ [p]) = flatB ps ++ [.int .i64 p.1.1, .int .i64 p.1.2.v, .string p.1.2.fn, p.2] := by simp [flatB]
theorem flatB_len (ps : List (Bd × Value)) : (flatB ps).length = ps.length * 4 := by
  unfold flatB
  induction ps with
  | nil => rfl
  | cons p r ih => simp only [List.flatMap_cons, List.length_append, ih, List.length_cons, List.length_nil]; omega
theorem flatB_get : ∀ (ps : List (Bd × Value)) (i : Nat) (h : i < ps.length), (flatB ps)[i * 4]? = some (.int .i64 ps[i].1.1) ∧ (flatB ps)[i * 4 + 1]? = some (.int .i64 ps[i].1.2.v) ∧ (flatB ps)[i * 4 + 2]? = some (.string ps[i].1.2.fn) ∧ (flatB ps)[i * 4 + 3]? = some ps[i].2
  | [], i, h => absurd h (by simp)
  | p :: r, 0, _ => by simp [flatB]
  | p :: r, i + 1, h => by
    have ih := flatB_get r i (by simpa using h)
    have e : flatB (p :: r) = [.int .i64 p.1.1, .int .i64 p.1.2.v, .string p.1.2.fn, p.2] ++ flatB r := rfl
    have hs : ∀ k, (flatB (p :: r))[4 + k]? = (flatB r)[k]? := fun k => by
      rw [e, List.getElem?_append_right (by simp)]
      simp
    have e0 : (i + 1) * 4 = 4 + i * 4 := by omega
    rw [e0, show 4 + i * 4 + 1 = 4 + (i * 4 + 1) by omega, show 4 + i * 4 + 2 = 4 + (i * 4 + 2) by omega, show 4 + i * 4 + 3 = 4 + (i * 4 + 3) by omega, hs, hs, hs, hs]
    simpa using ih

/-- A row of binds of one's own. -/
structure OwnB (w : World) (v : Value) (ps : List (Bd × Value)) (W : World) : Prop where
  row : W.ownsRow w.heap.size 35 4 v ps.length (flatB ps)
  bel : Below w.heap.size w W

theorem rowB_form {W : World} {b : Nat} {e : TypeId} {s : Nat} {v : Value} {n : Nat} {xs : List Value} (h : W.ownsRow b e s v n xs) : ∃ a c, v = .slice a n c := by
  rcases h.2 with ⟨rfl, h0⟩ | ⟨g, cap, cur, rfl, _⟩
  · exact ⟨none, 0, by rw [h0]⟩
  · exact ⟨_, _, rfl⟩

theorem rowB_below {W W' : World} {b : Nat} {e : TypeId} {s : Nat} {v : Value} {n : Nat} {xs : List Value} (h : W.ownsRow b e s v n xs) (hb : Below W.heap.size W W') : W'.ownsRow b e s v n xs :=
  h.kept (row := none) ⟨hb.os, hb.tape, hb.output, hb.size, fun k hk _ => hb.block k hk⟩ (by cases v.ownBlock <;> simp)

theorem OwnB.push {w : World} {v : Value} {ps : List (Bd × Value)} {W : World} (h : OwnB w v ps W) (p : Bd × Value) (v' : Value) (w3 : World) (hown : w3.ownsRow w.heap.size 35 4 v' (ps.length + 1) (flatB ps ++ [.int .i64 p.1.1, .int .i64 p.1.2.v, .string p.1.2.fn, p.2])) (o : Obj) (hg : (W.alloc o).grownBy w3 v.ownBlock) : OwnB w v' (ps ++ [p]) w3 := by
  refine ⟨by rw [flatB_snoc, List.length_append, List.length_singleton]; exact hown, h.bel.trans (((below_box W _).mono h.bel.size).trans ⟨hg.os, hg.tape, hg.output, hg.size, fun j hj => hg.block j (by have := h.bel.size; simp; omega) (fun e => by have := (h.row.lt j e.symm).1; omega)⟩)⟩

theorem OwnB.keep {w : World} {v : Value} {ps : List (Bd × Value)} {W W' : World} (h : OwnB w v ps W) (hb : Below W.heap.size W W') : OwnB w v ps W' := ⟨rowB_below h.row hb, h.bel.trans (hb.mono h.bel.size)⟩

/-- A row of one's own is a slice of binds. -/
theorem binds_of_row {W : World} {base : Nat} {v : Value} {ps : List (Bd × Value)} (h : W.ownsRow base 35 4 v ps.length (flatB ps)) (hs : ∀ p ∈ ps, ArgsAt W p.2 p.1.2.args) : BindsAt W v (ps.map (·.1)) := by
  rcases h.2 with ⟨rfl, h0⟩ | ⟨g, cap, cur, rfl, hb, hg, hn, hm, hsz, ht⟩
  · have e : ps = [] := List.eq_nil_of_length_eq_zero h0
    subst e
    exact ⟨none, 0, rfl, Nat.le_refl _, by decide, fun h => absurd h (by simp)⟩
  · refine ⟨some ⟨g, 0, none⟩, cap, by rw [List.length_map], by rw [List.length_map]; exact hn, by unfold maxLen at hm; omega, fun _ => ⟨g, 0, rfl, fun i hi => ?_⟩⟩
    have hi' : i < ps.length := by simpa using hi
    obtain ⟨f0, f1, f2, f3⟩ := flatB_get ps i hi'
    have ea : ∀ k, (⟨g, 0, none⟩ : Addr).add k = ⟨g, k, none⟩ := fun k => by unfold Addr.add; split <;> simp_all
    have c0 := h.cells rfl _ _ f0
    have c1 := h.cells rfl _ _ f1
    have c2 := h.cells rfl _ _ f2
    have c3 := h.cells rfl _ _ f3
    rw [ea] at c0 c1 c2 c3
    refine ⟨ps[i].2, ⟨(Array.getElem?_eq_some_iff.1 hg).1, ?_, ?_, ?_, ?_, ?_⟩⟩
    · rw [Nat.zero_add]; simpa using c0
    · rw [Nat.zero_add]; simpa using c1
    · rw [Nat.zero_add]; simpa using c2
    · rw [Nat.zero_add]; exact c3
    · simpa using hs ps[i] (List.getElem_mem hi')

theorem lit4 (w : World) (u v s r : Value) (ty : TypeId) : ∀ j x, [u, v, s, r][j]? = some x → (w.alloc (.cells #[u, v, s, r] ty)).cell? ((⟨w.heap.size, 0, none⟩ : Addr).add j) = some x := by
  intro j x hj
  have ea : (⟨w.heap.size, 0, none⟩ : Addr).add j = ⟨w.heap.size, j, none⟩ := by unfold Addr.add; split <;> simp_all
  rw [ea, World.cell?_alloc_new]
  simpa using hj

/-- A function that tells of a bind. -/
def PredAt (W0 : World) (g : Nat) (lb : Array Value) (P : Bd → Bool) : Prop :=
  ∀ (x : Bd) (s : Value) (W : World), Below W0.heap.size W0 W → ArgsAt W s x.2.args → Calls Try.prog g (#[bval x s] ++ lb) W fun e W' => e = .returned (.bool (P x)) ∧ Below W.heap.size W W'

/-- What stands in kept's loop. -/
def KI (w : World) (l : List Bd) (P : Bd → Bool) (i : Nat) (v : Value) (k : Nat) (W : World) : Prop :=
  ∃ ps, ps.length = k ∧ ps.map (·.1) = (l.take i).filter P ∧ (∀ p ∈ ps, ArgsAt w p.2 p.1.2.args) ∧ OwnB w v ps W

set_option maxRecDepth 100000 in
set_option maxHeartbeats 4000000 in
theorem kept_any (W0 : World) (g : Nat) (lb : Array Value) (P : Bd → Bool) (eg : ∀ args w, (callFunc g args).run Try.prog w = .ok (.enter g args) w) (hp : PredAt W0 g lb P) (l : List Bd) (v : Value) (w : World) (hw : Below W0.heap.size W0 w) (hl : BindsAt w v l) (hlen : l.length ≤ 4000) :
    Calls Try.prog 62 #[v, .func (.func g) #[] lb] w fun e W' => ∃ v', e = .returned v' ∧ BindsAt W' v' (l.filter P) ∧ Below w.heap.size w W' := by
  obtain ⟨a, c, rfl⟩ := hl.slice
  have HL : Hid (BindsAt w (.slice a l.length c) l) := hl
  clear hl
  obtain ⟨i0, hi0, hz0, hz1, hz2⟩ := info_parts Try.info35
  go_enter Try.func62, Try.ntmps62
  go_wp2
  go_loopw [5, 10] (fun vo vi wr => ∃ i k : Nat, vi = .int .i64 i ∧ i ≤ l.length ∧ KI w l P i vo k wr) (fun _ vi _ => l.length - (intOf vi).toNat)
  case atStart => exact ⟨0, 0, rfl, Nat.zero_le _, [], rfl, rfl, by simp, World.ownsRow_nil _ _ _ _, Below.refl _ _⟩
  case round =>
    obtain ⟨i, k, rfl, hi, ps, hk, hps, hargs, hO⟩ := hrel
    obtain ⟨pa, pc, hvo⟩ := rowB_form hO.row
    rw [hk] at hvo
    subst hvo
    by_cases hlt : i < l.length
    · obtain ⟨b, o, s, e', hB0⟩ := HL.out.nth hlt
      cases e'
      have hB := hB0.keep hO.bel
      have hnx : (l.take (i + 1)).filter P = (l.take i).filter P ++ [l[i]].filter P := by rw [List.take_succ_eq_append_getElem hlt, List.filter_append]
      obtain ⟨x, hx⟩ : ∃ x, l[i] = x := ⟨_, rfl⟩
      rw [hx] at hB hB0 hnx
      have hsub0 := hB0.sub
      obtain ⟨sa, sc, rfl, _, _⟩ := hB.sub.slice
      obtain ⟨g0, g1, g2, g3⟩ : wr.cell? ⟨b, o + i * 4, none⟩ = some (.int .i64 x.1) ∧ wr.cell? ⟨b, o + i * 4 + 1, none⟩ = some (.int .i64 x.2.v) ∧ wr.cell? ⟨b, o + i * 4 + 2, none⟩ = some (.string x.2.fn) ∧ wr.cell? ⟨b, o + i * 4 + 3, none⟩ = some (.slice sa x.2.args.length sc) := ⟨hB.c0, hB.c1, hB.c2, hB.c3⟩
      have hb1 := below_box wr (bbox x (.slice sa x.2.args.length sc))
      obtain ⟨k0, k1, k2, k3⟩ := bbox_cells wr x (.slice sa x.2.args.length sc)
      have hc := hp x (.slice sa x.2.args.length sc) (wr.alloc (bbox x (.slice sa x.2.args.length sc))) (hw.trans ((hO.bel.trans (hb1.mono hO.bel.size)).mono hw.size)) (ArgsAt.keep hb1 (Nat.le_refl _) hB.sub)
      have HO1 : Hid (OwnB w (.slice pa k pc) ps (wr.alloc (bbox x (.slice sa x.2.args.length sc))) ∧ ps.length = k ∧ ps.map (·.1) = (l.take i).filter P ∧ (∀ p ∈ ps, ArgsAt w p.2 p.1.2.args) ∧ ArgsAt w (.slice sa x.2.args.length sc) x.2.args) := ⟨hO.keep hb1, hk, hps, hargs, hsub0⟩
      have hkb : k ≤ i := by
        have h1 := congrArg List.length hps
        rw [List.length_map, hk] at h1
        have h2 := List.length_filter_le P (l.take i)
        rw [List.length_take] at h2
        omega
      clear hx hB hB0 hb1 hO hps hargs hk hsub0
      cases hP : P x
      · rw [hP] at hc
        have HN : Hid ((l.take (i + 1)).filter P = (l.take i).filter P) := by show _ = _; rw [hnx]; simp [hP]
        clear hnx hP
        go_wp2_with (first | (go_at_fn g; refine hc.mono ?_; rintro e w3 ⟨rfl, hb3⟩))
        go_roundw
        case rel => exact ⟨i + 1, k, by go_num, by omega, ps, HO1.out.2.1, by rw [HN]; exact HO1.out.2.2.1, HO1.out.2.2.2.1, HO1.out.1.keep hb3⟩
        case measure => simp [intOf]; omega
      · rw [hP] at hc
        have HN : Hid ((l.take (i + 1)).filter P = (l.take i).filter P ++ [x]) := by show _ = _; rw [hnx]; simp [hP]
        clear hnx hP
        go_wp2_with (first
          | (at_builtin; refine wpList_append_own_at _ rfl _ _ 22 rfl w.heap.size 35 i0 (.agg #[.int .i64 0, .int .i64 0, .string ⟨#[]⟩, .slice none 0 0]) 4 56 Try.underlying22 hi0 hz0 hz1 hz2 rfl (by decide) _ _ _ rfl HR3.out ⟨w3.heap.size, 0, none⟩ 1 1 [.int .i64 x.1, .int .i64 x.2.v, .string x.2.fn, .slice sa x.2.args.length sc] rfl rfl (lit4 w3 _ _ _ _ 35) (by simp [Value.oneCell']) (by unfold maxLen; omega) (by omega) HS3.out ?_; intro v4 w4 h2 h3 _ _; obtain ⟨pa4, pc4, rfl⟩ := rowB_form h2; have HO4 : Hid (OwnB w (.slice pa4 (k + 1) pc4) (ps ++ [(x, .slice sa x.2.args.length sc)]) w4) := HO3.out.push (x, .slice sa x.2.args.length sc) _ w4 (by rw [HO1.out.2.1]; exact h2) _ h3; clear h2 h3)
          | (go_at_fn g; refine hc.mono ?_; rintro e w3 ⟨rfl, hb3⟩; have HO3 : Hid (OwnB w (.slice pa k pc) ps w3) := HO1.out.1.keep hb3; have q0 := kc hb3 (by simp) k0; have q1 := kc hb3 (by simp) k1; have q2 := kc hb3 (by simp) k2; have q3 := kc hb3 (by simp) k3; have HR3 : Hid ((w3.alloc (.cells #[.int .i64 x.1, .int .i64 x.2.v, .string x.2.fn, .slice sa x.2.args.length sc] 35)).ownsRow w.heap.size 35 4 (.slice pa k pc) k (flatB ps)) := by { have := (HO3.out.keep (below_box w3 (.cells #[.int .i64 x.1, .int .i64 x.2.v, .string x.2.fn, .slice sa x.2.args.length sc] 35))).row; rwa [HO1.out.2.1] at this }; have HS3 : Hid (w.heap.size ≤ (w3.alloc (.cells #[.int .i64 x.1, .int .i64 x.2.v, .string x.2.fn, .slice sa x.2.args.length sc] 35)).heap.size) := Nat.le_trans HO3.out.bel.size (by simp); clear hb3))
        go_roundw
        case rel => exact ⟨i + 1, k + 1, by go_num, by omega, _, by rw [List.length_append, HO1.out.2.1]; rfl, by rw [HN, List.map_append, HO1.out.2.2.1]; rfl, fun p hp => by rcases List.mem_append.1 hp with hp | hp; exact HO1.out.2.2.2.1 p hp; (simp at hp; subst hp; exact HO1.out.2.2.2.2), HO4⟩
        case measure => simp [intOf]; omega
    · have HF : Hid (BindsAt wr (.slice pa k pc) (l.filter P) ∧ Below w.heap.size w wr) := by
        refine ⟨?_, hO.bel⟩
        have h1 := binds_of_row hO.row (fun p hp => ArgsAt.keep hO.bel (Nat.le_refl _) (hargs p hp))
        rw [hps, List.take_of_length_le (by omega)] at h1
        exact h1
      clear hO hps hargs hk
      go_wp2
      go_ret
      exact ⟨_, rfl, HF.out.1, HF.out.2⟩

/-- Does the bind last when r is applied? -/
def lastB (r : List Bd) (x : Bd) : Bool := decide (x.2.fn.size ≠ 0) || !(decide ((img r x.2.v).fn.size = 0) && decide ((img r x.2.v).v = x.1))
/-- Is the variable bound? -/
noncomputable def boundB (s : List Bd) (n : Int) : Bool := open Classical in decide (∃ k, ∃ h : k < s.length, s[k].1 = n)

set_option maxRecDepth 100000 in
set_option maxHeartbeats 2000000 in
theorem besides1_any (s : List Bd) (hsub : IsSub s) (v : Value) (B : Nat) (x : Bd) (sl : Value) (w : World) (hl : BindsAt w v s) (hB : w.cell? ⟨B, 0, none⟩ = some v) (ha : ArgsAt w sl x.2.args) :
    Calls Try.prog 64 #[bval x sl, .pointer (some ⟨B, 0, none⟩)] w fun e W' => e = .returned (.bool (!boundB s x.1)) ∧ Below w.heap.size w W' := by
  obtain ⟨a, c, rfl⟩ := hl.slice
  obtain ⟨sa, sc, rfl, _, _⟩ := ha.slice
  have hb0 := below_box w (bbox x (.slice sa x.2.args.length sc))
  obtain ⟨k0, k1, k2, k3⟩ := bbox_cells w x (.slice sa x.2.args.length sc)
  have hB1 := kc hb0 (World.block_lt_of_cell? w _ hB) hB
  by_cases hex : ∃ k, ∃ h : k < s.length, s[k].1 = x.1
  · have hp := place_yes s x.1 (.slice a s.length c) _ (hl.keep hb0) hsub.rising hsub.1 hex
    have HR : Hid ((!boundB s x.1) = false) := by show _ = _; unfold boundB; simp only [decide_eq_true hex]; rfl
    clear hex hl ha hB hsub
    go_enter Try.func64, Try.ntmps64
    go_wp2_with (first | (go_at_call 58; refine hp.mono ?_; rintro e w2 ⟨p, rfl, _, hb2⟩))
    go_ret
    exact ⟨ret_bool HR.symm, hb0.trans (hb2.mono (by simp))⟩
  · have hp := place_not s x.1 (.slice a s.length c) _ (hl.keep hb0) hsub.rising hsub.1 hex
    have HR : Hid ((!boundB s x.1) = true) := by show _ = _; unfold boundB; simp only [decide_eq_false hex]; rfl
    clear hex hl ha hB hsub
    go_enter Try.func64, Try.ntmps64
    go_wp2_with (first | (go_at_call 58; refine hp.mono ?_; rintro e w2 ⟨p, rfl, hb2⟩))
    go_ret
    exact ⟨ret_bool HR.symm, hb0.trans (hb2.mono (by simp))⟩

theorem eg64 : ∀ args w, (callFunc 64 args).run Try.prog w = .ok (.enter 64 args) w := enters_of Try.func64 (by kernel_rfl) rfl
theorem eg63 : ∀ args w, (callFunc 63 args).run Try.prog w = .ok (.enter 63 args) w := enters_of Try.func63 (by kernel_rfl) rfl

set_option maxHeartbeats 1000000 in
theorem besides_any (s r : List Bd) (hsub : IsSub s) (hr : r.length ≤ 4000) (v u : Value) (w : World) (hs : BindsAt w v s) (hl : BindsAt w u r) :
    Calls Try.prog 36 #[v, u] w fun e W' => ∃ v', e = .returned v' ∧ BindsAt W' v' (r.filter fun x => !boundB s x.1) ∧ Below w.heap.size w W' := by
  obtain ⟨a, c, rfl⟩ := hs.slice
  have hb0 := below_box w (.cells #[.slice a s.length c] 22)
  have hk : (w.alloc (.cells #[.slice a s.length c] 22)).cell? ⟨w.heap.size, 0, none⟩ = some (.slice a s.length c) := by rw [World.cell?_alloc_new]; rfl
  have hs1 := hs.keep hb0
  have hc := kept_any (w.alloc (.cells #[.slice a s.length c] 22)) 64 #[.pointer (some ⟨w.heap.size, 0, none⟩)] (fun x => !boundB s x.1) eg64 (fun x sl W hW ha => besides1_any s hsub _ _ x sl W (hs1.keep hW) (kc hW (by simp) hk) ha) r u _ (Below.refl _ _) (hl.keep hb0) hr
  obtain ⟨a', c', rfl⟩ := hl.slice
  clear hs hl hs1 hk
  go_enter Try.func36, Try.ntmps36
  go_wp2_with (first | (go_at_call 62; refine hc.mono ?_; rintro e w2 ⟨v2, rfl, hB2, hb2⟩; obtain ⟨pa, pc, rfl⟩ := hB2.slice; have HB : Hid (BindsAt w2 (.slice pa (r.filter fun x => !boundB s x.1).length pc) (r.filter fun x => !boundB s x.1) ∧ Below w.heap.size w w2) := ⟨hB2, hb0.trans (hb2.mono (by simp))⟩; clear hB2 hb2))
  go_ret
  exact ⟨_, rfl, HB.out.1, HB.out.2⟩

end Go.Proofs.Ythinbkpjggihdaa
