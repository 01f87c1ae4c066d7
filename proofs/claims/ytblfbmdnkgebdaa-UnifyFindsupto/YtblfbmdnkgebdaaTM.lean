/-
  The document's With.
-/
import Derived.Test.YtblfbmdnkgebdaaSM
import Derived.Test.YtblfbmdnkgebdaaQF
namespace Go.Proofs.Ytblfbmdnkgebdaa
open Go.Maps Go.RowKit

theorem rising_iff {l : List Bd} : Rising l ↔ l.Pairwise fun a b => a.1 < b.1 := by
  rw [List.pairwise_iff_getElem]
  constructor
  · intro h i j hi hj hij
    exact h i j hj hij
  · intro h i j hj hij
    exact h i j (by omega) hj hij

/-- Binds, rising, and one more. -/
def withL : List Bd → Bd → List Bd
  | [], x => [x]
  | y :: r, x => if y.1 ≤ x.1 then y :: withL r x else x :: y :: r

theorem withL_end : ∀ (l : List Bd) (x : Bd), (∀ y ∈ l, y.1 ≤ x.1) → withL l x = l ++ [x]
  | [], _, _ => rfl
  | y :: r, x, h => by
    rw [withL, if_pos (h y List.mem_cons_self), withL_end r x fun z hz => h z (List.mem_cons_of_mem _ hz)]
    rfl

theorem withL_at : ∀ (l : List Bd) (x : Bd) (i : Nat) (hi : i < l.length), (∀ y ∈ l.take i, y.1 ≤ x.1) → x.1 < l[i].1 → withL l x = l.take i ++ x :: l.drop i
  | y :: r, x, 0, _, _, hx => by
    have hx' : x.1 < y.1 := by simpa using hx
    rw [withL, if_neg (by omega)]
    rfl
  | y :: r, x, i + 1, hi, h, hx => by
    have h0 : y.1 ≤ x.1 := h y (by simp)
    rw [withL, if_pos h0, withL_at r x i (by simpa using hi) (fun z hz => h z (by simp [hz])) (by simpa using hx)]
    rfl

theorem withL_perm : ∀ (l : List Bd) (x : Bd), (withL l x).Perm (x :: l)
  | [], x => List.Perm.refl _
  | y :: r, x => by
    rw [withL]
    by_cases h : y.1 ≤ x.1
    · rw [if_pos h]
      exact ((withL_perm r x).cons y).trans (List.Perm.swap x y r)
    · rw [if_neg h]

theorem withL_rising {l : List Bd} {x : Bd} (hl : Rising l) (hx : ∀ y ∈ l, y.1 ≠ x.1) : Rising (withL l x) := by
  rw [rising_iff] at hl ⊢
  induction l with
  | nil => simp [withL]
  | cons y r ih =>
    obtain ⟨h1, h2⟩ := List.pairwise_cons.1 hl
    rw [withL]
    by_cases h : y.1 ≤ x.1
    · rw [if_pos h]
      refine List.pairwise_cons.2 ⟨fun z hz => ?_, ih h2 fun z hz => hx z (List.mem_cons_of_mem _ hz)⟩
      rcases List.mem_cons.1 ((withL_perm r x).mem_iff.1 hz) with e | e
      · rw [e]; have := hx y List.mem_cons_self; omega
      · exact h1 z e
    · rw [if_neg h]
      refine List.pairwise_cons.2 ⟨fun z hz => ?_, hl⟩
      rcases List.mem_cons.1 hz with e | e
      · rw [e]; omega
      · have := h1 z e; omega

/-- What stands in With's loop. -/
def WI (w : World) (l : List Bd) (x : Bd) (i : Nat) (v : Value) (q : Bool) (k : Nat) (W : World) : Prop :=
  ∃ ps : List (Bd × Value), ps.length = k ∧ (∀ p ∈ ps, ArgsAt w p.2 p.1.2.args) ∧ OwnB w v ps W ∧ k ≤ i + 1 ∧
    (q = false → ps.map (·.1) = l.take i ∧ ∀ y ∈ l.take i, y.1 ≤ x.1) ∧ (q = true → ps.map (·.1) ++ l.drop i = withL l x)

theorem len_snoc {α : Type} {ps : List α} {p : α} {k : Nat} (h : ps.length = k) : (ps ++ [p]).length = k + 1 := by simp [h]

set_option maxRecDepth 100000 in
set_option maxHeartbeats 4000000 in
theorem rwith_any (l : List Bd) (x : Bd) (v sx : Value) (w : World) (hl : BindsAt w v l) (hx : ArgsAt w sx x.2.args) (hlen : l.length ≤ 4000) :
    Calls Try.prog 36 #[v, bval x sx] w fun e W' => ∃ v', e = .returned v' ∧ BindsAt W' v' (withL l x) ∧ Below w.heap.size w W' := by
  obtain ⟨a, c, rfl⟩ := hl.slice
  obtain ⟨xa, xc, rfl, _, _⟩ := hx.slice
  obtain ⟨t0, t1, t2, t3⟩ := bbox_cells w x (.slice xa x.2.args.length xc)
  have HL : Hid (BindsAt w (.slice a l.length c) l ∧ ArgsAt w (.slice xa x.2.args.length xc) x.2.args) := ⟨hl, hx⟩
  have HT : Hid (∀ W, Below (w.alloc (bbox x (.slice xa x.2.args.length xc))).heap.size (w.alloc (bbox x (.slice xa x.2.args.length xc))) W → W.cell? ⟨w.heap.size, 0, none⟩ = some (.int .i64 x.1) ∧ W.cell? ⟨w.heap.size, 1, none⟩ = some (.int .i64 x.2.v) ∧ W.cell? ⟨w.heap.size, 2, none⟩ = some (.string x.2.fn) ∧ W.cell? ⟨w.heap.size, 3, none⟩ = some (.slice xa x.2.args.length xc)) := fun W hW => by
    exact ⟨kc hW (by simp) t0, kc hW (by simp) t1, kc hW (by simp) t2, kc hW (by simp) t3⟩
  have HB0 : Hid (Below w.heap.size w (w.alloc (bbox x (.slice xa x.2.args.length xc)))) := below_box w _
  clear hl hx t0 t1 t2 t3
  obtain ⟨i0, hi0, hz0, hz1, hz2⟩ := info_parts Try.info35
  go_enter Try.func36, Try.ntmps36
  go_wp2
  go_loopw [5, 6, 7] (fun vo vq vi wr => ∃ (i k : Nat) (q : Bool), vi = .int .i64 i ∧ vq = .bool q ∧ i ≤ l.length ∧ Hid (WI (w.alloc (bbox x (.slice xa x.2.args.length xc))) l x i vo q k wr)) (fun _ _ vi _ => l.length - (intOf vi).toNat)
  case atStart => exact ⟨0, 0, false, rfl, rfl, Nat.zero_le _, [], rfl, by simp, ⟨World.ownsRow_nil _ _ _ _, Below.refl _ _⟩, by omega, fun _ => ⟨rfl, by simp⟩, fun h => by cases h⟩
  case round =>
    obtain ⟨i, k, q, rfl, rfl, hi, ps, hk, hargs, hO, hki, hq0, hq1⟩ := hrel
    obtain ⟨pa, pc, hvo⟩ := rowB_form hO.row
    rw [hk] at hvo
    subst hvo
    by_cases hlt : i < l.length
    · obtain ⟨b, o, s, e', hB0⟩ := HL.out.1.nth hlt
      cases e'
      have hbw := HB0.out.trans (hO.bel.mono HB0.out.size)
      have hB := hB0.keep hbw
      obtain ⟨k0, k1, k2, k3⟩ := HT.out wr hO.bel
      have hlx : w.heap.size < wr.heap.size := by have := hO.bel.size; simp at this; omega
      obtain ⟨y, hy⟩ : ∃ y, l[i] = y := ⟨_, rfl⟩
      rw [hy] at hB hB0
      have hsub0 := ArgsAt.keep HB0.out (Nat.le_refl _) hB0.sub
      have HN : Hid (l.take (i + 1) = l.take i ++ [y] ∧ l.drop i = y :: l.drop (i + 1)) := ⟨by rw [List.take_succ_eq_append_getElem hlt, hy], by rw [List.drop_eq_getElem_cons hlt, hy]⟩
      have HWa : Hid (x.1 < y.1 → (∀ z ∈ l.take i, z.1 ≤ x.1) → withL l x = l.take i ++ x :: l.drop i) := fun h1 h2 => withL_at l x i hlt h2 (by rw [hy]; exact h1)
      obtain ⟨sa, sc, rfl, _, _⟩ := hB.sub.slice
      obtain ⟨g0, g1, g2, g3⟩ : wr.cell? ⟨b, o + i * 4, none⟩ = some (.int .i64 y.1) ∧ wr.cell? ⟨b, o + i * 4 + 1, none⟩ = some (.int .i64 y.2.v) ∧ wr.cell? ⟨b, o + i * 4 + 2, none⟩ = some (.string y.2.fn) ∧ wr.cell? ⟨b, o + i * 4 + 3, none⟩ = some (.slice sa y.2.args.length sc) := ⟨hB.c0, hB.c1, hB.c2, hB.c3⟩
      have HY : Hid (∀ W, Below (w.alloc (bbox x (.slice xa x.2.args.length xc))).heap.size (w.alloc (bbox x (.slice xa x.2.args.length xc))) W → W.cell? ⟨b, o + i * 4, none⟩ = some (.int .i64 y.1) ∧ W.cell? ⟨b, o + i * 4 + 1, none⟩ = some (.int .i64 y.2.v) ∧ W.cell? ⟨b, o + i * 4 + 2, none⟩ = some (.string y.2.fn) ∧ W.cell? ⟨b, o + i * 4 + 3, none⟩ = some (.slice sa y.2.args.length sc)) := fun W hW => by
        have hB1 := hB0.keep (HB0.out.trans (hW.mono HB0.out.size))
        exact ⟨hB1.c0, hB1.c1, hB1.c2, hB1.c3⟩
      have f0 := fun p => cell_far hB.lt g0 p
      have f1 := fun p => cell_far hlx k0 p
      have j0 : (i : Int) < (l.length : Int) := by omega
      have HO : Hid (OwnB (w.alloc (bbox x (.slice xa x.2.args.length xc))) (.slice pa k pc) ps wr ∧ ps.length = k ∧ (∀ p ∈ ps, ArgsAt (w.alloc (bbox x (.slice xa x.2.args.length xc))) p.2 p.1.2.args) ∧ ArgsAt (w.alloc (bbox x (.slice xa x.2.args.length xc))) (.slice sa y.2.args.length sc) y.2.args ∧ ArgsAt (w.alloc (bbox x (.slice xa x.2.args.length xc))) (.slice xa x.2.args.length xc) x.2.args) := ⟨hO, hk, hargs, hsub0, ArgsAt.keep HB0.out (Nat.le_refl _) HL.out.2⟩
      have HQ0 : Hid (q = false → ps.map (·.1) = l.take i ∧ ∀ y ∈ l.take i, y.1 ≤ x.1) := hq0
      have HQ1 : Hid (q = true → ps.map (·.1) ++ l.drop i = withL l x) := hq1
      clear hB hB0 hO hargs hk hy hq0 hq1 hsub0 hbw
      cases q
      · by_cases hgt : x.1 < y.1
        · have hd : decide (x.1 < y.1) = true := decide_eq_true hgt
          go_wp2
          go_quiet (fail)
          obtain ⟨W3, hW3⟩ : ∃ W3, wr.drewN nq = W3 := ⟨_, rfl⟩
          have hb3 : Below wr.heap.size wr W3 := by rw [← hW3]; exact ⟨rfl, rfl, rfl, Nat.le_refl _, fun _ _ => rfl⟩
          rw [hW3]
          have HO3 : Hid (OwnB (w.alloc (bbox x (.slice xa x.2.args.length xc))) (.slice pa k pc) ps W3 ∧ ps.length = k) := ⟨HO.out.1.keep hb3, HO.out.2.1⟩
          obtain ⟨m0, m1, m2, m3⟩ := HT.out W3 HO3.out.1.bel
          obtain ⟨r0, r1, r2, r3⟩ := HY.out W3 HO3.out.1.bel
          clear hW3 hb3 f0 f1 g0 g1 g2 g3 k0 k1 k2 k3
          go_wp2_with (first
            | (at_builtin; have HR : Hid ((w4.alloc (.cells #[.int .i64 y.1, .int .i64 y.2.v, .string y.2.fn, (.slice sa y.2.args.length sc)] 35)).ownsRow (w.alloc (bbox x (.slice xa x.2.args.length xc))).heap.size 35 4 (.slice pa4 (k + 1) pc4) (k + 1) (flatB (ps ++ [(x, (.slice xa x.2.args.length xc))]))) := (by { have := (HO4.out.1.keep (below_box w4 (.cells #[.int .i64 y.1, .int .i64 y.2.v, .string y.2.fn, (.slice sa y.2.args.length sc)] 35))).row; rwa [HO4.out.2] at this }); have HS : Hid ((w.alloc (bbox x (.slice xa x.2.args.length xc))).heap.size ≤ (w4.alloc (.cells #[.int .i64 y.1, .int .i64 y.2.v, .string y.2.fn, (.slice sa y.2.args.length sc)] 35)).heap.size) := Nat.le_trans HO4.out.1.bel.size (by simp); refine wpList_append_own_at _ rfl _ _ 25 rfl (w.alloc (bbox x (.slice xa x.2.args.length xc))).heap.size 35 i0 (.agg #[.int .i64 0, .int .i64 0, .string ⟨#[]⟩, .slice none 0 0]) 4 56 Try.underlying25 hi0 hz0 hz1 hz2 rfl (by decide) _ _ _ rfl HR.out ⟨w4.heap.size, 0, none⟩ 1 1 [.int .i64 y.1, .int .i64 y.2.v, .string y.2.fn, (.slice sa y.2.args.length sc)] rfl rfl (lit4 w4 _ _ _ _ 35) (by simp [Value.oneCell']) (by unfold maxLen; omega) (by omega) HS.out ?_; intro v5 w5 h2 h3 _ _; obtain ⟨pa5, pc5, rfl⟩ := rowB_form h2; have HO5 : Hid (OwnB (w.alloc (bbox x (.slice xa x.2.args.length xc))) (.slice pa5 (k + 1 + 1) pc5) ((ps ++ [(x, (.slice xa x.2.args.length xc))]) ++ [(y, (.slice sa y.2.args.length sc))]) w5 ∧ List.length (α := Bd × Value) ((ps ++ [(x, (.slice xa x.2.args.length xc))]) ++ [(y, (.slice sa y.2.args.length sc))]) = k + 1 + 1) := ⟨HO4.out.1.push (y, (.slice sa y.2.args.length sc)) _ w5 (by rw [HO4.out.2]; exact h2) _ h3, len_snoc HO4.out.2⟩; clear h2 h3 HR HS; obtain ⟨r0, r1, r2, r3⟩ := HY.out w5 HO5.out.1.bel)
            | (at_builtin; have HR : Hid ((W3.alloc (.cells #[.int .i64 x.1, .int .i64 x.2.v, .string x.2.fn, (.slice xa x.2.args.length xc)] 35)).ownsRow (w.alloc (bbox x (.slice xa x.2.args.length xc))).heap.size 35 4 (.slice pa k pc) (k) (flatB ps)) := (by { have := (HO3.out.1.keep (below_box W3 (.cells #[.int .i64 x.1, .int .i64 x.2.v, .string x.2.fn, (.slice xa x.2.args.length xc)] 35))).row; rwa [HO3.out.2] at this }); have HS : Hid ((w.alloc (bbox x (.slice xa x.2.args.length xc))).heap.size ≤ (W3.alloc (.cells #[.int .i64 x.1, .int .i64 x.2.v, .string x.2.fn, (.slice xa x.2.args.length xc)] 35)).heap.size) := Nat.le_trans HO3.out.1.bel.size (by simp); refine wpList_append_own_at _ rfl _ _ 25 rfl (w.alloc (bbox x (.slice xa x.2.args.length xc))).heap.size 35 i0 (.agg #[.int .i64 0, .int .i64 0, .string ⟨#[]⟩, .slice none 0 0]) 4 56 Try.underlying25 hi0 hz0 hz1 hz2 rfl (by decide) _ _ _ rfl HR.out ⟨W3.heap.size, 0, none⟩ 1 1 [.int .i64 x.1, .int .i64 x.2.v, .string x.2.fn, (.slice xa x.2.args.length xc)] rfl rfl (lit4 W3 _ _ _ _ 35) (by simp [Value.oneCell']) (by unfold maxLen; omega) (by omega) HS.out ?_; intro v4 w4 h2 h3 _ _; obtain ⟨pa4, pc4, rfl⟩ := rowB_form h2; have HO4 : Hid (OwnB (w.alloc (bbox x (.slice xa x.2.args.length xc))) (.slice pa4 (k + 1) pc4) (ps ++ [(x, (.slice xa x.2.args.length xc))]) w4 ∧ List.length (α := Bd × Value) (ps ++ [(x, (.slice xa x.2.args.length xc))]) = k + 1) := ⟨HO3.out.1.push (x, (.slice xa x.2.args.length xc)) _ w4 (by rw [HO3.out.2]; exact h2) _ h3, len_snoc HO3.out.2⟩; clear h2 h3 HR HS; obtain ⟨r0, r1, r2, r3⟩ := HY.out w4 HO4.out.1.bel))
          go_roundw
          case rel =>
            refine ⟨i + 1, k + 1 + 1, true, by go_num, rfl, by omega, ps ++ [(x, (.slice xa x.2.args.length xc))] ++ [(y, (.slice sa y.2.args.length sc))], HO5.out.2, ?_, HO5.out.1, (by have h1 := congrArg List.length (HQ0.out (by first | rfl | trivial)).1; have h2 := HO.out.2.1; rw [List.length_map, List.length_take] at h1; omega), (fun h => by cases h), (fun _ => ?_)⟩
            · intro p hp
              rcases List.mem_append.1 hp with hp | hp
              · rcases List.mem_append.1 hp with hp | hp
                · exact HO.out.2.2.1 p hp
                · simp at hp; subst hp; exact HO.out.2.2.2.2
              · simp at hp; subst hp; exact HO.out.2.2.2.1
            · obtain ⟨h1, h2⟩ := HQ0.out (by first | rfl | trivial)
              rw [HWa.out hgt h2, HN.out.2, List.map_append, List.map_append, h1]
              simp
          case measure => simp [intOf]; omega
        · have hd : decide (x.1 < y.1) = false := decide_eq_false hgt
          go_wp2
          go_quiet (fail)
          obtain ⟨W3, hW3⟩ : ∃ W3, wr.drewN nq = W3 := ⟨_, rfl⟩
          have hb3 : Below wr.heap.size wr W3 := by rw [← hW3]; exact ⟨rfl, rfl, rfl, Nat.le_refl _, fun _ _ => rfl⟩
          rw [hW3]
          have HO3 : Hid (OwnB (w.alloc (bbox x (.slice xa x.2.args.length xc))) (.slice pa k pc) ps W3 ∧ ps.length = k) := ⟨HO.out.1.keep hb3, HO.out.2.1⟩
          obtain ⟨m0, m1, m2, m3⟩ := HT.out W3 HO3.out.1.bel
          obtain ⟨r0, r1, r2, r3⟩ := HY.out W3 HO3.out.1.bel
          clear hW3 hb3 f0 f1 g0 g1 g2 g3 k0 k1 k2 k3
          go_wp2_with (first
            | (at_builtin; have HR : Hid ((W3.alloc (.cells #[.int .i64 y.1, .int .i64 y.2.v, .string y.2.fn, (.slice sa y.2.args.length sc)] 35)).ownsRow (w.alloc (bbox x (.slice xa x.2.args.length xc))).heap.size 35 4 (.slice pa k pc) (k) (flatB ps)) := (by { have := (HO3.out.1.keep (below_box W3 (.cells #[.int .i64 y.1, .int .i64 y.2.v, .string y.2.fn, (.slice sa y.2.args.length sc)] 35))).row; rwa [HO3.out.2] at this }); have HS : Hid ((w.alloc (bbox x (.slice xa x.2.args.length xc))).heap.size ≤ (W3.alloc (.cells #[.int .i64 y.1, .int .i64 y.2.v, .string y.2.fn, (.slice sa y.2.args.length sc)] 35)).heap.size) := Nat.le_trans HO3.out.1.bel.size (by simp); refine wpList_append_own_at _ rfl _ _ 25 rfl (w.alloc (bbox x (.slice xa x.2.args.length xc))).heap.size 35 i0 (.agg #[.int .i64 0, .int .i64 0, .string ⟨#[]⟩, .slice none 0 0]) 4 56 Try.underlying25 hi0 hz0 hz1 hz2 rfl (by decide) _ _ _ rfl HR.out ⟨W3.heap.size, 0, none⟩ 1 1 [.int .i64 y.1, .int .i64 y.2.v, .string y.2.fn, (.slice sa y.2.args.length sc)] rfl rfl (lit4 W3 _ _ _ _ 35) (by simp [Value.oneCell']) (by unfold maxLen; omega) (by omega) HS.out ?_; intro v4 w4 h2 h3 _ _; obtain ⟨pa4, pc4, rfl⟩ := rowB_form h2; have HO4 : Hid (OwnB (w.alloc (bbox x (.slice xa x.2.args.length xc))) (.slice pa4 (k + 1) pc4) (ps ++ [(y, (.slice sa y.2.args.length sc))]) w4 ∧ List.length (α := Bd × Value) (ps ++ [(y, (.slice sa y.2.args.length sc))]) = k + 1) := ⟨HO3.out.1.push (y, (.slice sa y.2.args.length sc)) _ w4 (by rw [HO3.out.2]; exact h2) _ h3, len_snoc HO3.out.2⟩; clear h2 h3 HR HS; obtain ⟨r0, r1, r2, r3⟩ := HY.out w4 HO4.out.1.bel))
          go_roundw
          case rel =>
            refine ⟨i + 1, k + 1, false, by go_num, rfl, by omega, ps ++ [(y, (.slice sa y.2.args.length sc))], HO4.out.2, ?_, HO4.out.1, by omega, ?_, ?_⟩
            · intro p hp
              rcases List.mem_append.1 hp with hp | hp
              · exact HO.out.2.2.1 p hp
              · simp at hp; subst hp; exact HO.out.2.2.2.1
            · intro _
              obtain ⟨h1, h2⟩ := HQ0.out (by first | rfl | trivial)
              refine ⟨by rw [HN.out.1, List.map_append, h1]; rfl, fun z hz => ?_⟩
              rw [HN.out.1] at hz
              rcases List.mem_append.1 hz with hz | hz
              · exact h2 z hz
              · simp at hz; subst hz; omega
            · intro h; cases h
          case measure => simp [intOf]; omega
      · go_wp2
        go_quiet (fail)
        obtain ⟨W3, hW3⟩ : ∃ W3, wr.drewN nq = W3 := ⟨_, rfl⟩
        have hb3 : Below wr.heap.size wr W3 := by rw [← hW3]; exact ⟨rfl, rfl, rfl, Nat.le_refl _, fun _ _ => rfl⟩
        rw [hW3]
        have HO3 : Hid (OwnB (w.alloc (bbox x (.slice xa x.2.args.length xc))) (.slice pa k pc) ps W3 ∧ ps.length = k) := ⟨HO.out.1.keep hb3, HO.out.2.1⟩
        obtain ⟨m0, m1, m2, m3⟩ := HT.out W3 HO3.out.1.bel
        obtain ⟨r0, r1, r2, r3⟩ := HY.out W3 HO3.out.1.bel
        clear hW3 hb3 f0 f1 g0 g1 g2 g3 k0 k1 k2 k3
        go_wp2_with (first
          | (at_builtin; have HR : Hid ((W3.alloc (.cells #[.int .i64 y.1, .int .i64 y.2.v, .string y.2.fn, (.slice sa y.2.args.length sc)] 35)).ownsRow (w.alloc (bbox x (.slice xa x.2.args.length xc))).heap.size 35 4 (.slice pa k pc) (k) (flatB ps)) := (by { have := (HO3.out.1.keep (below_box W3 (.cells #[.int .i64 y.1, .int .i64 y.2.v, .string y.2.fn, (.slice sa y.2.args.length sc)] 35))).row; rwa [HO3.out.2] at this }); have HS : Hid ((w.alloc (bbox x (.slice xa x.2.args.length xc))).heap.size ≤ (W3.alloc (.cells #[.int .i64 y.1, .int .i64 y.2.v, .string y.2.fn, (.slice sa y.2.args.length sc)] 35)).heap.size) := Nat.le_trans HO3.out.1.bel.size (by simp); refine wpList_append_own_at _ rfl _ _ 25 rfl (w.alloc (bbox x (.slice xa x.2.args.length xc))).heap.size 35 i0 (.agg #[.int .i64 0, .int .i64 0, .string ⟨#[]⟩, .slice none 0 0]) 4 56 Try.underlying25 hi0 hz0 hz1 hz2 rfl (by decide) _ _ _ rfl HR.out ⟨W3.heap.size, 0, none⟩ 1 1 [.int .i64 y.1, .int .i64 y.2.v, .string y.2.fn, (.slice sa y.2.args.length sc)] rfl rfl (lit4 W3 _ _ _ _ 35) (by simp [Value.oneCell']) (by unfold maxLen; omega) (by omega) HS.out ?_; intro v4 w4 h2 h3 _ _; obtain ⟨pa4, pc4, rfl⟩ := rowB_form h2; have HO4 : Hid (OwnB (w.alloc (bbox x (.slice xa x.2.args.length xc))) (.slice pa4 (k + 1) pc4) (ps ++ [(y, (.slice sa y.2.args.length sc))]) w4 ∧ List.length (α := Bd × Value) (ps ++ [(y, (.slice sa y.2.args.length sc))]) = k + 1) := ⟨HO3.out.1.push (y, (.slice sa y.2.args.length sc)) _ w4 (by rw [HO3.out.2]; exact h2) _ h3, len_snoc HO3.out.2⟩; clear h2 h3 HR HS; obtain ⟨r0, r1, r2, r3⟩ := HY.out w4 HO4.out.1.bel))
        go_roundw
        case rel =>
          refine ⟨i + 1, k + 1, true, by go_num, rfl, by omega, ps ++ [(y, (.slice sa y.2.args.length sc))], HO4.out.2, ?_, HO4.out.1, by omega, ?_, ?_⟩
          · intro p hp
            rcases List.mem_append.1 hp with hp | hp
            · exact HO.out.2.2.1 p hp
            · simp at hp; subst hp; exact HO.out.2.2.2.1
          · intro h; cases h
          · intro _
            have h1 := HQ1.out (by first | rfl | trivial)
            rw [← h1, HN.out.2, List.map_append]
            simp
        case measure => simp [intOf]; omega
    · have hil : i = l.length := by omega
      subst hil
      obtain ⟨k0, k1, k2, k3⟩ := HT.out wr hO.bel
      have HO : Hid (OwnB (w.alloc (bbox x (.slice xa x.2.args.length xc))) (.slice pa k pc) ps wr ∧ ps.length = k) := ⟨hO, hk⟩
      have HA : Hid (∀ p ∈ ps, ArgsAt (w.alloc (bbox x (.slice xa x.2.args.length xc))) p.2 p.1.2.args) := hargs
      have HQ0 : Hid (q = false → ps.map (·.1) = l.take l.length ∧ ∀ y ∈ l.take l.length, y.1 ≤ x.1) := hq0
      have HQ1 : Hid (q = true → ps.map (·.1) ++ l.drop l.length = withL l x) := hq1
      clear hO hk hargs hq0 hq1
      cases q
      · go_wp2_with (first
          | (at_builtin; have HR : Hid ((wr.alloc (.cells #[.int .i64 x.1, .int .i64 x.2.v, .string x.2.fn, (.slice xa x.2.args.length xc)] 35)).ownsRow (w.alloc (bbox x (.slice xa x.2.args.length xc))).heap.size 35 4 (.slice pa k pc) (k) (flatB ps)) := (by { have := (HO.out.1.keep (below_box wr (.cells #[.int .i64 x.1, .int .i64 x.2.v, .string x.2.fn, (.slice xa x.2.args.length xc)] 35))).row; rwa [HO.out.2] at this }); have HS : Hid ((w.alloc (bbox x (.slice xa x.2.args.length xc))).heap.size ≤ (wr.alloc (.cells #[.int .i64 x.1, .int .i64 x.2.v, .string x.2.fn, (.slice xa x.2.args.length xc)] 35)).heap.size) := Nat.le_trans HO.out.1.bel.size (by simp); refine wpList_append_own_at _ rfl _ _ 25 rfl (w.alloc (bbox x (.slice xa x.2.args.length xc))).heap.size 35 i0 (.agg #[.int .i64 0, .int .i64 0, .string ⟨#[]⟩, .slice none 0 0]) 4 56 Try.underlying25 hi0 hz0 hz1 hz2 rfl (by decide) _ _ _ rfl HR.out ⟨wr.heap.size, 0, none⟩ 1 1 [.int .i64 x.1, .int .i64 x.2.v, .string x.2.fn, (.slice xa x.2.args.length xc)] rfl rfl (lit4 wr _ _ _ _ 35) (by simp [Value.oneCell']) (by unfold maxLen; omega) (by omega) HS.out ?_; intro v4 w4 h2 h3 _ _; obtain ⟨pa4, pc4, rfl⟩ := rowB_form h2; have HO4 : Hid (OwnB (w.alloc (bbox x (.slice xa x.2.args.length xc))) (.slice pa4 (k + 1) pc4) (ps ++ [(x, (.slice xa x.2.args.length xc))]) w4 ∧ List.length (α := Bd × Value) (ps ++ [(x, (.slice xa x.2.args.length xc))]) = k + 1) := ⟨HO.out.1.push (x, (.slice xa x.2.args.length xc)) _ w4 (by rw [HO.out.2]; exact h2) _ h3, len_snoc HO.out.2⟩; clear h2 h3 HR HS))
        have HF : Hid (BindsAt w4 (.slice pa4 (k + 1) pc4) (withL l x) ∧ Below w.heap.size w w4) := by
          refine ⟨?_, HB0.out.trans (HO4.out.1.bel.mono HB0.out.size)⟩
          obtain ⟨h1, h2⟩ := HQ0.out (by first | rfl | trivial)
          have h3 := binds_of_row HO4.out.1.row (fun p hp => by
            rcases List.mem_append.1 hp with hp | hp
            · exact ArgsAt.keep HO4.out.1.bel (Nat.le_refl _) (HA.out p hp)
            · simp at hp; subst hp; exact ArgsAt.keep HO4.out.1.bel (Nat.le_refl _) (ArgsAt.keep HB0.out (Nat.le_refl _) HL.out.2))
          rw [List.map_append, h1] at h3
          rw [List.take_length] at h3 h2
          rw [withL_end l x h2]
          exact h3
        go_ret
        exact ⟨_, rfl, HF.out.1, HF.out.2⟩
      · have HF : Hid (BindsAt wr (.slice pa k pc) (withL l x) ∧ Below w.heap.size w wr) := by
          refine ⟨?_, HB0.out.trans (HO.out.1.bel.mono HB0.out.size)⟩
          have h1 := HQ1.out (by first | rfl | trivial)
          have h3 := binds_of_row HO.out.1.row (fun p hp => ArgsAt.keep HO.out.1.bel (Nat.le_refl _) (HA.out p hp))
          rw [List.drop_length, List.append_nil] at h1
          rw [h1] at h3
          exact h3
        go_wp2
        go_ret
        exact ⟨_, rfl, HF.out.1, HF.out.2⟩

end Go.Proofs.Ytblfbmdnkgebdaa
