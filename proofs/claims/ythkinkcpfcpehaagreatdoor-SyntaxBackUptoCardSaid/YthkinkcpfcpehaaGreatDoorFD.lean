import Derived.Test.YthkinkcpfcpehaaGreatDoorFC
import Derived.Recover
import Derived.Deep.DeepCutAuto
namespace Go.Proofs.YthkinkcpfcpehaaGreatDoor
set_option maxRecDepth 100000
set_option maxHeartbeats 2000000
open Go.RowKit Go.Maps
open Lx (Tk ofL KsAt)
theorem cell_store {W : World} {b : Nat} {vs : List Value} {ty : TypeId} (h : W.heap[b]? = some (.cells vs.toArray ty (0, 0))) {i : Nat} {v : Value} (hv : vs[i]? = some v) : W.cell? ⟨b, i, none⟩ = some v := by
  simp [World.cell?, h, hv]
theorem frozen_cells {W : World} {b o : Nat} {cs : Array Value} {ty : TypeId} (h : W.heap[b]? = some (.cells cs ty (0, 0))) : W.frozen? ⟨b, o, none⟩ = false := by simp [World.frozen?, h]
theorem hid {p : Prop} (h : p) : Hid p := h
theorem KsAt_same {W W' : World} {v : Value} {l : List Tk} (h : KsAt W v l) (hs : W.heap.size ≤ W'.heap.size) (hb : ∀ b, v.ownBlock = some b → W'.heap[b]? = W.heap[b]?) : KsAt W' v l := by
  obtain ⟨a, c, e, h1, h2, h3⟩ := h
  refine ⟨a, c, e, h1, h2, fun h0 => ?_⟩
  obtain ⟨b, o, hlt, ea, hc⟩ := h3 h0
  have hk := hb b (by rw [e, ea]; rfl)
  refine ⟨b, o, Nat.lt_of_lt_of_le hlt hs, ea, fun i hi => ?_⟩
  obtain ⟨c0, c1, c2⟩ := hc i hi
  have key : ∀ k v, W.cell? ⟨b, k, none⟩ = some v → W'.cell? ⟨b, k, none⟩ = some v := fun k v hc => (World.cell?_of_block (a := ⟨b, k, none⟩) hk).trans hc
  exact ⟨key _ _ c0, key _ _ c1, key _ _ c2⟩
/-- The parser's box: what is left of the tokens, the text's length, and the rest. -/
structure Bx (W : World) (B : Nat) (n : Nat) (m : Nat) (l : List Tk) (c2 c3 c4 c5 : Value) : Prop where
  ks : ∃ rv, W.heap[B]? = some (.cells #[rv, .int .i64 (n : Nat), c2, c3, c4, c5] 55 (0, 0)) ∧ KsAt W rv l ∧ ∀ b, rv.ownBlock = some b → b < m
  mB : m ≤ B
theorem Bx.keep {W W' : World} {B n m : Nat} {l : List Tk} {c2 c3 c4 c5 : Value} (h : Bx W B n m l c2 c3 c4 c5) (hb : Below W.heap.size W W') : Bx W' B n m l c2 c3 c4 c5 := by
  obtain ⟨rv, h1, h2, h3⟩ := h.ks
  exact ⟨⟨rv, (hb.block B (Array.getElem?_eq_some_iff.1 h1).1).trans h1, h2.keep hb (Nat.le_refl _), h3⟩, h.mB⟩
/-- The token that stands next: behind the last one none, at the text's end. -/
def tokV (n : Nat) : List Tk → Value
  | [] => .agg #[.int .i64 0, .int .i64 (n : Nat), .string ⟨#[]⟩]
  | t :: _ => .agg #[.int .i64 t.k, .int .i64 (t.a : Nat), .string (ofL t.t)]
abbrev tokC (n : Nat) (l : List Tk) : List Value := match l with
  | [] => [.int .i64 0, .int .i64 (n : Nat), .string ⟨#[]⟩]
  | t :: _ => [.int .i64 t.k, .int .i64 (t.a : Nat), .string (ofL t.t)]
theorem ahead_any {w : World} {B n m : Nat} {l : List Tk} {c2 c3 c4 c5 : Value} (h : Bx w B n m l c2 c3 c4 c5) :
    Calls Tryz.prog 56 #[.pointer (some ⟨B, 0, none⟩)] w fun e w' => e = .returned (tokV n l) ∧ Below w.heap.size w w' := by
  obtain ⟨rv, h1, h2, h3⟩ := h.ks
  have x0 : w.cell? ⟨B, 0, none⟩ = some rv := cell_store (vs := [_, _, _, _, _, _]) h1 rfl
  have x1 : w.cell? ⟨B, 1, none⟩ = some (.int .i64 (n : Nat)) := cell_store (vs := [_, _, _, _, _, _]) h1 rfl
  have hlt := (Array.getElem?_eq_some_iff.1 h1).1
  obtain ⟨a, c, rfl, k1, k2, k3⟩ := h2
  have hbb := below_box w (.cells (tokC n l).toArray 57)
  have HB := hid hbb
  clear hbb h1 h3
  cases l with
  | nil =>
    simp only [List.length_nil] at x0
    go_enter Tryz.func56, Tryz.ntmps56
    go_wp2
    refine bodyPost_ret (v := tokV n []) (by simp [results, Tryz.results56, go_sem, tokV]) rfl ?_
    exact ⟨rfl, HB.out⟩
  | cons t r =>
    obtain ⟨b, o, kl, rfl, hc⟩ := k3 (by simp)
    obtain ⟨d0, d1, d2⟩ := hc 0 (by simp)
    simp only [Nat.zero_mul, Nat.add_zero, List.getElem_cons_zero] at d0 d1 d2
    have hl0 : (((t :: r).length : Int) == 0) = false := by rw [beq_eq_false_iff_ne]; simp only [List.length_cons]; omega
    have hl1 : (0 : Int) < ((t :: r).length : Int) := by simp only [List.length_cons]; omega
    clear hc k3
    generalize (t :: r).length = m at *
    go_enter Tryz.func56, Tryz.ntmps56
    go_wp2
    refine bodyPost_ret (v := tokV n (t :: r)) (by simp [results, Tryz.results56, go_sem, tokV]) rfl ?_
    exact ⟨rfl, HB.out⟩
/-- What a sign reads: of marks and dollar words their text. -/
def signB (l : List Tk) : ByteArray := match l with
  | [] => ⟨#[]⟩
  | t :: _ => if t.k = 4 ∨ t.k = 3 then ofL t.t else ⟨#[]⟩
theorem sign_any {w : World} {B n m : Nat} {l : List Tk} {c2 c3 c4 c5 : Value} (h : Bx w B n m l c2 c3 c4 c5) :
    Calls Tryz.prog 132 #[.pointer (some ⟨B, 0, none⟩)] w fun e w' => e = .returned (.string (signB l)) ∧ Below w.heap.size w w' := by
  have ha := ahead_any h
  clear h
  cases l with
  | nil =>
    unfold tokV at ha
    go_enter Tryz.func132, Tryz.ntmps132
    go_wp2_with fail
    refine ha.mono ?_
    rintro e W1 ⟨rfl, hb⟩
    have HB : Hid (Below w.heap.size w (W1.alloc (.cells #[.int .i64 0, .int .i64 (n : Nat), .string ⟨#[]⟩] 57))) := hb.trans ((below_box _ _).mono hb.size)
    clear ha hb
    go_wp2
    go_ret
    exact ⟨rfl, HB.out⟩
  | cons t r =>
    obtain ⟨k, hk⟩ : ∃ k, t.k = k := ⟨_, rfl⟩
    obtain ⟨tx, htx⟩ : ∃ x, ofL t.t = x := ⟨_, rfl⟩
    have HS : Hid (signB (t :: r) = if k = 4 ∨ k = 3 then tx else ⟨#[]⟩) := by show (if t.k = 4 ∨ t.k = 3 then ofL t.t else _) = _; rw [hk, htx]
    have ha : Calls Tryz.prog 56 #[.pointer (some ⟨B, 0, none⟩)] w fun e w' => e = .returned (.agg #[.int .i64 k, .int .i64 (t.a : Nat), .string tx]) ∧ Below w.heap.size w w' := by rw [← hk, ← htx]; exact ha
    clear htx hk
    by_cases h4 : k = 4
    · subst h4
      go_enter Tryz.func132, Tryz.ntmps132
      go_wp2_with fail
      refine ha.mono ?_
      rintro e W1 ⟨rfl, hb⟩
      have HB : Hid (Below w.heap.size w (W1.alloc (.cells #[.int .i64 4, .int .i64 (t.a : Nat), .string tx] 57))) := hb.trans ((below_box _ _).mono hb.size)
      clear ha hb
      go_wp2
      go_ret
      refine ⟨?_, HB.out⟩
      rw [HS.out, if_pos (.inl trivial)]
      rfl
    · have e4 : (k == 4) = false := by simp [h4]
      by_cases h3 : k = 3
      · subst h3
        go_enter Tryz.func132, Tryz.ntmps132
        go_wp2_with fail
        refine ha.mono ?_
        rintro e W1 ⟨rfl, hb⟩
        have HB : Hid (Below w.heap.size w (W1.alloc (.cells #[.int .i64 3, .int .i64 (t.a : Nat), .string tx] 57))) := hb.trans ((below_box _ _).mono hb.size)
        clear ha hb
        go_wp2
        go_ret
        refine ⟨?_, HB.out⟩
        rw [HS.out, if_pos (.inr trivial)]
        rfl
      · have e3 : (k == 3) = false := by simp [h3]
        have HN : Hid (¬ (k = 4 ∨ k = 3)) := fun h => h.elim h4 h3
        go_enter Tryz.func132, Tryz.ntmps132
        go_wp2_with fail
        refine ha.mono ?_
        rintro e W1 ⟨rfl, hb⟩
        have HB : Hid (Below w.heap.size w (W1.alloc (.cells #[.int .i64 k, .int .i64 (t.a : Nat), .string tx] 57))) := hb.trans ((below_box _ _).mono hb.size)
        clear ha hb
        go_wp2
        go_ret
        refine ⟨?_, HB.out⟩
        rw [HS.out, if_neg HN.out]
        rfl
/-- What is left behind a token that is gone. -/
theorem Bx.tail {W : World} {B n m : Nat} {t : Tk} {r : List Tk} {c2 c3 c4 c5 : Value} (h : Bx W B n m (t :: r) c2 c3 c4 c5) : ∃ b o c, b < W.heap.size ∧ b ≠ B ∧ W.heap[B]? = some (.cells #[.slice (some ⟨b, o, none⟩) (r.length + 1) c, .int .i64 (n : Nat), c2, c3, c4, c5] 55 (0, 0)) ∧ r.length + 1 ≤ c ∧ c ≤ maxLen ∧
    ∀ W' o', (r.length ≠ 0 → o' = o + 3) → W'.heap[b]? = W.heap[b]? → W.heap.size ≤ W'.heap.size → W'.heap[B]? = some (.cells #[.slice (some ⟨b, o', none⟩) r.length (c - 1), .int .i64 (n : Nat), c2, c3, c4, c5] 55 (0, 0)) → Bx W' B n m r c2 c3 c4 c5 := by
  obtain ⟨rv, h1, h2, h3⟩ := h.ks
  obtain ⟨a, c, rfl, k1, k2, k3⟩ := h2
  obtain ⟨b, o, kl, rfl, hc⟩ := k3 (by simp)
  have hbm : b < m := h3 b rfl
  have hmB := h.mB
  have hne : b ≠ B := by omega
  refine ⟨b, o, c, kl, hne, h1, k1, by unfold maxLen; exact k2, fun W' o' ho hk hs hB => ⟨⟨_, hB, ?_, fun b' hb' => by cases hb'; exact hbm⟩, hmB⟩⟩
  refine ⟨_, _, rfl, by simp only [List.length_cons] at k1; omega, by omega, fun h0 => ⟨b, o', Nat.lt_of_lt_of_le kl hs, rfl, fun i hi => ?_⟩⟩
  have key : ∀ k v, W.cell? ⟨b, k, none⟩ = some v → W'.cell? ⟨b, k, none⟩ = some v := fun k v hc => (World.cell?_of_block (a := ⟨b, k, none⟩) hk).trans hc
  obtain ⟨d0, d1, d2⟩ := hc (i + 1) (by simpa using hi)
  have hoo := ho (by omega)
  rw [show o + (i + 1) * 3 = o' + i * 3 by omega] at d0 d1 d2
  exact ⟨key _ _ d0, key _ _ d1, key _ _ d2⟩
theorem only_cell {w W : World} (hb : Below w.heap.size w W) (B o : Nat) (v : Value) : Only [B] w (W.setCell ⟨B, o, none⟩ v) :=
  ⟨hb.os, hb.tape, hb.output, by simpa using hb.size, fun k hk hn => (Below.heap_setCell _ _ _ k (fun e => hn (by rw [e]; simp))).trans (hb.block k hk)⟩
theorem skip_yes {w : World} {B n m : Nat} {t : Tk} {r : List Tk} {c2 c3 c4 c5 : Value} (h : Bx w B n m (t :: r) c2 c3 c4 c5) (s : ByteArray) (hs : signB (t :: r) = s) :
    Calls Tryz.prog 134 #[.pointer (some ⟨B, 0, none⟩), .string s] w fun e w' => e = .returned (.bool true) ∧ Bx w' B n m r c2 c3 c4 c5 ∧ Only [B] w w' := by
  have ha := sign_any h
  rw [hs] at ha
  have H := hid h
  clear h hs
  go_enter Tryz.func134, Tryz.ntmps134
  go_wp2_with fail
  refine ha.mono ?_
  rintro e W1 ⟨rfl, hb⟩
  obtain ⟨b, o, c, y0, y1, y2, x1, x2, y3⟩ := (H.out.keep hb).tail
  have x0 : W1.cell? ⟨B, 0, none⟩ = some (.slice (some ⟨b, o, none⟩) (r.length + 1) c) := cell_store (vs := [_, _, _, _, _, _]) y2 rfl
  have x3 : W1.frozen? ⟨B, 0, none⟩ = false := frozen_cells y2
  have HT : Hid (∀ o', (r.length ≠ 0 → o' = o + 3) → Bx (W1.setCell ⟨B, 0, none⟩ (.slice (some ⟨b, o', none⟩) r.length (c - 1))) B n m r c2 c3 c4 c5) := fun o' ho => y3 _ o' ho (Below.heap_setCell _ _ _ b y1) (by simp) (by have := heap_setCell_same W1 B 0 _ 55 (.slice (some ⟨b, o', none⟩) r.length (c - 1)) y2; simpa using this)
  have HB := hid hb
  clear ha hb y0 y1 y2 y3
  by_cases hc1 : c = 1
  · subst hc1
    have hr : r.length = 0 := by omega
    rw [hr] at x0 HT
    go_wp2
    go_ret
    exact ⟨rfl, HT.out o (fun h => absurd rfl h), only_cell HB.out _ _ _⟩
  · go_wp2
    go_ret
    exact ⟨rfl, HT.out (o + 3) (fun _ => rfl), only_cell HB.out _ _ _⟩
theorem skip_no {w : World} {B n m : Nat} {l : List Tk} {c2 c3 c4 c5 : Value} (h : Bx w B n m l c2 c3 c4 c5) (s : ByteArray) (hs : signB l ≠ s) :
    Calls Tryz.prog 134 #[.pointer (some ⟨B, 0, none⟩), .string s] w fun e w' => e = .returned (.bool false) ∧ Below w.heap.size w w' := by
  have ha := sign_any h
  obtain ⟨x, hx⟩ : ∃ x, signB l = x := ⟨_, rfl⟩
  rw [hx] at ha hs
  have hne : (x.toList == s.toList) = false := by rw [beq_eq_false_iff_ne]; exact fun h => hs (ba_toList_inj.1 h)
  clear h hx hs
  go_enter Tryz.func134, Tryz.ntmps134
  go_wp2_with fail
  refine ha.mono ?_
  rintro e W1 ⟨rfl, hb⟩
  have HB := hid hb
  clear ha hb
  go_wp2
  go_ret
  exact ⟨rfl, HB.out⟩
/-- What does not fit leaves by this. -/
abbrev misfit : List PanicEntry := [{ v := .iface 158 (.agg #[]), recovered := false }]
theorem must_yes {w : World} {B n m : Nat} {t : Tk} {r : List Tk} {c2 c3 c4 c5 : Value} (h : Bx w B n m (t :: r) c2 c3 c4 c5) (s : ByteArray) (hs : signB (t :: r) = s) :
    Calls Tryz.prog 133 #[.pointer (some ⟨B, 0, none⟩), .string s] w fun e w' => e = .returned (.tuple #[]) ∧ Bx w' B n m r c2 c3 c4 c5 ∧ Only [B] w w' := by
  have ha := skip_yes h s hs
  clear h hs
  go_enter Tryz.func133, Tryz.ntmps133
  go_wp2_with fail
  refine ha.mono ?_
  rintro e W1 ⟨rfl, h1, h2⟩
  have H := hid (And.intro h1 h2)
  clear ha h1 h2
  go_wp2
  refine bodyPost_end (results_none rfl _ _ _) rfl ?_
  exact ⟨rfl, H.out.1, H.out.2⟩
theorem must_no {w : World} {B n m : Nat} {l : List Tk} {c2 c3 c4 c5 : Value} (h : Bx w B n m l c2 c3 c4 c5) (s : ByteArray) (hs : signB l ≠ s) :
    Calls Tryz.prog 133 #[.pointer (some ⟨B, 0, none⟩), .string s] w fun e w' => e = .panicked misfit ∧ Below w.heap.size w w' := by
  have ha := skip_no h s hs
  clear h hs
  go_enter Tryz.func133, Tryz.ntmps133
  go_wp2_with fail
  refine ha.mono ?_
  rintro e W1 ⟨rfl, hb⟩
  have HB := hid hb
  clear ha hb
  go_wp2
  exact ⟨rfl, rfl, HB.out⟩
theorem tok_box {X : World} {g : Nat} {u v s : Value} (h : X.heap[g]? = some (.cells #[u, v, s] 57 (0, 0))) (x y z : Value) :
    (((X.setCell ⟨g, 0, none⟩ x).setCell ⟨g, 1, none⟩ y).setCell ⟨g, 2, none⟩ z).cell? ⟨g, 0, none⟩ = some x ∧ (((X.setCell ⟨g, 0, none⟩ x).setCell ⟨g, 1, none⟩ y).setCell ⟨g, 2, none⟩ z).cell? ⟨g, 1, none⟩ = some y ∧ (((X.setCell ⟨g, 0, none⟩ x).setCell ⟨g, 1, none⟩ y).setCell ⟨g, 2, none⟩ z).cell? ⟨g, 2, none⟩ = some z := by
  have e1 := heap_setCell_same X g 0 _ 57 x h
  have e2 := heap_setCell_same _ g 1 _ 57 y e1
  have e3 := heap_setCell_same _ g 2 _ 57 z e2
  have e4 : (((X.setCell ⟨g, 0, none⟩ x).setCell ⟨g, 1, none⟩ y).setCell ⟨g, 2, none⟩ z).heap[g]? = some (.cells #[x, y, z] 57 (0, 0)) := by simpa using e3
  exact ⟨cell_store (vs := [_, _, _]) e4 rfl, cell_store (vs := [_, _, _]) e4 rfl, cell_store (vs := [_, _, _]) e4 rfl⟩
theorem take_yes {w : World} {B n m : Nat} {t : Tk} {r : List Tk} {c2 c3 c4 c5 : Value} (h : Bx w B n m (t :: r) c2 c3 c4 c5) :
    Calls Tryz.prog 207 #[.pointer (some ⟨B, 0, none⟩), .int .i64 t.k] w fun e w' => e = .returned (tokV n (t :: r)) ∧ Bx w' B n m r c2 c3 c4 c5 ∧ Only [B] w w' := by
  have hb0 := below_box w (.cells #[.int .i64 0, .int .i64 0, .string ⟨#[]⟩] 57)
  obtain ⟨b, o, c, y0, y1, y2, x1, x2, y3⟩ := h.tail
  have hBl := (Array.getElem?_eq_some_iff.1 y2).1
  have h0 := h.keep hb0
  have hz := (MapKept.heap_alloc w (.cells #[.int .i64 0, .int .i64 0, .string ⟨#[]⟩] 57)).1
  obtain ⟨W0, hW0⟩ : ∃ X, w.alloc (.cells #[.int .i64 0, .int .i64 0, .string ⟨#[]⟩] 57) = X := ⟨_, rfl⟩
  rw [hW0] at h0 hb0 hz
  obtain ⟨k, hk⟩ : ∃ k, t.k = k := ⟨_, rfl⟩
  obtain ⟨tx, htx⟩ : ∃ x, ofL t.t = x := ⟨_, rfl⟩
  have ha : Calls Tryz.prog 56 #[.pointer (some ⟨B, 0, none⟩)] W0 fun e w' => e = .returned (.agg #[.int .i64 k, .int .i64 (t.a : Nat), .string tx]) ∧ Below W0.heap.size W0 w' := by rw [← hk, ← htx]; exact ahead_any h0
  have HV : Hid (tokV n (t :: r) = .agg #[.int .i64 k, .int .i64 (t.a : Nat), .string tx]) := by show Value.agg #[.int .i64 t.k, _, .string (ofL t.t)] = _; rw [hk, htx]
  have H0 : Hid (Below w.heap.size w W0 ∧ W0.heap[w.heap.size]? = some (.cells #[.int .i64 0, .int .i64 0, .string ⟨#[]⟩] 57 (0, 0)) ∧ b < w.heap.size ∧ b ≠ B ∧ B < w.heap.size ∧ w.heap[B]? = some (.cells #[.slice (some ⟨b, o, none⟩) (r.length + 1) c, .int .i64 (n : Nat), c2, c3, c4, c5] 55 (0, 0))) := ⟨hb0, hz, y0, y1, hBl, y2⟩
  have H3 : Hid (∀ W' o', (r.length ≠ 0 → o' = o + 3) → W'.heap[b]? = w.heap[b]? → w.heap.size ≤ W'.heap.size → W'.heap[B]? = some (.cells #[.slice (some ⟨b, o', none⟩) r.length (c - 1), .int .i64 (n : Nat), c2, c3, c4, c5] 55 (0, 0)) → Bx W' B n m r c2 c3 c4 c5) := y3
  rw [hk]
  clear h h0 hb0 hz hk htx y0 y1 y2 y3 hBl
  go_enter Tryz.func207, Tryz.ntmps207
  go_upto_region 1 with fail
  try rw [hW0]
  clear hW0
  go_wp2_with fail
  refine ha.mono ?_
  rintro e W1 ⟨rfl, hb1⟩
  have hb2 := below_box W1 (.cells #[.int .i64 k, .int .i64 (t.a : Nat), .string tx] 57)
  obtain ⟨t0, t1, t2⟩ : (W1.alloc (.cells #[.int .i64 k, .int .i64 (t.a : Nat), .string tx] 57)).cell? ⟨W1.heap.size, 0, none⟩ = some (.int .i64 k) ∧ (W1.alloc (.cells #[.int .i64 k, .int .i64 (t.a : Nat), .string tx] 57)).cell? ⟨W1.heap.size, 1, none⟩ = some (.int .i64 (t.a : Nat)) ∧ (W1.alloc (.cells #[.int .i64 k, .int .i64 (t.a : Nat), .string tx] 57)).cell? ⟨W1.heap.size, 2, none⟩ = some (.string tx) := by
    have := (MapKept.heap_alloc W1 (.cells #[.int .i64 k, .int .i64 (t.a : Nat), .string tx] 57)).1
    exact ⟨cell_store (vs := [_, _, _]) this rfl, cell_store (vs := [_, _, _]) this rfl, cell_store (vs := [_, _, _]) this rfl⟩
  have hz1 := (hb1.block w.heap.size (Array.getElem?_eq_some_iff.1 H0.out.2.1).1).trans H0.out.2.1
  have hs0 := H0.out.1.size
  have hs1 := hb1.size
  have hzl := (Array.getElem?_eq_some_iff.1 H0.out.2.1).1
  go_upto_region 2 with fail
  obtain ⟨W2, hW2⟩ : ∃ X, W1.alloc (.cells #[.int .i64 k, .int .i64 (t.a : Nat), .string tx] 57) = X := ⟨_, rfl⟩
  rw [hW2] at hb2 t0 t1 t2 ⊢
  have hz2 := (hb2.block w.heap.size (by omega)).trans hz1
  have hb12 : Below w.heap.size w W2 := (H0.out.1.trans (hb1.mono hs0)).trans (hb2.mono (by omega))
  have hB2 := (hb12.block B H0.out.2.2.2.2.1).trans H0.out.2.2.2.2.2
  have x0 : W2.cell? ⟨B, 0, none⟩ = some (.slice (some ⟨b, o, none⟩) (r.length + 1) c) := cell_store (vs := [_, _, _, _, _, _]) hB2 rfl
  have x3 : W2.frozen? ⟨B, 0, none⟩ = false := frozen_cells hB2
  have HZ : Hid (∀ v, (W2.setCell ⟨B, 0, none⟩ v).heap[w.heap.size]? = some (.cells #[.int .i64 0, .int .i64 0, .string ⟨#[]⟩] 57 (0, 0)) ∧ (W2.setCell ⟨B, 0, none⟩ v).cell? ⟨W1.heap.size, 0, none⟩ = some (.int .i64 k) ∧ (W2.setCell ⟨B, 0, none⟩ v).cell? ⟨W1.heap.size, 1, none⟩ = some (.int .i64 (t.a : Nat)) ∧ (W2.setCell ⟨B, 0, none⟩ v).cell? ⟨W1.heap.size, 2, none⟩ = some (.string tx)) := fun v => by
    have hBl := H0.out.2.2.2.2.1
    have hk : (W2.setCell ⟨B, 0, none⟩ v).heap[W1.heap.size]? = W2.heap[W1.heap.size]? := Below.heap_setCell _ _ _ _ (by show W1.heap.size ≠ B; omega)
    exact ⟨(Below.heap_setCell _ _ _ _ (by show w.heap.size ≠ B; omega)).trans hz2, (World.cell?_of_block (a := ⟨_, 0, none⟩) hk).trans t0, (World.cell?_of_block (a := ⟨_, 1, none⟩) hk).trans t1, (World.cell?_of_block (a := ⟨_, 2, none⟩) hk).trans t2⟩
  have HF : Hid (∀ o', (r.length ≠ 0 → o' = o + 3) → ∀ x y z, Bx ((((W2.setCell ⟨B, 0, none⟩ (.slice (some ⟨b, o', none⟩) r.length (c - 1))).setCell ⟨w.heap.size, 0, none⟩ x).setCell ⟨w.heap.size, 1, none⟩ y).setCell ⟨w.heap.size, 2, none⟩ z) B n m r c2 c3 c4 c5 ∧ Only [B] w ((((W2.setCell ⟨B, 0, none⟩ (.slice (some ⟨b, o', none⟩) r.length (c - 1))).setCell ⟨w.heap.size, 0, none⟩ x).setCell ⟨w.heap.size, 1, none⟩ y).setCell ⟨w.heap.size, 2, none⟩ z)) := fun o' ho x y z => by
    have hBl := H0.out.2.2.2.2.1
    have key : ∀ q, q ≠ w.heap.size → ((((W2.setCell ⟨B, 0, none⟩ (.slice (some ⟨b, o', none⟩) r.length (c - 1))).setCell ⟨w.heap.size, 0, none⟩ x).setCell ⟨w.heap.size, 1, none⟩ y).setCell ⟨w.heap.size, 2, none⟩ z).heap[q]? = (W2.setCell ⟨B, 0, none⟩ (.slice (some ⟨b, o', none⟩) r.length (c - 1))).heap[q]? := fun q hq =>
      (Below.heap_setCell _ _ _ q hq).trans ((Below.heap_setCell _ _ _ q hq).trans (Below.heap_setCell _ _ _ q hq))
    have hsz := hb12.size
    refine ⟨H3.out _ o' ho ((key b (by have := H0.out.2.2.1; omega)).trans ((Below.heap_setCell _ _ _ b H0.out.2.2.2.1).trans (hb12.block b H0.out.2.2.1))) (by simpa using hsz) ((key B (by omega)).trans ?_), hb12.os, hb12.tape, hb12.output, by simpa using hsz, fun q hq hn => ?_⟩
    · have := heap_setCell_same W2 B 0 _ 55 (.slice (some ⟨b, o', none⟩) r.length (c - 1)) hB2
      simpa using this
    · exact (key q (by omega)).trans ((Below.heap_setCell _ _ _ q (fun e => hn (by rw [e]; simp))).trans (hb12.block q hq))
  clear ha hb1 hb2 hz1 hz2 hzl hB2 hW2 hb12 hs0 hs1
  by_cases hc1 : c = 1
  · subst hc1
    have hr : r.length = 0 := by omega
    rw [hr] at x0 HF
    obtain ⟨z0, z1, z2, z3⟩ := HZ.out (.slice (some ⟨b, o, none⟩) 0 0)
    have zf : ∀ j, (W2.setCell ⟨B, 0, none⟩ (.slice (some ⟨b, o, none⟩) 0 0)).frozen? ⟨w.heap.size, j, none⟩ = false := fun j => frozen_cells z0
    have zf0 := zf 0
    have zf1 := zf 1
    have zf2 := zf 2
    obtain ⟨q0, q1, q2⟩ : (W2.setCell ⟨B, 0, none⟩ (.slice (some ⟨b, o, none⟩) 0 0)).cell? ⟨w.heap.size, 0, none⟩ = some (.int .i64 0) ∧ (W2.setCell ⟨B, 0, none⟩ (.slice (some ⟨b, o, none⟩) 0 0)).cell? ⟨w.heap.size, 1, none⟩ = some (.int .i64 0) ∧ (W2.setCell ⟨B, 0, none⟩ (.slice (some ⟨b, o, none⟩) 0 0)).cell? ⟨w.heap.size, 2, none⟩ = some (.string ⟨#[]⟩) := ⟨cell_store (vs := [_, _, _]) z0 rfl, cell_store (vs := [_, _, _]) z0 rfl, cell_store (vs := [_, _, _]) z0 rfl⟩
    have HX := hid (tok_box z0 (.int .i64 k) (.int .i64 (t.a : Nat)) (.string tx))
    clear zf z0
    go_wp2
    obtain ⟨p0, p1, p2⟩ := HX.out
    refine bodyPost_ret (v := .agg #[.int .i64 k, .int .i64 (t.a : Nat), .string tx]) (by simp [results, Tryz.results207, go_sem, p0, p1, p2]) rfl ?_
    exact ⟨by rw [HV.out], HF.out o (fun h => absurd rfl h) _ _ _⟩
  · obtain ⟨z0, z1, z2, z3⟩ := HZ.out (.slice (some ⟨b, o + 3, none⟩) r.length (c - 1))
    have zf : ∀ j, (W2.setCell ⟨B, 0, none⟩ (.slice (some ⟨b, o + 3, none⟩) r.length (c - 1))).frozen? ⟨w.heap.size, j, none⟩ = false := fun j => frozen_cells z0
    have zf0 := zf 0
    have zf1 := zf 1
    have zf2 := zf 2
    obtain ⟨q0, q1, q2⟩ : (W2.setCell ⟨B, 0, none⟩ (.slice (some ⟨b, o + 3, none⟩) r.length (c - 1))).cell? ⟨w.heap.size, 0, none⟩ = some (.int .i64 0) ∧ (W2.setCell ⟨B, 0, none⟩ (.slice (some ⟨b, o + 3, none⟩) r.length (c - 1))).cell? ⟨w.heap.size, 1, none⟩ = some (.int .i64 0) ∧ (W2.setCell ⟨B, 0, none⟩ (.slice (some ⟨b, o + 3, none⟩) r.length (c - 1))).cell? ⟨w.heap.size, 2, none⟩ = some (.string ⟨#[]⟩) := ⟨cell_store (vs := [_, _, _]) z0 rfl, cell_store (vs := [_, _, _]) z0 rfl, cell_store (vs := [_, _, _]) z0 rfl⟩
    have HX := hid (tok_box z0 (.int .i64 k) (.int .i64 (t.a : Nat)) (.string tx))
    clear zf z0
    go_wp2
    obtain ⟨p0, p1, p2⟩ := HX.out
    refine bodyPost_ret (v := .agg #[.int .i64 k, .int .i64 (t.a : Nat), .string tx]) (by simp [results, Tryz.results207, go_sem, p0, p1, p2]) rfl ?_
    exact ⟨by rw [HV.out], HF.out (o + 3) (fun _ => rfl) _ _ _⟩
theorem take_no {w : World} {B n m : Nat} {l : List Tk} {c2 c3 c4 c5 : Value} (h : Bx w B n m l c2 c3 c4 c5) (k : Int) (hk : isK k l = false) (hk0 : k ≠ 0) :
    Calls Tryz.prog 207 #[.pointer (some ⟨B, 0, none⟩), .int .i64 k] w fun e w' => e = .panicked misfit ∧ Below w.heap.size w w' := by
  have hb0 := below_box w (.cells #[.int .i64 0, .int .i64 0, .string ⟨#[]⟩] 57)
  have h0 := h.keep hb0
  obtain ⟨W0, hW0⟩ : ∃ X, w.alloc (.cells #[.int .i64 0, .int .i64 0, .string ⟨#[]⟩] 57) = X := ⟨_, rfl⟩
  rw [hW0] at h0 hb0
  obtain ⟨k', a', x', hv, hne⟩ : ∃ (k' : Int) (a' : Nat) (x' : ByteArray), tokV n l = .agg #[.int .i64 k', .int .i64 (a' : Nat), .string x'] ∧ k' ≠ k := by
    cases l with
    | nil => exact ⟨0, n, _, rfl, fun e => hk0 e.symm⟩
    | cons t r => exact ⟨t.k, t.a, _, rfl, by simpa [isK] using hk⟩
  have ha : Calls Tryz.prog 56 #[.pointer (some ⟨B, 0, none⟩)] W0 fun e w' => e = .returned (.agg #[.int .i64 k', .int .i64 (a' : Nat), .string x']) ∧ Below W0.heap.size W0 w' := by rw [← hv]; exact ahead_any h0
  have hkb : (k' != k) = true := by rw [bne_iff_ne]; exact hne
  have H0 := hid hb0
  clear h h0 hb0 hk hk0 hv hne
  go_enter Tryz.func207, Tryz.ntmps207
  go_upto_region 1 with fail
  try rw [hW0]
  clear hW0
  go_wp2_with fail
  refine ha.mono ?_
  rintro e W1 ⟨rfl, hb1⟩
  have HB : Hid (Below w.heap.size w (W1.alloc (.cells #[.int .i64 k', .int .i64 (a' : Nat), .string x'] 57))) := H0.out.trans ((hb1.mono H0.out.size).trans ((below_box W1 _).mono (Nat.le_trans H0.out.size hb1.size)))
  clear ha hb1
  go_wp2
  exact ⟨rfl, rfl, HB.out⟩
