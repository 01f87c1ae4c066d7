/-
  The variables of a term: the document's with, vars, Vars; Ints.
-/
import Derived.Test.YtgnjgpplelakkaaLV
import Derived.Test.YtgnjgpplelakkaaL
import Derived.BigQuiet
namespace Go.Proofs.Ytgnjgpplelakkaa
open Go.RowKit Go.Shelf

/-- One step of the document's with. -/
def wstep (n : Int) (s : List Int × Bool) (x : Int) : List Int × Bool :=
  let s' := if s.2 = false ∧ n ≤ x then (s.1 ++ [n], true) else s
  if x = n then s' else (s'.1 ++ [x], s'.2)
def wst (n : Int) (l : List Int) : List Int × Bool := l.foldl (wstep n) ([], false)
/-- The document's with: a number more, in its place. -/
def wth (l : List Int) (n : Int) : List Int := if (wst n l).2 then (wst n l).1 else (wst n l).1 ++ [n]

theorem wst_succ (n : Int) (l : List Int) (i : Nat) (h : i < l.length) : wst n (l.take (i + 1)) = wstep n (wst n (l.take i)) l[i] := by
  unfold wst
  rw [List.take_succ_eq_append_getElem h, List.foldl_append]
  rfl

theorem wst_len (n : Int) (l : List Int) : (wst n l).1.length ≤ l.length + (wst n l).2.toNat := by
  suffices H : ∀ (l : List Int) (s : List Int × Bool) (k : Nat), s.1.length ≤ k + s.2.toNat → (l.foldl (wstep n) s).1.length ≤ k + l.length + (l.foldl (wstep n) s).2.toNat by
    have := H l ([], false) 0 (by simp)
    simpa [wst] using this
  intro l
  induction l with
  | nil => intro s k h; simpa using h
  | cons x r ih =>
    intro s k h
    have := ih (wstep n s x) (k + 1) (by
      obtain ⟨o, b⟩ := s
      unfold wstep
      cases b <;> by_cases h1 : n ≤ x <;> by_cases h2 : x = n <;> simp [h1, h2] at h ⊢ <;> omega)
    simp only [List.foldl_cons, List.length_cons]
    omega

theorem wth_len (l : List Int) (n : Int) : (wth l n).length ≤ l.length + 1 := by
  have := wst_len n l
  unfold wth
  cases h : (wst n l).2 <;> simp [h] at this ⊢ <;> omega

theorem row_form {W : World} {b : Nat} {e : TypeId} {s : Nat} {v : Value} {n : Nat} {xs : List Value} (h : W.ownsRow b e s v n xs) : ∃ a c, v = .slice a n c := by
  rcases h.2 with ⟨rfl, h0⟩ | ⟨g, cap, cur, rfl, _⟩
  · exact ⟨none, 0, by rw [h0]⟩
  · exact ⟨_, _, rfl⟩

theorem row_get {W : World} {b : Nat} {p : Option Addr} {c : Nat} {l : List Int} (h : W.ownsRow b 3 1 (.slice p l.length c) l.length (l.map (Value.int .i64))) {i : Nat} (hi : i < l.length) : ∃ g, p = some ⟨g, 0, none⟩ ∧ g < W.heap.size ∧ b ≤ g ∧ W.cell? ⟨g, i, none⟩ = some (.int .i64 l[i]) := by
  rcases h.2 with ⟨e0, h0⟩ | ⟨g, cap, cur, e0, hb, hg, hn, hm, hs, ht⟩
  · omega
  · cases e0
    have := h.cells rfl i (.int .i64 l[i]) (by simp [hi])
    have ea : (⟨g, 0, none⟩ : Addr).add i = ⟨g, i, none⟩ := by unfold Addr.add; split <;> simp_all
    rw [ea] at this
    have hc : W.cell? ⟨g, i, none⟩ = some (.int .i64 l[i]) := this
    exact ⟨g, rfl, World.block_lt_of_cell? W _ hc, hb, hc⟩

theorem row_below {W W' : World} {b : Nat} {e : TypeId} {s : Nat} {v : Value} {n : Nat} {xs : List Value} (h : W.ownsRow b e s v n xs) (hb : Below W.heap.size W W') : W'.ownsRow b e s v n xs :=
  h.kept (row := none) ⟨hb.os, hb.tape, hb.output, hb.size, fun k hk _ => hb.block k hk⟩ (by cases v.ownBlock <;> simp)

theorem row_low {W : World} {b b' : Nat} {e : TypeId} {s : Nat} {v : Value} {n : Nat} {xs : List Value} (h : W.ownsRow b e s v n xs) (hb : b' ≤ b) : W.ownsRow b' e s v n xs := by
  refine ⟨h.1, ?_⟩
  rcases h.2 with h0 | ⟨g, cap, cur, e0, hg, r⟩
  · exact .inl h0
  · exact .inr ⟨g, cap, cur, e0, Nat.le_trans hb hg, r⟩

/-- What a loop has collected so far. -/
structure WI (w : World) (v : Value) (k : Nat) (xs : List Int) (W : World) : Prop where
  row : W.ownsRow w.heap.size 3 1 v k (xs.map (Value.int .i64))
  bel : Below w.heap.size w W

theorem WI.len {w : World} {v : Value} {k : Nat} {xs : List Int} {W : World} (h : WI w v k xs W) : xs.length = k := by simpa using h.row.1

theorem WI.push {w : World} {v : Value} {k : Nat} {xs : List Int} {W : World} (h : WI w v k xs W) (y : Int) (v' : Value) (w3 : World) (hown : w3.ownsRow w.heap.size 3 1 v' (k + 1) (xs.map (Value.int .i64) ++ [.int .i64 y])) (hg : (W.alloc (.cells #[.int .i64 y] 3)).grownBy w3 v.ownBlock) : WI w v' (k + 1) (xs ++ [y]) w3 := by
  refine ⟨by simpa using hown, h.bel.trans (((below_box W _).mono h.bel.size).trans ⟨hg.os, hg.tape, hg.output, hg.size, fun j hj => hg.block j (by have := h.bel.size; simp; omega) (fun e => by have := (h.row.lt j e.symm).1; omega)⟩)⟩

theorem WI.al {w : World} {v : Value} {k : Nat} {xs : List Int} {W : World} (h : WI w v k xs W) (o : Obj) : (W.alloc o).ownsRow w.heap.size 3 1 v k (xs.map (Value.int .i64)) := row_below h.row (below_box W o)
theorem WI.up {w : World} {v : Value} {k : Nat} {xs : List Int} {W : World} (h : WI w v k xs W) (o : Obj) : w.heap.size ≤ (W.alloc o).heap.size := by have := h.bel.size; simp; omega

set_option maxRecDepth 100000 in
set_option maxHeartbeats 2000000 in
theorem with_any (base : Nat) (v : Value) (l : List Int) (n : Int) (w : World) (h : w.ownsRow base 3 1 v l.length (l.map (Value.int .i64))) (hl : l.length ≤ 1048576) :
    Calls Try.prog 108 #[v, .int .i64 n] w fun e w' => ∃ v' k, e = .returned v' ∧ WI w v' k (wth l n) w' := by
  obtain ⟨p, c, rfl⟩ := row_form h
  have HL : Hid (w.ownsRow base 3 1 (.slice p l.length c) l.length (l.map (Value.int .i64))) := h
  clear h
  obtain ⟨i0, hi, hz0, hz1, hz2⟩ := info_parts Try.info3
  go_enter Try.func108, Try.ntmps108
  go_wp2
  go_loopw [5, 6, 7] (fun vo vi ii wr => ∃ (i k : Nat), ii = .int .i64 i ∧ i ≤ l.length ∧ vi = .bool (wst n (l.take i)).2 ∧ WI w vo k (wst n (l.take i)).1 wr) (fun _ _ ii _ => l.length - (intOf ii).toNat)
  case atStart => exact ⟨0, 0, rfl, Nat.zero_le _, rfl, World.ownsRow_nil _ _ _ _, Below.refl _ _⟩
  case round =>
    obtain ⟨i, k, rfl, hi', rfl, hW⟩ := hrel
    have hlen := wst_len n (l.take i)
    rw [hW.len] at hlen
    have hk : k ≤ i + 1 := by
      have hb : (wst n (l.take i)).2.toNat ≤ 1 := by cases (wst n (l.take i)).2 <;> simp
      rw [List.length_take] at hlen
      omega
    clear hlen
    obtain ⟨pa, pc, rfl⟩ := row_form hW.row
    by_cases hlt : i < l.length
    · have HS : Hid (wst n (l.take (i + 1)) = _) := wst_succ n l i hlt
      obtain ⟨g, rfl, hg, _, hc0⟩ := row_get HL.out hlt
      have hc := (hW.bel.cell (p := ⟨g, i, none⟩) hg).trans hc0
      obtain ⟨⟨xs, inn⟩, hst⟩ : ∃ s, wst n (l.take i) = s := ⟨_, rfl⟩
      rw [hst] at hW HS
      simp only [hst]
      obtain ⟨x, hx⟩ : ∃ x, l[i] = x := ⟨_, rfl⟩
      rw [hx] at hc hc0 HS
      have HG : Hid (g < w.heap.size ∧ w.cell? ⟨g, i, none⟩ = some (.int .i64 x)) := ⟨hg, hc0⟩
      clear hg hc0
      clear hst hx
      have HW : Hid (WI w (.slice pa k pc) k xs wr) := hW
      clear hW
      cases inn
      · by_cases h1 : n ≤ x
        · by_cases h2 : x = n
          · have he : Hid (wst n (l.take (i + 1)) = (xs ++ [n], true)) := by show wst n (l.take (i + 1)) = _; rw [HS]; simp [wstep, h2]
            clear HS
            go_wp2_with (first
              | (at_builtin; refine wpList_append_own_at _ rfl _ _ 33 rfl w.heap.size 3 i0 (.int .i64 0) 1 8 Try.underlying33 hi hz0 hz1 hz2 rfl (by decide) _ _ _ rfl (HW.out.al (.cells #[.int .i64 n] 3)) ⟨wr.heap.size, 0, none⟩ 1 1 [.int .i64 n] rfl rfl (cell_one_new _ _ _) (by simp [Value.oneCell']) (by unfold maxLen; omega) (by omega) (HW.out.up _) ?_; intro v3 w3 h2 h3 _ _; have HI3 := HW.out.push n v3 w3 h2 h3; obtain ⟨pa3, pc3, rfl⟩ := row_form h2; have HI3 : Hid (WI w _ _ _ w3) := HI3; have hc3 := (HI3.out.bel.cell (p := ⟨g, i, none⟩) HG.out.1).trans HG.out.2; clear h2 h3))
            go_roundw
            case rel => exact ⟨i + 1, k + 1, by go_num, by omega, by rw [he], by rw [he]; exact HI3⟩
            case measure => simp [intOf]; omega
          · have he : Hid (wst n (l.take (i + 1)) = (xs ++ [n] ++ [x], true)) := by show wst n (l.take (i + 1)) = _; rw [HS]; simp [wstep, h1, h2]
            clear HS
            go_wp2_with (first
              | (at_builtin; refine wpList_append_own_at _ rfl _ _ 33 rfl w.heap.size 3 i0 (.int .i64 0) 1 8 Try.underlying33 hi hz0 hz1 hz2 rfl (by decide) _ _ _ rfl (HI3.out.al (.cells #[.int .i64 x] 3)) ⟨w3.heap.size, 0, none⟩ 1 1 [.int .i64 x] rfl rfl (cell_one_new _ _ _) (by simp [Value.oneCell']) (by unfold maxLen; omega) (by omega) (HI3.out.up _) ?_; intro v4 w4 h2 h3 _ _; have HI4 := HI3.out.push x v4 w4 h2 h3; obtain ⟨pa4, pc4, rfl⟩ := row_form h2; have HI4 : Hid (WI w _ _ _ w4) := HI4; clear h2 h3)
              | (at_builtin; refine wpList_append_own_at _ rfl _ _ 33 rfl w.heap.size 3 i0 (.int .i64 0) 1 8 Try.underlying33 hi hz0 hz1 hz2 rfl (by decide) _ _ _ rfl (HW.out.al (.cells #[.int .i64 n] 3)) ⟨wr.heap.size, 0, none⟩ 1 1 [.int .i64 n] rfl rfl (cell_one_new _ _ _) (by simp [Value.oneCell']) (by unfold maxLen; omega) (by omega) (HW.out.up _) ?_; intro v3 w3 h2 h3 _ _; have HI3 := HW.out.push n v3 w3 h2 h3; obtain ⟨pa3, pc3, rfl⟩ := row_form h2; have HI3 : Hid (WI w _ _ _ w3) := HI3; have hc3 := (HI3.out.bel.cell (p := ⟨g, i, none⟩) HG.out.1).trans HG.out.2; clear h2 h3))
            go_roundw
            case rel => exact ⟨i + 1, k + 1 + 1, by go_num, by omega, by rw [he], by rw [he]; exact HI4⟩
            case measure => simp [intOf]; omega
        · have h2 : ¬ x = n := by omega
          have h3 : x < n := by omega
          have he : Hid (wst n (l.take (i + 1)) = (xs ++ [x], false)) := by show wst n (l.take (i + 1)) = _; rw [HS]; simp [wstep, h1, h2]
          clear HS
          go_wp2_with (first
            | (at_builtin; refine wpList_append_own_at _ rfl _ _ 33 rfl w.heap.size 3 i0 (.int .i64 0) 1 8 Try.underlying33 hi hz0 hz1 hz2 rfl (by decide) _ _ _ rfl (HW.out.al (.cells #[.int .i64 x] 3)) ⟨wr.heap.size, 0, none⟩ 1 1 [.int .i64 x] rfl rfl (cell_one_new _ _ _) (by simp [Value.oneCell']) (by unfold maxLen; omega) (by omega) (HW.out.up _) ?_; intro v3 w3 h2 h3 _ _; have HI3 := HW.out.push x v3 w3 h2 h3; obtain ⟨pa3, pc3, rfl⟩ := row_form h2; have HI3 : Hid (WI w _ _ _ w3) := HI3; have hc3 := (HI3.out.bel.cell (p := ⟨g, i, none⟩) HG.out.1).trans HG.out.2; clear h2 h3))
          go_roundw
          case rel => exact ⟨i + 1, k + 1, by go_num, by omega, by rw [he], by rw [he]; exact HI3⟩
          case measure => simp [intOf]; omega
      · by_cases h2 : x = n
        · have he : Hid (wst n (l.take (i + 1)) = (xs, true)) := by show wst n (l.take (i + 1)) = _; rw [HS]; simp [wstep, h2]
          clear HS
          go_wp2
          go_roundw
          case rel => exact ⟨i + 1, k, by go_num, by omega, by rw [he], by rw [he]; exact HW⟩
          case measure => simp [intOf]; omega
        · have he : Hid (wst n (l.take (i + 1)) = (xs ++ [x], true)) := by show wst n (l.take (i + 1)) = _; rw [HS]; simp [wstep, h2]
          clear HS
          go_wp2_with (first
            | (at_builtin; refine wpList_append_own_at _ rfl _ _ 33 rfl w.heap.size 3 i0 (.int .i64 0) 1 8 Try.underlying33 hi hz0 hz1 hz2 rfl (by decide) _ _ _ rfl (HW.out.al (.cells #[.int .i64 x] 3)) ⟨wr.heap.size, 0, none⟩ 1 1 [.int .i64 x] rfl rfl (cell_one_new _ _ _) (by simp [Value.oneCell']) (by unfold maxLen; omega) (by omega) (HW.out.up _) ?_; intro v3 w3 h2 h3 _ _; have HI3 := HW.out.push x v3 w3 h2 h3; obtain ⟨pa3, pc3, rfl⟩ := row_form h2; have HI3 : Hid (WI w _ _ _ w3) := HI3; have hc3 := (HI3.out.bel.cell (p := ⟨g, i, none⟩) HG.out.1).trans HG.out.2; clear h2 h3))
          go_roundw
          case rel => exact ⟨i + 1, k + 1, by go_num, by omega, by rw [he], by rw [he]; exact HI3⟩
          case measure => simp [intOf]; omega
    · have hle : l.take i = l := List.take_of_length_le (by omega)
      rw [hle] at hW ⊢
      obtain ⟨⟨xs, inn⟩, hst⟩ : ∃ s, wst n l = s := ⟨_, rfl⟩
      rw [hst] at hW
      simp only [hst]
      clear hle
      have HW : Hid (WI w (.slice pa k pc) k xs wr) := hW
      clear hW
      cases inn
      · have he : Hid (wth l n = xs ++ [n]) := by show wth l n = _; unfold wth; rw [hst]; rfl
        clear hst
        go_wp2_with (first
          | (at_builtin; refine wpList_append_own_at _ rfl _ _ 33 rfl w.heap.size 3 i0 (.int .i64 0) 1 8 Try.underlying33 hi hz0 hz1 hz2 rfl (by decide) _ _ _ rfl (HW.out.al (.cells #[.int .i64 n] 3)) ⟨wr.heap.size, 0, none⟩ 1 1 [.int .i64 n] rfl rfl (cell_one_new _ _ _) (by simp [Value.oneCell']) (by unfold maxLen; omega) (by omega) (HW.out.up _) ?_; intro v3 w3 h2 h3 _ _; have HI3 := HW.out.push n v3 w3 h2 h3; obtain ⟨pa3, pc3, rfl⟩ := row_form h2; have HI3 : Hid (WI w _ _ _ w3) := HI3; clear h2 h3))
        go_ret
        exact ⟨_, _, rfl, by rw [he]; exact HI3⟩
      · have he : Hid (wth l n = xs) := by show wth l n = _; unfold wth; rw [hst]; rfl
        clear hst
        go_wp2
        go_ret
        exact ⟨_, _, rfl, by rw [he]; exact HW⟩

end Go.Proofs.Ytgnjgpplelakkaa
