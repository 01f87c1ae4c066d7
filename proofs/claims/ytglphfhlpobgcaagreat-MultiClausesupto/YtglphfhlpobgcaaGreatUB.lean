import Derived.Test.YtglphfhlpobgcaaGreatLV
import Derived.Test.YtglphfhlpobgcaaGreatL
import Derived.BigQuiet
namespace Go.Proofs.YtglphfhlpobgcaaGreat
set_option maxRecDepth 100000
set_option maxHeartbeats 2000000
open Go.RowKit Go.Shelf
def wstep (n : Int) (s : List Int × Bool) (x : Int) : List Int × Bool :=
 let s' := if s.2 = false ∧ n <= x then (s.1 ++ [n], true) else s
 if x = n then s' else (s'.1 ++ [x], s'.2)
def wst (n : Int) (l : List Int) : List Int × Bool := l.foldl (wstep n) ([], false)
def wth (l : List Int) (n : Int) : List Int := if (wst n l).2 then (wst n l).1 else (wst n l).1 ++ [n]
theorem wst_succ (n : Int) (l : List Int) (i : Nat) (h : i < l.length) : wst n (l.take (i + 1)) = wstep n (wst n (l.take i)) l[i] := by
 unfold wst
 rw [List.take_succ_eq_append_getElem h, List.foldl_append]
 rfl
theorem wst_len (n : Int) (l : List Int) : (wst n l).1.length <= l.length + (wst n l).2.toNat := by
 suffices H : ∀ (l : List Int) (s : List Int × Bool) (k : Nat), s.1.length <= k + s.2.toNat -> (l.foldl (wstep n) s).1.length <= k + l.length + (l.foldl (wstep n) s).2.toNat by
  have := H l ([], false) 0 (by simp)
  simpa [wst] using this
 intro l
 induction l with
 | nil => intro s k h; simpa using h
 | cons x r ih =>
  intro s k h
  have := ih (wstep n s x) (k + 1) (by
   obtain ⟨o, b⟩ := s
   unfold wstep
   cases b <;> by_cases h1 : n <= x <;> by_cases h2 : x = n <;> simp [h1, h2] at h ⊢ <;> omega)
  simp only [List.foldl_cons, List.length_cons]
  omega
theorem wth_len (l : List Int) (n : Int) : (wth l n).length <= l.length + 1 := by
 have := wst_len n l
 unfold wth
 cases h : (wst n l).2 <;> simp [h] at this ⊢ <;> omega
theorem row_form {W : World} {b : Nat} {e : TypeId} {s : Nat} {v : Value} {n : Nat} {xs : List Value} (h : W.ownsRow b e s v n xs) : ∃ a c, v = .slice a n c := by
 rcases h.2 with ⟨rfl, h0⟩ | ⟨g, cap, cur, rfl, _⟩
 ·exact ⟨none, 0, by rw [h0]⟩
 ·exact ⟨_, _, rfl⟩
theorem row_get {W : World} {b : Nat} {p : Option Addr} {c : Nat} {l : List Int} (h : W.ownsRow b 3 1 (.slice p l.length c) l.length (l.map (Value.int .i64))) {i : Nat} (hi : i < l.length) : ∃ g, p = some ⟨g, 0, none⟩ ∧ g < W.heap.size ∧ b <= g ∧ W.cell? ⟨g, i, none⟩ = some (.int .i64 l[i]) := by
 rcases h.2 with ⟨e0, h0⟩ | ⟨g, cap, cur, e0, hb, hg, hn, hm, hs, ht⟩
 ·omega
 ·cases e0
  have := h.cells rfl i (.int .i64 l[i]) (by simp [hi])
  have ea : (⟨g, 0, none⟩ : Addr).add i = ⟨g, i, none⟩ := by unfold Addr.add; split <;> simp_all
  rw [ea] at this
  have hc : W.cell? ⟨g, i, none⟩ = some (.int .i64 l[i]) := this
  exact ⟨g, rfl, World.block_lt_of_cell? W _ hc, hb, hc⟩
theorem row_below {W W' : World} {b : Nat} {e : TypeId} {s : Nat} {v : Value} {n : Nat} {xs : List Value} (h : W.ownsRow b e s v n xs) (hb : Below W.heap.size W W') : W'.ownsRow b e s v n xs :=
 h.kept (row := none) ⟨hb.os, hb.tape, hb.output, hb.size, fun k hk _ => hb.block k hk⟩ (by cases v.ownBlock <;> simp)
theorem row_low {W : World} {b b' : Nat} {e : TypeId} {s : Nat} {v : Value} {n : Nat} {xs : List Value} (h : W.ownsRow b e s v n xs) (hb : b' <= b) : W.ownsRow b' e s v n xs := by
 refine ⟨h.1, ?_⟩
 rcases h.2 with h0 | ⟨g, cap, cur, e0, hg, r⟩
 ·exact .inl h0
 ·exact .inr ⟨g, cap, cur, e0, Nat.le_trans hb hg, r⟩
structure WI (w : World) (v : Value) (k : Nat) (xs : List Int) (W : World) : Prop where
 row : W.ownsRow w.heap.size 3 1 v k (xs.map (Value.int .i64))
 bel : Below w.heap.size w W
theorem WI.len {w : World} {v : Value} {k : Nat} {xs : List Int} {W : World} (h : WI w v k xs W) : xs.length = k := by simpa using h.row.1
theorem WI.push {w : World} {v : Value} {k : Nat} {xs : List Int} {W : World} (h : WI w v k xs W) (y : Int) (v' : Value) (w3 : World) (hown : w3.ownsRow w.heap.size 3 1 v' (k + 1) (xs.map (Value.int .i64) ++ [.int .i64 y])) (hg : (W.alloc (.cells #[.int .i64 y] 3)).grownBy w3 v.ownBlock) : WI w v' (k + 1) (xs ++ [y]) w3 := by
 refine ⟨by simpa using hown, h.bel.trans (((below_box W _).mono h.bel.size).trans ⟨hg.os, hg.tape, hg.output, hg.size, fun j hj => hg.block j (by have := h.bel.size; simp; omega) (fun e => by have := (h.row.lt j e.symm).1; omega)⟩)⟩
theorem WI.al {w : World} {v : Value} {k : Nat} {xs : List Int} {W : World} (h : WI w v k xs W) (o : Obj) : (W.alloc o).ownsRow w.heap.size 3 1 v k (xs.map (Value.int .i64)) := row_below h.row (below_box W o)
theorem WI.up {w : World} {v : Value} {k : Nat} {xs : List Int} {W : World} (h : WI w v k xs W) (o : Obj) : w.heap.size <= (W.alloc o).heap.size := by have := h.bel.size; simp; omega
theorem with_any (base : Nat) (v : Value) (l : List Int) (n : Int) (w : World) (h : w.ownsRow base 3 1 v l.length (l.map (Value.int .i64))) (hl : l.length <= 1048576) :
  Calls Tryz.prog 153 #[v, .int .i64 n] w fun e w' => ∃ v' k, e = .returned v' ∧ WI w v' k (wth l n) w' := by
 obtain ⟨p, c, rfl⟩ := row_form h
 have HL : Hid (w.ownsRow base 3 1 (.slice p l.length c) l.length (l.map (Value.int .i64))) := h
 clear h
 obtain ⟨i0, hi, hz0, hz1, hz2⟩ := info_parts Tryz.info3
 go_enter Tryz.func153, Tryz.ntmps153
 go_wp2
 go_loopw [5, 6, 7] (fun vo vi ii wr => ∃ (i k : Nat), ii = .int .i64 i ∧ i <= l.length ∧ vi = .bool (wst n (l.take i)).2 ∧ WI w vo k (wst n (l.take i)).1 wr) (fun _ _ ii _ => l.length - (intOf ii).toNat)
 case atStart => exact ⟨0, 0, rfl, Nat.zero_le _, rfl, World.ownsRow_nil _ _ _ _, Below.refl _ _⟩
 case round =>
  obtain ⟨i, k, rfl, hi', rfl, hW⟩ := hrel
  have hlen := wst_len n (l.take i)
  rw [hW.len] at hlen
  have hk : k <= i + 1 := by
   have hb : (wst n (l.take i)).2.toNat <= 1 := by cases (wst n (l.take i)).2 <;> simp
   rw [List.length_take] at hlen
   omega
  clear hlen
  obtain ⟨pa, pc, rfl⟩ := row_form hW.row
  by_cases hlt : i < l.length
  ·have HS : Hid (wst n (l.take (i + 1)) = _) := wst_succ n l i hlt
   obtain ⟨g, rfl, hg, _, hc0⟩ := row_get HL.out hlt
   have hc := (hW.bel.cell (p := ⟨g, i, none⟩) hg).trans hc0
   obtain ⟨⟨xs, inn⟩, hst⟩ : ∃ s, wst n (l.take i) = s := ⟨_, rfl⟩
   rw [hst] at hW HS
   simp only [hst]
   obtain ⟨x, hx⟩ : ∃ x, l[i] = x := ⟨_, rfl⟩
   rw [hx] at hc hc0 HS
   have HG : Hid (g < w.heap.size ∧ w.cell? ⟨g, i, none⟩ = some (.int .i64 x)) := ⟨hg, hc0⟩
   clear hg hc0
   clear hst hx
   have HW : Hid (WI w (.slice pa k pc) k xs wr) := hW
   clear hW
   cases inn
   ·by_cases h1 : n <= x
    ·by_cases h2 : x = n
     ·have he : Hid (wst n (l.take (i + 1)) = (xs ++ [n], true)) := by show wst n (l.take (i + 1)) = _; rw [HS]; simp [wstep, h2]
      clear HS
      go_wp2_with (first
       | (at_builtin; refine wpList_append_own_at _ rfl _ _ 23 rfl w.heap.size 3 i0 (.int .i64 0) 1 8 Tryz.underlying23 hi hz0 hz1 hz2 rfl (by decide) _ _ _ rfl (HW.out.al (.cells #[.int .i64 n] 3)) ⟨wr.heap.size, 0, none⟩ 1 1 [.int .i64 n] rfl rfl (cell_one_new _ _ _) (by simp [Value.oneCell']) (by unfold maxLen; omega) (by omega) (HW.out.up _) ?_; intro v3 w3 h2 h3 _ _; have HI3 := HW.out.push n v3 w3 h2 h3; obtain ⟨pa3, pc3, rfl⟩ := row_form h2; have HI3 : Hid (WI w _ _ _ w3) := HI3; have hc3 := (HI3.out.bel.cell (p := ⟨g, i, none⟩) HG.out.1).trans HG.out.2; clear h2 h3))
      go_roundw
      case rel => exact ⟨i + 1, k + 1, by go_num, by omega, by rw [he], by rw [he]; exact HI3⟩
      case measure => simp [intOf]; omega
     ·have he : Hid (wst n (l.take (i + 1)) = (xs ++ [n] ++ [x], true)) := by show wst n (l.take (i + 1)) = _; rw [HS]; simp [wstep, h1, h2]
      clear HS
      go_wp2_with (first
       | (at_builtin; refine wpList_append_own_at _ rfl _ _ 23 rfl w.heap.size 3 i0 (.int .i64 0) 1 8 Tryz.underlying23 hi hz0 hz1 hz2 rfl (by decide) _ _ _ rfl (HI3.out.al (.cells #[.int .i64 x] 3)) ⟨w3.heap.size, 0, none⟩ 1 1 [.int .i64 x] rfl rfl (cell_one_new _ _ _) (by simp [Value.oneCell']) (by unfold maxLen; omega) (by omega) (HI3.out.up _) ?_; intro v4 w4 h2 h3 _ _; have HI4 := HI3.out.push x v4 w4 h2 h3; obtain ⟨pa4, pc4, rfl⟩ := row_form h2; have HI4 : Hid (WI w _ _ _ w4) := HI4; clear h2 h3)
       | (at_builtin; refine wpList_append_own_at _ rfl _ _ 23 rfl w.heap.size 3 i0 (.int .i64 0) 1 8 Tryz.underlying23 hi hz0 hz1 hz2 rfl (by decide) _ _ _ rfl (HW.out.al (.cells #[.int .i64 n] 3)) ⟨wr.heap.size, 0, none⟩ 1 1 [.int .i64 n] rfl rfl (cell_one_new _ _ _) (by simp [Value.oneCell']) (by unfold maxLen; omega) (by omega) (HW.out.up _) ?_; intro v3 w3 h2 h3 _ _; have HI3 := HW.out.push n v3 w3 h2 h3; obtain ⟨pa3, pc3, rfl⟩ := row_form h2; have HI3 : Hid (WI w _ _ _ w3) := HI3; have hc3 := (HI3.out.bel.cell (p := ⟨g, i, none⟩) HG.out.1).trans HG.out.2; clear h2 h3))
      go_roundw
      case rel => exact ⟨i + 1, k + 1 + 1, by go_num, by omega, by rw [he], by rw [he]; exact HI4⟩
      case measure => simp [intOf]; omega
    ·have h2 : ¬ x = n := by omega
     have h3 : x < n := by omega
     have he : Hid (wst n (l.take (i + 1)) = (xs ++ [x], false)) := by show wst n (l.take (i + 1)) = _; rw [HS]; simp [wstep, h1, h2]
     clear HS
     go_wp2_with (first
      | (at_builtin; refine wpList_append_own_at _ rfl _ _ 23 rfl w.heap.size 3 i0 (.int .i64 0) 1 8 Tryz.underlying23 hi hz0 hz1 hz2 rfl (by decide) _ _ _ rfl (HW.out.al (.cells #[.int .i64 x] 3)) ⟨wr.heap.size, 0, none⟩ 1 1 [.int .i64 x] rfl rfl (cell_one_new _ _ _) (by simp [Value.oneCell']) (by unfold maxLen; omega) (by omega) (HW.out.up _) ?_; intro v3 w3 h2 h3 _ _; have HI3 := HW.out.push x v3 w3 h2 h3; obtain ⟨pa3, pc3, rfl⟩ := row_form h2; have HI3 : Hid (WI w _ _ _ w3) := HI3; have hc3 := (HI3.out.bel.cell (p := ⟨g, i, none⟩) HG.out.1).trans HG.out.2; clear h2 h3))
     go_roundw
     case rel => exact ⟨i + 1, k + 1, by go_num, by omega, by rw [he], by rw [he]; exact HI3⟩
     case measure => simp [intOf]; omega
   ·by_cases h2 : x = n
    ·have he : Hid (wst n (l.take (i + 1)) = (xs, true)) := by show wst n (l.take (i + 1)) = _; rw [HS]; simp [wstep, h2]
     clear HS
     go_wp2
     go_roundw
     case rel => exact ⟨i + 1, k, by go_num, by omega, by rw [he], by rw [he]; exact HW⟩
     case measure => simp [intOf]; omega
    ·have he : Hid (wst n (l.take (i + 1)) = (xs ++ [x], true)) := by show wst n (l.take (i + 1)) = _; rw [HS]; simp [wstep, h2]
     clear HS
     go_wp2_with (first
      | (at_builtin; refine wpList_append_own_at _ rfl _ _ 23 rfl w.heap.size 3 i0 (.int .i64 0) 1 8 Tryz.underlying23 hi hz0 hz1 hz2 rfl (by decide) _ _ _ rfl (HW.out.al (.cells #[.int .i64 x] 3)) ⟨wr.heap.size, 0, none⟩ 1 1 [.int .i64 x] rfl rfl (cell_one_new _ _ _) (by simp [Value.oneCell']) (by unfold maxLen; omega) (by omega) (HW.out.up _) ?_; intro v3 w3 h2 h3 _ _; have HI3 := HW.out.push x v3 w3 h2 h3; obtain ⟨pa3, pc3, rfl⟩ := row_form h2; have HI3 : Hid (WI w _ _ _ w3) := HI3; have hc3 := (HI3.out.bel.cell (p := ⟨g, i, none⟩) HG.out.1).trans HG.out.2; clear h2 h3))
     go_roundw
     case rel => exact ⟨i + 1, k + 1, by go_num, by omega, by rw [he], by rw [he]; exact HI3⟩
     case measure => simp [intOf]; omega
  ·have hle : l.take i = l := List.take_of_length_le (by omega)
   rw [hle] at hW ⊢
   obtain ⟨⟨xs, inn⟩, hst⟩ : ∃ s, wst n l = s := ⟨_, rfl⟩
   rw [hst] at hW
   simp only [hst]
   clear hle
   have HW : Hid (WI w (.slice pa k pc) k xs wr) := hW
   clear hW
   cases inn
   ·have he : Hid (wth l n = xs ++ [n]) := by show wth l n = _; unfold wth; rw [hst]; rfl
    clear hst
    go_wp2_with (first
     | (at_builtin; refine wpList_append_own_at _ rfl _ _ 23 rfl w.heap.size 3 i0 (.int .i64 0) 1 8 Tryz.underlying23 hi hz0 hz1 hz2 rfl (by decide) _ _ _ rfl (HW.out.al (.cells #[.int .i64 n] 3)) ⟨wr.heap.size, 0, none⟩ 1 1 [.int .i64 n] rfl rfl (cell_one_new _ _ _) (by simp [Value.oneCell']) (by unfold maxLen; omega) (by omega) (HW.out.up _) ?_; intro v3 w3 h2 h3 _ _; have HI3 := HW.out.push n v3 w3 h2 h3; obtain ⟨pa3, pc3, rfl⟩ := row_form h2; have HI3 : Hid (WI w _ _ _ w3) := HI3; clear h2 h3))
    go_ret
    exact ⟨_, _, rfl, by rw [he]; exact HI3⟩
   ·have he : Hid (wth l n = xs) := by show wth l n = _; unfold wth; rw [hst]; rfl
    clear hst
    go_wp2
    go_ret
    exact ⟨_, _, rfl, by rw [he]; exact HW⟩
def T.vs : T -> List Int
 | .mk v fn args => (if fn.size = 0 then [v] else []) ++ go args
where go : List T -> List Int
 | [] => []
 | a :: r => T.vs a ++ go r
theorem T.vs_eq (t : T) : t.vs = (if t.fn.size = 0 then [t.v] else []) ++ (t.args.map T.vs).flatten := by
 have h : ∀ l : List T, T.vs.go l = (l.map T.vs).flatten := by
  intro l
  induction l with
  | nil => rfl
  | cons a r ih => simp [T.vs.go, ih]
 cases t with
 | mk v fn args => simp [T.vs, T.v, T.fn, T.args, h]
abbrev Rise (l : List Int) : Prop := l.Pairwise (· < ·)
theorem rise_snoc {l : List Int} {x : Int} (h : Rise l) (hx : ∀ o ∈ l, o < x) : Rise (l ++ [x]) := by
 refine List.pairwise_append.2 ⟨h, by simp, fun a ha b hb => ?_⟩
 simp at hb
 subst hb
 exact hx a ha
theorem or_one (A B C D : Prop) : ((A ∨ D) ∨ B ∨ C) ↔ (A ∨ (D ∨ B) ∨ C) := by
 by_cases a : A <;> by_cases b : B <;> by_cases c : C <;> by_cases d : D <;> simp [a, b, c, d]
theorem or_two (A B C D : Prop) : (((A ∨ C) ∨ D) ∨ B ∨ C) ↔ (A ∨ (D ∨ B) ∨ C) := by
 by_cases a : A <;> by_cases b : B <;> by_cases c : C <;> by_cases d : D <;> simp [a, b, c, d]
def wres (n : Int) (s : List Int × Bool) : List Int := if s.2 then s.1 else s.1 ++ [n]
theorem wres_rise (n : Int) : ∀ (r : List Int) (o : List Int) (b : Bool), Rise r -> Rise o -> (∀ x ∈ o, ∀ y ∈ r, x < y) -> (b = false -> ∀ x ∈ o, x < n) -> (b = true -> n ∈ o) ->
  Rise (wres n (r.foldl (wstep n) (o, b))) ∧ ∀ z, z ∈ wres n (r.foldl (wstep n) (o, b)) ↔ z ∈ o ∨ z ∈ r ∨ z = n
 | [], o, b, _, ho, _, hf, ht => by
  cases b
  ·refine ⟨rise_snoc ho (hf rfl), fun z => ?_⟩
   simp [wres]
  ·refine ⟨ho, fun z => ?_⟩
   have := ht rfl
   simp only [wres, List.foldl_nil, if_true, List.not_mem_nil, false_or]
   exact ⟨.inl, fun h => h.elim id (fun e => e ▸ this)⟩
 | x :: r, o, b, hr, ho, hor, hf, ht => by
  obtain ⟨hr1, hr2⟩ := List.pairwise_cons.1 hr
  have hox : ∀ a ∈ o, a < x := fun a ha => hor a ha x (by simp)
  have hoy : ∀ a ∈ o, ∀ y ∈ r, a < y := fun a ha y hy => hor a ha y (by simp [hy])
  rw [List.foldl_cons]
  cases b
  ·by_cases h1 : n <= x
   ·by_cases h2 : x = n
    ·have e : wstep n (o, false) x = (o ++ [n], true) := by simp [wstep, h2]
     subst h2
     obtain ⟨g1, g2⟩ := wres_rise x r (o ++ [x]) true hr2 (rise_snoc ho hox) (by
      intro a ha y hy
      rcases List.mem_append.1 ha with ha | ha
      ·exact hoy a ha y hy
      ·simp at ha; subst ha; exact hr1 y hy) (fun h => by cases h) (fun _ => by simp)
     rw [e]
     refine ⟨g1, fun z => (g2 z).trans ?_⟩
     simp only [List.mem_append, List.mem_cons, List.not_mem_nil, or_false]
     exact or_one _ _ _ _
    ·have e : wstep n (o, false) x = (o ++ [n] ++ [x], true) := by simp [wstep, h1, h2]
     obtain ⟨g1, g2⟩ := wres_rise n r (o ++ [n] ++ [x]) true hr2 (rise_snoc (rise_snoc ho (hf rfl)) (by
      intro a ha
      rcases List.mem_append.1 ha with ha | ha
      ·exact hox a ha
      ·simp at ha; omega)) (by
      intro a ha y hy
      have hxy := hr1 y hy
      rcases List.mem_append.1 ha with ha | ha
      ·rcases List.mem_append.1 ha with ha | ha
       ·exact hoy a ha y hy
       ·simp at ha; omega
      ·simp at ha; omega) (fun h => by cases h) (fun _ => by simp)
     rw [e]
     refine ⟨g1, fun z => (g2 z).trans ?_⟩
     simp only [List.mem_append, List.mem_cons, List.not_mem_nil, or_false]
     exact or_two _ _ _ _
   ·have h2 : ¬ x = n := by omega
    have e : wstep n (o, false) x = (o ++ [x], false) := by simp [wstep, h1, h2]
    obtain ⟨g1, g2⟩ := wres_rise n r (o ++ [x]) false hr2 (rise_snoc ho hox) (by
     intro a ha y hy
     rcases List.mem_append.1 ha with ha | ha
     ·exact hoy a ha y hy
     ·simp at ha; subst ha; exact hr1 y hy) (fun _ a ha => by
     rcases List.mem_append.1 ha with ha | ha
     ·exact hf rfl a ha
     ·simp at ha; omega) (fun h => by cases h)
    rw [e]
    refine ⟨g1, fun z => (g2 z).trans ?_⟩
    simp only [List.mem_append, List.mem_cons, List.not_mem_nil, or_false]
    exact or_one _ _ _ _
  ·have hn := ht rfl
   have h2 : ¬ x = n := by have := hox n hn; omega
   have e : wstep n (o, true) x = (o ++ [x], true) := by simp [wstep, h2]
   obtain ⟨g1, g2⟩ := wres_rise n r (o ++ [x]) true hr2 (rise_snoc ho hox) (by
    intro a ha y hy
    rcases List.mem_append.1 ha with ha | ha
    ·exact hoy a ha y hy
    ·simp at ha; subst ha; exact hr1 y hy) (fun h => by cases h) (fun _ => by simp [hn])
   rw [e]
   refine ⟨g1, fun z => (g2 z).trans ?_⟩
   simp only [List.mem_append, List.mem_cons, List.not_mem_nil, or_false]
   exact or_one _ _ _ _
theorem wth_rise (l : List Int) (n : Int) (h : Rise l) : Rise (wth l n) ∧ ∀ z, z ∈ wth l n ↔ z ∈ l ∨ z = n := by
 obtain ⟨g1, g2⟩ := wres_rise n l [] false h List.Pairwise.nil (by simp) (by simp) (by simp)
 refine ⟨g1, fun z => (g2 z).trans (by simp)⟩
theorem wths_rise (m : List Int) : ∀ l, Rise l -> Rise (m.foldl wth l) ∧ ∀ z, z ∈ m.foldl wth l ↔ z ∈ l ∨ z ∈ m := by
 induction m with
 | nil => intro l h; exact ⟨h, fun z => by simp⟩
 | cons n m ih =>
  intro l h
  obtain ⟨g1, g2⟩ := wth_rise l n h
  obtain ⟨k1, k2⟩ := ih (wth l n) g1
  refine ⟨k1, fun z => (k2 z).trans ?_⟩
  rw [g2]
  simp [or_assoc]
theorem wths_len (m : List Int) : ∀ l, (m.foldl wth l).length <= l.length + m.length := by
 induction m with
 | nil => intro l; simp
 | cons n m ih =>
  intro l
  have h1 := ih (wth l n)
  have h2 := wth_len l n
  simp only [List.foldl_cons, List.length_cons]
  omega
end Go.Proofs.YtglphfhlpobgcaaGreat
