/-
  The document's Apply, with the blocks told; its own; its Compose's first loop.
-/
import Derived.Test.YthinbkpjggihdaaTA
import Derived.Test.YthinbkpjggihdaaTM
import Derived.Test.YthinbkpjggihdaaTK
namespace Go.Proofs.Ythinbkpjggihdaa
open Go.Maps Go.RowKit

set_option maxRecDepth 100000 in
set_option maxHeartbeats 4000000 in
theorem rapply_okP (W0 : World) (l : List Bd) (t : T) (hl : isSub l = true) (ht0 : t.rightW = 0) (hr : (t.app (img l)).rightW = 0) (v sl : Value) (w : World) (hW0 : Below W0.heap.size W0 w) (hb0 : BindsAt W0 v l) (ha0 : ArgsAt W0 sl t.args) :
    Calls Try.prog 12 #[v, tval t sl] w fun e W' => ∃ s5, e = .returned (.tuple #[tval (t.app (img l)) s5, .int .i64 0]) ∧ ArgsP (fun b => b < W0.heap.size ∨ w.heap.size ≤ b) W' s5 (t.app (img l)).args ∧ Below w.heap.size w W' := by
  have hb := hb0.keep hW0
  have ha := ArgsAt.keep hW0 (Nat.le_refl _) ha0
  obtain ⟨a, c, rfl⟩ := hb.slice
  obtain ⟨sa, sc, rfl, _, _⟩ := ha.slice
  have hA0 := ApI.start w l (.slice a l.length c) t (.slice sa t.args.length sc) hb ha
  have h14 : ∀ X, ApI w l (.slice a l.length c) t (.slice sa t.args.length sc) X → Calls Try.prog 14 #[.slice a l.length c] X fun e X' => e = .returned (.bool true) ∧ ApI w l (.slice a l.length c) t (.slice sa t.args.length sc) X' := fun X hX => (ris_any l _ X hX.binds).mono fun e X' ⟨he, hb⟩ => ⟨by rw [he, hl], hX.keep hb⟩
  have h25 : ∀ X, ApI w l (.slice a l.length c) t (.slice sa t.args.length sc) X → Calls Try.prog 25 #[tval t (.slice sa t.args.length sc)] X fun e X' => e = .returned (.int .i64 0) ∧ ApI w l (.slice a l.length c) t (.slice sa t.args.length sc) X' := fun X hX => (rright_any t _ X hX.args).mono fun e X' ⟨he, hb⟩ => ⟨by rw [he, ht0], hX.keep hb⟩
  have hC : ∀ X, ApI w l (.slice a l.length c) t (.slice sa t.args.length sc) X → X.cell? ⟨w.heap.size, 0, none⟩ = some (.int .i64 t.v) ∧ X.cell? ⟨w.heap.size, 1, none⟩ = some (.string t.fn) ∧ X.cell? ⟨w.heap.size, 2, none⟩ = some (.slice sa t.args.length sc) := fun X h => (box_facts h.tb).1
  have hRb : ∀ X, ApI w l (.slice a l.length c) t (.slice sa t.args.length sc) X → (X.cell? ⟨w.heap.size + 1, 0, none⟩ = some (.int .i64 0) ∧ X.cell? ⟨w.heap.size + 1, 1, none⟩ = some (.string ⟨#[]⟩) ∧ X.cell? ⟨w.heap.size + 1, 2, none⟩ = some (.slice none 0 0)) ∧ (X.frozen? ⟨w.heap.size + 1, 0, none⟩ = false ∧ X.frozen? ⟨w.heap.size + 1, 1, none⟩ = false ∧ X.frozen? ⟨w.heap.size + 1, 2, none⟩ = false) := fun X h => box_facts h.rb
  have hbl : Hid (∀ X, ApI w l (.slice a l.length c) t (.slice sa t.args.length sc) X → Below w.heap.size w X) := fun X h => h.bel
  have hkp : Hid (∀ X X', ApI w l (.slice a l.length c) t (.slice sa t.args.length sc) X → Below X.heap.size X X' → ApI w l (.slice a l.length c) t (.slice sa t.args.length sc) X') := fun X X' h hb => h.keep hb
  obtain ⟨u, hu⟩ : ∃ u, t.app (img l) = u := ⟨_, rfl⟩
  have h33 : ∀ X, ApI w l (.slice a l.length c) t (.slice sa t.args.length sc) X → Calls Try.prog 33 #[.slice a l.length c, tval t (.slice sa t.args.length sc)] X fun e X' => ∃ pa pc, e = .returned (tval u (.slice pa u.args.length pc)) ∧ Hid (ArgsP (fun b => b ≠ w.heap.size + 1 ∧ (b < W0.heap.size ∨ w.heap.size ≤ b)) X' (.slice pa u.args.length pc) u.args) ∧ ApI w l (.slice a l.length c) t (.slice sa t.args.length sc) X' := fun X hX => (put_any W0 _ l hb0 t _ X (hW0.trans (hX.bel.mono hW0.size)) ha0 (right_shape ht0)).mono fun e X' ⟨s', he, hA, hb'⟩ => by
    rw [hu] at he hA
    obtain ⟨pa, pc, rfl⟩ := hA.slice
    refine ⟨pa, pc, he, hA.keep (Nat.le_refl _) (fun b h _ => ⟨?_, rfl⟩), hX.keep hb'⟩
    have := hX.siz
    have := hW0.size
    rcases h with h | h <;> omega
  rw [hu] at hr ⊢
  have h25' : ∀ (X' : World) pa pc, Hid (ArgsP (fun b => b ≠ w.heap.size + 1 ∧ (b < W0.heap.size ∨ w.heap.size ≤ b)) X' (.slice pa u.args.length pc) u.args) → Calls Try.prog 25 #[tval u (.slice pa u.args.length pc)] (X'.alloc (tbox u (.slice pa u.args.length pc))) fun e Y => e = .returned (.int .i64 u.rightW) ∧ Below (X'.alloc (tbox u (.slice pa u.args.length pc))).heap.size (X'.alloc (tbox u (.slice pa u.args.length pc))) Y := fun X' pa pc h => rright_any u _ _ (ArgsAt.keep (below_box X' _) (Nat.le_refl _) h.out.args)
  obtain ⟨S, hS'⟩ : ∃ S, ApI w l (.slice a l.length c) t (.slice sa t.args.length sc) = S := ⟨_, rfl⟩
  rw [hS'] at hA0 h14 h25 hC hRb hbl h33 hkp
  clear hS' hb ha hl ht0 hu hb0 ha0 hW0
  obtain ⟨k0, k1, k2⟩ := hC _ hA0
  rw [hr] at h25'
  clear hr
  go_enter Try.func12, Try.ntmps12
  go_wp2_with (first
    | (go_at_call 33; refine (h33 _ HW3).mono ?_; rintro e W4 ⟨pa, pc, rfl, HP4, HW4⟩; obtain ⟨p0, p1, p2⟩ := tbox_cells W4 u (.slice pa u.args.length pc))
    | (go_at_call 25; refine (h25' _ pa pc HP4).mono ?_; rintro e W5 ⟨rfl, HB5⟩; have HW5 := hkp.out _ _ HW4 ((below_box W4 _).trans (HB5.mono (Nat.le_of_lt (by simp)))); have p0' := kc HB5 (by simp) p0; have p1' := kc HB5 (by simp) p1; have p2' := kc HB5 (by simp) p2; obtain ⟨⟨z0, z1, z2⟩, y0, y1, y2⟩ := hRb _ HW5; have HB5' : Hid (Below W4.heap.size W4 W5) := (below_box W4 _).trans (HB5.mono (Nat.le_of_lt (by simp))); clear HB5)
    | (go_at_call 25; refine (h25 _ HW2).mono ?_; rintro e W3 ⟨rfl, HW3⟩; obtain ⟨q0, q1, q2⟩ := hC _ HW3)
    | (go_at_call 14; refine (h14 _ hA0).mono ?_; rintro e W2 ⟨rfl, HW2⟩; obtain ⟨j0, j1, j2⟩ := hC _ HW2))
  refine bodyPost_ret (v := .tuple #[tval u (.slice pa u.args.length pc), .int .i64 0]) (by simp [results, Try.results12, go_sem, *]) rfl ⟨_, rfl, ?_, ?_⟩
  · exact HP4.out.keep (W' := set3 W5 (w.heap.size + 1) 0 _ _ _) (by rw [set3_size]; exact HB5'.out.size) (fun b hb hlt => ⟨hb.2, (set3_other _ _ _ _ _ _ b hb.1).trans (HB5'.out.block b hlt)⟩)
  · exact set3_below (hbl.out _ HW5) _ 0 _ _ _ (Nat.le_succ _)

set_option maxHeartbeats 1000000 in
theorem rown_any (x : Bd) (sx : Value) (w : World) (hx : ∃ a n c, sx = .slice a n c) :
    Calls Try.prog 40 #[bval x sx] w fun e W' => e = .returned (.bool (own1 x)) ∧ Below w.heap.size w W' := by
  obtain ⟨a, n, c, rfl⟩ := hx
  obtain ⟨t0, t1, t2, t3⟩ := bbox_cells w x (.slice a n c)
  have hb := below_box w (bbox x (.slice a n c))
  by_cases h0 : x.2.fn.size = 0
  · have hdd : x.2.fn.toList.isEmpty = true := by rw [ba_isEmpty]; simp [h0]
    have hd : Hid (own1 x = decide (x.2.v = x.1)) := by show _ = _; unfold own1; rw [decide_eq_true h0]; rfl
    clear h0
    go_enter Try.func40, Try.ntmps40
    go_wp2
    go_ret
    exact ⟨ret_bool (by rw [hd.out]; rfl), hb⟩
  · have hdd : x.2.fn.toList.isEmpty = false := by rw [ba_isEmpty]; simp [h0]
    have hd : Hid (own1 x = false) := by show _ = _; unfold own1; rw [decide_eq_false h0]; rfl
    clear h0
    go_enter Try.func40, Try.ntmps40
    go_wp2
    go_ret
    exact ⟨ret_bool (by rw [hd.out]), hb⟩

theorem own_last (r : List Bd) (x : Bd) : own1 (x.1, x.2.app (img r)) = !lastB r x := by
  unfold own1 lastB
  rw [T.app_eq]
  by_cases h0 : x.2.fn.size = 0
  · have e1 : decide (x.2.fn.size ≠ 0) = false := decide_eq_false fun h => h h0
    rw [if_pos h0, e1, Bool.false_or, Bool.not_not]
  · have e1 : decide (x.2.fn.size ≠ 0) = true := decide_eq_true h0
    rw [if_neg h0, e1]
    have e2 : decide ((x.1, T.mk 0 x.2.fn (x.2.args.map (T.app (img r)))).2.fn.size = 0) = false := decide_eq_false h0
    rw [e2]
    rfl

/-- What stands in the first loop of the document's Compose. -/
structure RcI (w : World) (s r : List Bd) (i : Nat) (vo : Value) (ps : List (Bd × Value)) (W : World) : Prop where
  args : ps.map (·.1) = ((s.take i).filter (lastB r)).map (fun x => (x.1, x.2.app (img r)))
  ok : ∀ p ∈ ps, ArgsP (fun b => vo.ownBlock ≠ some b) W p.2 p.1.2.args
  row : W.ownsRow w.heap.size 35 4 vo ps.length (flatB ps)
  bel : Below w.heap.size w W

theorem RcI.keep {w : World} {s r : List Bd} {i : Nat} {vo : Value} {ps : List (Bd × Value)} {W W' : World} (h : RcI w s r i vo ps W) (hb : Below W.heap.size W W') : RcI w s r i vo ps W' :=
  ⟨h.args, fun p hp => (h.ok p hp).keep hb.size (fun k hk hlt => ⟨hk, hb.block k hlt⟩), rowB_below h.row hb, h.bel.trans (hb.mono h.bel.size)⟩

theorem RcI.len {w : World} {s r : List Bd} {i : Nat} {vo : Value} {ps : List (Bd × Value)} {W : World} (h : RcI w s r i vo ps W) : ps.length ≤ i := by
  have h1 := congrArg List.length h.args
  rw [List.length_map, List.length_map] at h1
  have h2 := List.length_filter_le (lastB r) (s.take i)
  rw [List.length_take] at h2
  omega

theorem RcI.skip {w : World} {s r : List Bd} {i : Nat} {vo : Value} {ps : List (Bd × Value)} {W : World} (h : RcI w s r i vo ps W) (hlt : i < s.length) (x : Bd) (hx : s[i] = x) (hl : lastB r x = false) : RcI w s r (i + 1) vo ps W :=
  ⟨by rw [h.args, List.take_succ_eq_append_getElem hlt, List.filter_append, hx]; simp [hl], h.ok, h.row, h.bel⟩

theorem RcI.push {w : World} {s r : List Bd} {i : Nat} {vo : Value} {ps : List (Bd × Value)} {wr W7 w9 : World} {o : Obj} (h : RcI w s r i vo ps wr) (hlt : i < s.length) (x : Bd) (y : T) (hx : s[i] = x) (hy : x.2.app (img r) = y) (hl : lastB r x = true) (hb : Below wr.heap.size wr W7) (s5 : Value) (hA : ArgsP (fun b => b < w.heap.size ∨ wr.heap.size ≤ b) W7 s5 y.args) (v' : Value)
    (hown : w9.ownsRow w.heap.size 35 4 v' (ps.length + 1) (flatB ps ++ [.int .i64 x.1, .int .i64 y.v, .string y.fn, s5])) (hg : (W7.alloc o).grownBy w9 vo.ownBlock) (hat : v'.ownBlock = vo.ownBlock ∨ v'.ownBlock = some (W7.alloc o).heap.size) :
    RcI w s r (i + 1) v' (ps ++ [((x.1, y), s5)]) w9 := by
  have hvl : ∀ g, vo.ownBlock = some g → w.heap.size ≤ g ∧ g < wr.heap.size := fun g e => h.row.lt g e
  have h7 := hb.size
  have hbs := h.bel.size
  have hgs := hg.size
  rw [World.size_alloc] at hgs hat
  have kp7 : ∀ k, k < W7.heap.size → vo.ownBlock ≠ some k → w9.heap[k]? = W7.heap[k]? := fun k hk hne => by
    rw [hg.block k (by rw [World.size_alloc]; omega) (fun e => hne e.symm), Below.heap_alloc _ _ _ hk]
  have hv'b : ∀ b, b < W7.heap.size → vo.ownBlock ≠ some b → v'.ownBlock ≠ some b := fun b hb hne => by
    rcases hat with e | e
    · rw [e]; exact hne
    · rw [e]; intro e2; have := Option.some.inj e2; omega
  refine ⟨?_, fun p hp => ?_, ?_, ?_⟩
  · rw [List.map_append, h.args, List.take_succ_eq_append_getElem hlt, List.filter_append, List.map_append, hx]
    simp [hl, hy]
  · rcases List.mem_append.1 hp with hp | hp
    · exact (h.ok p hp).keep (by omega) (fun b hne hlt => ⟨hv'b b (by omega) hne, by rw [kp7 b (by omega) hne]; exact hb.block b hlt⟩)
    · simp at hp
      subst hp
      refine hA.keep (by omega) (fun b hbb hlt => ?_)
      have hne : vo.ownBlock ≠ some b := fun e => by have := hvl b e; rcases hbb with hbb | hbb <;> omega
      exact ⟨hv'b b hlt hne, kp7 b hlt hne⟩
  · rw [List.length_append, flatB_snoc]
    exact hown
  · refine h.bel.trans ⟨by rw [hg.os]; exact hb.os, by rw [hg.tape]; exact hb.tape, by rw [hg.output]; exact hb.output, by omega, fun k hk => ?_⟩
    rw [kp7 k (by omega) (fun e => by have := hvl k e; omega)]
    exact hb.block k (by omega)

theorem bound_snoc (l : List Bd) (y : Bd) (n : Int) : boundB (l ++ [y]) n = (boundB l n || decide (y.1 = n)) := by
  rw [Bool.eq_iff_iff, Bool.or_eq_true, bound_iff, bound_iff, decide_eq_true_eq]
  constructor
  · rintro ⟨x, hx, e⟩
    rcases List.mem_append.1 hx with h | h
    · exact .inl ⟨x, h, e⟩
    · simp at h; subst h; exact .inr e
  · rintro (⟨x, hx, e⟩ | e)
    · exact ⟨x, List.mem_append.2 (.inl hx), e⟩
    · exact ⟨y, by simp, e⟩

theorem fold_len : ∀ (l a : List Bd), (l.foldl withL a).length = a.length + l.length
  | [], _ => rfl
  | x :: r, a => by
    rw [List.foldl_cons, fold_len r, (withL_perm a x).length_eq]
    simp
    omega

/-- What the second loop has made by place i. -/
noncomputable def outL (s r : List Bd) (i : Nat) : List Bd := ((r.take i).filter fun x => !boundB s x.1).foldl withL ((s.filter (lastB r)).map fun x => (x.1, x.2.app (img r)))

theorem outL_len (s r : List Bd) (i : Nat) : (outL s r i).length ≤ s.length + i := by
  unfold outL
  rw [fold_len, List.length_map]
  have h1 := List.length_filter_le (lastB r) s
  have h2 := List.length_filter_le (fun x => !boundB s x.1) (r.take i)
  rw [List.length_take] at h2
  omega

theorem outL_skip {s r : List Bd} {i : Nat} (hlt : i < r.length) (x : Bd) (hx : r[i] = x) (h : boundB s x.1 = true) : outL s r (i + 1) = outL s r i := by
  unfold outL
  rw [List.take_succ_eq_append_getElem hlt, List.filter_append, hx]
  simp [h]

theorem outL_push {s r : List Bd} {i : Nat} (hlt : i < r.length) (x : Bd) (hx : r[i] = x) (h : boundB s x.1 = false) : outL s r (i + 1) = withL (outL s r i) x := by
  unfold outL
  rw [List.take_succ_eq_append_getElem hlt, List.filter_append, hx, List.foldl_append]
  simp [h]

end Go.Proofs.Ythinbkpjggihdaa
