/-
  lits.Normal.
-/
import Derived.Test.YtgnjgpplelakkaaLT
import Derived.Test.YtgnjgpplelakkaaLQ
import Derived.Test.YtgnjgpplelakkaaLG
import Derived.Shelf.Abstract
namespace Go.Proofs.Ytgnjgpplelakkaa
open Go.RowKit Go.Maps Go.Shelf

/-- The numbers met behind a clause. -/
def metF (met : List Int) (l : List Lt) : List Int := l.foldl (fun m x => (ren x.r (ren x.l m).2).2) met
/-- The clause with its variables named anew. -/
def cnormG : List Lt → List Int → List Lt
  | [], _ => []
  | x :: r, met => ⟨x.neg, (ren x.l met).1, (ren x.r (ren x.l met).2).1⟩ :: cnormG r (ren x.r (ren x.l met).2).2
def cnorm (l : List Lt) : List Lt := cnormG l []

/-- The i-th literal, named anew. -/
def normAt (l : List Lt) (met : List Int) (i : Nat) : Lt := match l[i]? with
  | some x => ⟨x.neg, (ren x.l (metF met (l.take i))).1, (ren x.r (ren x.l (metF met (l.take i))).2).1⟩
  | none => ⟨false, .mk 0 ⟨#[]⟩ [], .mk 0 ⟨#[]⟩ []⟩

theorem normAt_lt (l : List Lt) (met : List Int) (i : Nat) (h : i < l.length) : normAt l met i = ⟨l[i].neg, (ren l[i].l (metF met (l.take i))).1, (ren l[i].r (ren l[i].l (metF met (l.take i))).2).1⟩ := by
  unfold normAt
  rw [List.getElem?_eq_getElem h]

theorem cnormG_eq : ∀ (l : List Lt) (met : List Int), cnormG l met = (List.range l.length).map (normAt l met)
  | [], _ => rfl
  | x :: r, met => by
    rw [List.length_cons, List.range_succ_eq_map, List.map_cons, List.map_map, cnormG, cnormG_eq r]
    congr 1

/-- The numbers met ahead of the k-th side. -/
def metK (l : List Lt) (k : Nat) : List Int := if k % 2 = 0 then metF [] (l.take (k / 2)) else match l[k / 2]? with
  | some x => (ren x.l (metF [] (l.take (k / 2)))).2
  | none => []

theorem metK_even (l : List Lt) (i : Nat) : metK l (2 * i) = metF [] (l.take i) := by
  unfold metK
  rw [if_pos (by omega), show 2 * i / 2 = i by omega]
theorem metK_odd (l : List Lt) (i : Nat) (h : i < l.length) : metK l (2 * i + 1) = (ren l[i].l (metF [] (l.take i))).2 := by
  unfold metK
  rw [if_neg (by omega), show (2 * i + 1) / 2 = i by omega, List.getElem?_eq_getElem h]
theorem metF_succ (l : List Lt) (i : Nat) (h : i < l.length) : metF [] (l.take (i + 1)) = (ren l[i].r (ren l[i].l (metF [] (l.take i))).2).2 := by
  unfold metF
  rw [List.take_succ_eq_append_getElem h, List.foldl_append]
  rfl

theorem metF_len (l : List Lt) : ∀ met, ((metF met l).length : Int) ≤ met.length + csize l := by
  induction l with
  | nil => intro met; simp [metF, csize]
  | cons x r ih =>
    intro met
    have h1 := ren_met x.l met
    have h2 := ren_met x.r (ren x.l met).2
    have h3 := ih (ren x.r (ren x.l met).2).2
    have e : metF met (x :: r) = metF (ren x.r (ren x.l met).2).2 r := rfl
    have e2 : csize (x :: r) = x.l.size + x.r.size + csize r := by simp [csize]
    rw [e, e2]
    omega

theorem csize_nonneg (l : List Lt) : 0 ≤ csize l := by
  induction l with
  | nil => simp [csize]
  | cons x r ih =>
    have h1 := size_pos x.l
    have h2 := size_pos x.r
    have e2 : csize (x :: r) = x.l.size + x.r.size + csize r := by simp [csize]
    omega

theorem csize_at (l : List Lt) (i : Nat) (h : i < l.length) : csize (l.take i) + (l[i].l.size + l[i].r.size) ≤ csize l ∧ 1 ≤ l[i].l.size ∧ 1 ≤ l[i].r.size ∧ 0 ≤ csize (l.take i) := by
  have e := cupto_succ l i h
  have e2 : csize l = csize (l.take (i + 1)) + csize (l.drop (i + 1)) := by
    conv => lhs; rw [← List.take_append_drop (i + 1) l]
    unfold csize
    rw [List.map_append, List.sum_append]
  unfold cupto at e
  have h3 := csize_nonneg (l.drop (i + 1))
  exact ⟨by omega, size_pos _, size_pos _, csize_nonneg _⟩

theorem csize_len (l : List Lt) : (l.length : Int) ≤ csize l := by
  induction l with
  | nil => simp [csize]
  | cons x r ih =>
    have h1 := size_pos x.l
    have h2 := size_pos x.r
    have e2 : csize (x :: r) = x.l.size + x.r.size + csize r := by simp [csize]
    rw [e2, List.length_cons]
    omega

theorem eg58 : ∀ args w, (callFunc 58 args).run Try.prog w = .ok (.enter 58 args) w := enters_of Try.func58 (by kernel_rfl) rfl

/-- The renamer, and the cell that holds its closure. -/
def NJ (C b N R rn : Nat) (met : List Int) (X : World) : Prop := RenSt C b N R met X ∧ X.cell? ⟨rn, 0, none⟩ = some (.func (.func 85) #[] #[.pointer (some ⟨N, 0, none⟩), .pointer (some ⟨R, 0, none⟩)]) ∧ rn ≠ b

set_option maxRecDepth 100000 in
set_option maxHeartbeats 2000000 in
theorem norm1_any (C b N R rn : Nat) (W0 : World) (t : T) (met : List Int) (sl : Value) (X : World) (hJ : NJ C b N R rn met X) (hX : Below W0.heap.size W0 X) (hb0 : W0.heap.size ≤ b) (ha : ArgsAt W0 sl t.args) (hs : t.size ≤ 1048576) (hm : (met.length : Int) + t.size ≤ 1073741824) :
    Calls Try.prog 58 #[tval t sl, .pointer (some ⟨rn, 0, none⟩)] X fun e X' => ∃ a' c', e = .returned (.tuple #[tval (ren t met).1 (.slice a' (ren t met).1.args.length c'), .int .i64 0]) ∧ ArgsP (fun x => X.heap.size ≤ x) X' (.slice a' (ren t met).1.args.length c') (ren t met).1.args ∧ NJ C b N R rn (ren t met).2 X' ∧ Only [b] X X' := by
  obtain ⟨a, c, rfl, _, _⟩ := ha.slice
  obtain ⟨hst, hrn, hrb⟩ := hJ
  obtain ⟨hb2, c0, c1, c2, hz, hS⟩ := (show _ from by
    obtain ⟨t0, t1, t2⟩ := tbox_cells X t (.slice a t.args.length c)
    have hbb := below_box (X.alloc (tbox t (.slice a t.args.length c))) (.cells #[.int .i64 0, .string ⟨#[]⟩, .slice none 0 0] 26)
    have h5 := (MapKept.heap_alloc (X.alloc (tbox t (.slice a t.args.length c))) (.cells #[.int .i64 0, .string ⟨#[]⟩, .slice none 0 0] 26)).1
    rw [World.size_alloc] at h5
    exact (⟨below_box2 X _ _, kc hbb (by simp) t0, kc hbb (by simp) t1, kc hbb (by simp) t2, h5, by simp⟩ : Below X.heap.size X ((X.alloc (tbox t (.slice a t.args.length c))).alloc (.cells #[.int .i64 0, .string ⟨#[]⟩, .slice none 0 0] 26)) ∧ ((X.alloc (tbox t (.slice a t.args.length c))).alloc (.cells #[.int .i64 0, .string ⟨#[]⟩, .slice none 0 0] 26)).cell? ⟨X.heap.size, 0, none⟩ = some (.int .i64 t.v) ∧ ((X.alloc (tbox t (.slice a t.args.length c))).alloc (.cells #[.int .i64 0, .string ⟨#[]⟩, .slice none 0 0] 26)).cell? ⟨X.heap.size, 1, none⟩ = some (.string t.fn) ∧ ((X.alloc (tbox t (.slice a t.args.length c))).alloc (.cells #[.int .i64 0, .string ⟨#[]⟩, .slice none 0 0] 26)).cell? ⟨X.heap.size, 2, none⟩ = some (.slice a t.args.length c) ∧ ((X.alloc (tbox t (.slice a t.args.length c))).alloc (.cells #[.int .i64 0, .string ⟨#[]⟩, .slice none 0 0] 26)).heap[X.heap.size + 1]? = some (.cells #[.int .i64 0, .string ⟨#[]⟩, .slice none 0 0] 26 (0, 0)) ∧ ((X.alloc (tbox t (.slice a t.args.length c))).alloc (.cells #[.int .i64 0, .string ⟨#[]⟩, .slice none 0 0] 26)).heap.size = X.heap.size + 1 + 1))
  have hrl := World.block_lt_of_cell? X _ hrn
  have hbl := hst.lt.2.1
  have r1 := kc hb2 hrl hrn
  have hc := ren_any C b N R W0 t met (.slice a t.args.length c) _ (hst.keep hb2) (hX.trans (hb2.mono hX.size)) hb0 ha hs hm
  have HB : Hid (Below X.heap.size X ((X.alloc (tbox t (.slice a t.args.length c))).alloc (.cells #[.int .i64 0, .string ⟨#[]⟩, .slice none 0 0] 26))) := hb2
  have HZ : Hid (((X.alloc (tbox t (.slice a t.args.length c))).alloc (.cells #[.int .i64 0, .string ⟨#[]⟩, .slice none 0 0] 26)).heap[X.heap.size + 1]? = some (.cells #[.int .i64 0, .string ⟨#[]⟩, .slice none 0 0] 26 (0, 0)) ∧ ((X.alloc (tbox t (.slice a t.args.length c))).alloc (.cells #[.int .i64 0, .string ⟨#[]⟩, .slice none 0 0] 26)).heap.size = X.heap.size + 1 + 1 ∧ X.cell? ⟨rn, 0, none⟩ = some (.func (.func 85) #[] #[.pointer (some ⟨N, 0, none⟩), .pointer (some ⟨R, 0, none⟩)]) ∧ rn ≠ b) := ⟨hz, hS, hrn, hrb⟩
  have HLT : Hid (C < X.heap.size ∧ b < X.heap.size ∧ N < X.heap.size ∧ R < X.heap.size) := hst.lt
  generalize (ren t met).1 = u at *
  generalize (ren t met).2 = met2 at *
  clear hb2 hz hS hst hrn hrb ha
  go_enter Try.func58, Try.ntmps58
  go_wp2_with (go_at_call 85; refine hc.mono ?_; rintro e W3 ⟨s', rfl, hA3, hst3, hO3⟩; obtain ⟨pa, pc, rfl⟩ := hA3.slice; have hz3 := (hO3.block (X.heap.size + 1) (by rw [HZ.out.2.1]; omega) (by simp; omega)).trans HZ.out.1; obtain ⟨⟨z0, z1, z2⟩, y0, y1, y2⟩ := box_facts hz3; have HH : Hid (ArgsP (fun x => X.heap.size + 2 ≤ x) W3 (.slice pa u.args.length pc) u.args ∧ RenSt C b N R met2 W3 ∧ Only [b] X W3) := ⟨hA3.keep (Nat.le_refl _) (fun k hk _ => ⟨by rw [HZ.out.2.1] at hk; omega, rfl⟩), hst3, (Only.of_below (B := [b]) HB.out).trans (B' := [b]) hO3 (fun _ hr => .inl hr)⟩; clear hA3 hst3 hO3 hz3)
  have hset : ∀ k, k ≠ X.heap.size + 1 → (set3 W3 (X.heap.size + 1) 0 (.int .i64 u.v) (.string u.fn) (.slice pa u.args.length pc)).heap[k]? = W3.heap[k]? := fun k hk => set3_other _ _ _ _ _ _ k hk
  have hons : Only [b] X (set3 W3 (X.heap.size + 1) 0 (.int .i64 u.v) (.string u.fn) (.slice pa u.args.length pc)) := ((HH.out.2.2.setCell 0 _ (Nat.le_succ _)).setCell 1 _ (Nat.le_succ _)).setCell 2 _ (Nat.le_succ _)
  have h4 := HLT.out
  refine bodyPost_ret (v := .tuple #[tval u (.slice pa u.args.length pc), .int .i64 0]) (by simp [results, Try.results58, go_sem, *]) rfl ⟨_, _, rfl, ?_, ⟨?_, ?_, HZ.out.2.2.2⟩, hons⟩
  · exact HH.out.1.keep (Nat.le_of_eq (set3_size _ _ _ _ _ _).symm) (fun k hk _ => ⟨by omega, hset k (by omega)⟩)
  · exact HH.out.2.1.same (hset _ (by omega)) (hset _ (by omega)) (hset _ (by omega)) (hset _ (by omega))
  · exact only_cell hons hrl (by simpa using HZ.out.2.2.2) HZ.out.2.2.1

/-- The blocks of a new renamer. -/
abbrev renW (w : World) : World := (((w.alloc (Obj.map #[] 0)).alloc (Obj.cells #[Value.map (some w.heap.size)] 89)).alloc (Obj.cells #[Value.func (Fn.func 84) #[] #[Value.pointer (some ⟨w.heap.size + 1, 0, none⟩)]] 91)).alloc (Obj.cells #[Value.func (Fn.func 85) #[] #[Value.pointer (some ⟨w.heap.size + 1 + 1, 0, none⟩), Value.pointer (some ⟨w.heap.size + 1 + 1 + 1, 0, none⟩)]] 63)

theorem one_cell {X : World} {n : Nat} {v : Value} {ty : TypeId} (h : X.heap[n]? = some (.cells #[v] ty (0, 0))) : X.cell? ⟨n, 0, none⟩ = some v := by simp [World.cell?, h]

theorem ren_new (w : World) : RenSt (w.heap.size + 1) w.heap.size (w.heap.size + 1 + 1) (w.heap.size + 1 + 1 + 1) [] (renW w) ∧ Below w.heap.size w (renW w) := by
  have e1 : ∀ (X : World) (ob : Obj) (k : Nat), k < X.heap.size → (X.alloc ob).heap[k]? = X.heap[k]? := fun X ob k hk => Below.heap_alloc X ob k hk
  have m1 := MapIs.made w 3
  have h2 := (MapKept.heap_alloc (w.alloc (Obj.map #[] 0)) (Obj.cells #[Value.map (some w.heap.size)] 89)).1
  have h3 := (MapKept.heap_alloc ((w.alloc (Obj.map #[] 0)).alloc (Obj.cells #[Value.map (some w.heap.size)] 89)) (Obj.cells #[Value.func (Fn.func 84) #[] #[Value.pointer (some ⟨w.heap.size + 1, 0, none⟩)]] 91)).1
  have h4 := (MapKept.heap_alloc (((w.alloc (Obj.map #[] 0)).alloc (Obj.cells #[Value.map (some w.heap.size)] 89)).alloc (Obj.cells #[Value.func (Fn.func 84) #[] #[Value.pointer (some ⟨w.heap.size + 1, 0, none⟩)]] 91)) (Obj.cells #[Value.func (Fn.func 85) #[] #[Value.pointer (some ⟨w.heap.size + 1 + 1, 0, none⟩), Value.pointer (some ⟨w.heap.size + 1 + 1 + 1, 0, none⟩)]] 63)).1
  rw [World.size_alloc] at h2
  rw [World.size_alloc, World.size_alloc] at h3
  rw [World.size_alloc, World.size_alloc, World.size_alloc] at h4
  have hm : mm [] = fun _ => none := by
    funext v
    cases v with
    | int k n => cases k <;> rfl
    | _ => rfl
  refine ⟨⟨one_cell (ty := 89) ?_, ?_, one_cell (ty := 91) ?_, one_cell (ty := 63) h4, by omega, by omega, by omega⟩, ?_⟩
  · rw [e1 _ _ _ (by simp), e1 _ _ _ (by simp)]
    exact h2
  · rw [hm]
    exact m1.same (by rw [e1 _ _ _ (by simp; omega), e1 _ _ _ (by simp; omega), e1 _ _ _ (by simp)])
  · rw [e1 _ _ _ (by simp)]
    exact h3
  · exact ((((Below.refl _ _).alloc (Nat.le_refl _) _).alloc (by simp) _).alloc (by simp; omega) _).alloc (by simp; omega) _

set_option maxRecDepth 100000 in
set_option maxHeartbeats 2000000 in
theorem renamer_any (w : World) : Calls Try.prog 56 #[] w fun e W' => e = .returned (.func (.func 85) #[] #[.pointer (some ⟨w.heap.size + 1 + 1, 0, none⟩), .pointer (some ⟨w.heap.size + 1 + 1 + 1, 0, none⟩)]) ∧ RenSt (w.heap.size + 1) w.heap.size (w.heap.size + 1 + 1) (w.heap.size + 1 + 1 + 1) [] W' ∧ Below w.heap.size w W' := by
  have hmm := @run_makeMap Try.prog
  go_enter Try.func56, Try.ntmps56
  go_wp2
  go_ret
  exact ⟨rfl, ren_new w⟩

theorem NJ.same {C b N R rn : Nat} {met : List Int} {X X' : World} (h : NJ C b N R rn met X) (hk : ∀ r, r < X.heap.size → (r = C ∨ r = b ∨ r = N ∨ r = R ∨ r = rn) → X'.heap[r]? = X.heap[r]?) : NJ C b N R rn met X' :=
  ⟨h.1.same (hk _ h.1.lt.1 (by simp)) (hk _ h.1.lt.2.1 (by simp)) (hk _ h.1.lt.2.2.1 (by simp)) (hk _ h.1.lt.2.2.2 (by simp)), (cell_block (hk _ (World.block_lt_of_cell? X _ h.2.1) (by simp))).trans h.2.1, h.2.2⟩

set_option maxRecDepth 100000 in
set_option maxHeartbeats 2000000 in
theorem normal_any (l : List Lt) (v : Value) (w : World) (hc : ClauseAt w v l) (hs : csize l ≤ 1048576) :
    Calls Try.prog 26 #[v] w fun e W' => ∃ v', e = .returned v' ∧ ClauseAt W' v' (cnorm l) ∧ Below w.heap.size w W' := by
  have hlen : l.length ≤ 1048576 := by have := csize_len l; omega
  have hr := renamer_any w
  have hbody : ∀ W1, RenSt (w.heap.size + 1) w.heap.size (w.heap.size + 1 + 1) (w.heap.size + 1 + 1 + 1) [] W1 → Below w.heap.size w W1 → Calls Try.prog 57 #[v, .func (.func 58) #[] #[.pointer (some ⟨W1.heap.size, 0, none⟩)]] (W1.alloc (.cells #[.func (.func 85) #[] #[.pointer (some ⟨w.heap.size + 1 + 1, 0, none⟩), .pointer (some ⟨w.heap.size + 1 + 1 + 1, 0, none⟩)]] 63)) fun e W' => ∃ a' c', e = .returned (.tuple #[.slice a' (cnorm l).length c', .int .i64 0]) ∧ ClauseAt W' (.slice a' (cnorm l).length c') (cnorm l) ∧ Below w.heap.size w W' := by
    intro W1 hst hb1
    have hb2 := below_box W1 (.cells #[.func (.func 85) #[] #[.pointer (some ⟨w.heap.size + 1 + 1, 0, none⟩), .pointer (some ⟨w.heap.size + 1 + 1 + 1, 0, none⟩)]] 63)
    have q2 := (MapKept.heap_alloc W1 (.cells #[.func (.func 85) #[] #[.pointer (some ⟨w.heap.size + 1 + 1, 0, none⟩), .pointer (some ⟨w.heap.size + 1 + 1 + 1, 0, none⟩)]] 63)).1
    have hlt := hst.lt
    have hw2 := hb1.trans (hb2.mono hb1.size)
    have hNJ : NJ (w.heap.size + 1) w.heap.size (w.heap.size + 1 + 1) (w.heap.size + 1 + 1 + 1) W1.heap.size [] (W1.alloc (.cells #[.func (.func 85) #[] #[.pointer (some ⟨w.heap.size + 1 + 1, 0, none⟩), .pointer (some ⟨w.heap.size + 1 + 1 + 1, 0, none⟩)]] 63)) := ⟨hst.keep hb2, one_cell (ty := 63) q2, by omega⟩
    have h0 : metK l 0 = [] := by simp [metK, metF]
    have hm := fun i (h : i < l.length) => csize_at l i h
    have hml := fun i => metF_len (l.take i) []
    refine (rebuilt_any 58 #[.pointer (some ⟨W1.heap.size, 0, none⟩)] eg58 [w.heap.size] (fun k X => NJ (w.heap.size + 1) w.heap.size (w.heap.size + 1 + 1) (w.heap.size + 1 + 1 + 1) W1.heap.size (metK l k) X) w l (normAt l []) (fun _ => 0) v _ hw2 hc hlen (by simp; omega) (by rw [h0]; exact hNJ) ?_ ?_ ?_ ?_).mono ?_
    · intro k X X' hJ h1 h2 h3
      exact hJ.same fun r hr hrr => h3 r (by simp; omega)
    · intro i hi s X hJ hX hM ha
      rw [metK_even] at hJ
      obtain ⟨g1, g2, g3, g4⟩ := hm i hi
      have g5 := hml i
      refine (norm1_any _ _ _ _ _ w l[i].l _ s X hJ hX (Nat.le_refl _) ha (by omega) (by simp at g5; omega)).mono ?_
      rintro e X' ⟨a', c', rfl, hA, hN, hO⟩
      refine ⟨_, a', _, c', rfl, fun _ => ?_, hO⟩
      rw [normAt_lt l [] i hi]
      refine ⟨rfl, rfl, hA, ?_⟩
      show NJ _ _ _ _ _ (metK l (2 * i + 1)) X'
      rw [metK_odd l i hi]
      exact hN
    · intro i hi s X hJ hX hM ha
      rw [metK_odd l i hi] at hJ
      obtain ⟨g1, g2, g3, g4⟩ := hm i hi
      have g5 := hml i
      have g6 := ren_met l[i].l (metF [] (l.take i))
      refine (norm1_any _ _ _ _ _ w l[i].r _ s X hJ hX (Nat.le_refl _) ha (by omega) (by simp at g5; omega)).mono ?_
      rintro e X' ⟨a', c', rfl, hA, hN, hO⟩
      refine ⟨_, a', _, c', rfl, fun _ => ?_, hO⟩
      rw [normAt_lt l [] i hi]
      refine ⟨rfl, rfl, hA, ?_⟩
      show NJ _ _ _ _ _ (metK l (2 * i + 1 + 1)) X'
      rw [show 2 * i + 1 + 1 = 2 * (i + 1) by omega, metK_even, metF_succ l i hi]
      exact hN
    · intro i hi
      rw [normAt_lt l [] i hi]
    · rintro e W' ⟨h, hO⟩
      rcases h with ⟨v', rfl, hcl, _, _⟩ | ⟨k, _, hk, _⟩
      · have e : (List.range l.length).map (normAt l []) = cnorm l := (cnormG_eq l []).symm
        rw [e] at hcl
        obtain ⟨a', c', rfl⟩ := hcl.slice
        exact ⟨a', c', rfl, hcl, hw2.trans (hO.below hw2.size (by simp))⟩
      · exact absurd rfl hk
  obtain ⟨a, c, rfl⟩ := hc.slice
  generalize hcn : cnorm l = cn at *
  clear hcn hc
  have HBD := hbody
  have HBB : Hid (∀ W1, RenSt (w.heap.size + 1) w.heap.size (w.heap.size + 1 + 1) (w.heap.size + 1 + 1 + 1) [] W1 → Below w.heap.size w W1 → Calls Try.prog 57 #[.slice a l.length c, .func (.func 58) #[] #[.pointer (some ⟨W1.heap.size, 0, none⟩)]] (W1.alloc (.cells #[.func (.func 85) #[] #[.pointer (some ⟨w.heap.size + 1 + 1, 0, none⟩), .pointer (some ⟨w.heap.size + 1 + 1 + 1, 0, none⟩)]] 63)) fun e W' => ∃ a' c', e = .returned (.tuple #[.slice a' cn.length c', .int .i64 0]) ∧ ClauseAt W' (.slice a' cn.length c') cn ∧ Below w.heap.size w W') := hbody
  clear hbody HBD
  go_enter Try.func26, Try.ntmps26
  go_wp2_with (first
    | (go_at_call 57; refine hb57.mono ?_; rintro e W3 ⟨a', c', rfl, hcl, hbel⟩; have HF : Hid (ClauseAt W3 (.slice a' cn.length c') cn ∧ Below w.heap.size w W3) := ⟨hcl, hbel⟩; clear hcl hbel)
    | (go_at_call 56; refine hr.mono ?_; rintro e W1 ⟨rfl, hst, hb1⟩; have hb57 := HBB.out W1 hst hb1; clear hst hb1))
  go_ret
  exact ⟨_, rfl, HF.out⟩

end Go.Proofs.Ytgnjgpplelakkaa
