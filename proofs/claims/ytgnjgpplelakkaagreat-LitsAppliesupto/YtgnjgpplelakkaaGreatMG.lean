import Derived.Test.YtgnjgpplelakkaaGreatLT
import Derived.Test.YtgnjgpplelakkaaGreatLQ
import Derived.Test.YtgnjgpplelakkaaGreatMF
import Derived.Shelf.Abstract
import Derived.Test.YtgnjgpplelakkaaGreatLH
import Derived.Test.YtgnjgpplelakkaaGreatLM

/-
  lits.Normal.
-/
namespace Go.Proofs.YtgnjgpplelakkaaGreat
open Go.RowKit Go.Maps Go.Shelf

/-- The numbers met behind a clause. -/
def metF (met : List Int) (l : List Lt) : List Int := l.foldl (fun m x => (ren x.r (ren x.l m).2).2) met
/-- The clause with its variables named anew. -/
def cnormG : List Lt → List Int → List Lt
  | [], _ => []
  | x :: r, met => ⟨x.neg, (ren x.l met).1, (ren x.r (ren x.l met).2).1⟩ :: cnormG r (ren x.r (ren x.l met).2).2
def cnorm (l : List Lt) : List Lt := cnormG l []

/-- The i-th literal, named anew. -/
def normAt (l : List Lt) (met : List Int) (i : Nat) : Lt := match l[i]? with
  | some x => ⟨x.neg, (ren x.l (metF met (l.take i))).1, (ren x.r (ren x.l (metF met (l.take i))).2).1⟩
  | none => ⟨false, .mk 0 ⟨#[]⟩ [], .mk 0 ⟨#[]⟩ []⟩

theorem normAt_lt (l : List Lt) (met : List Int) (i : Nat) (h : i < l.length) : normAt l met i = ⟨l[i].neg, (ren l[i].l (metF met (l.take i))).1, (ren l[i].r (ren l[i].l (metF met (l.take i))).2).1⟩ := by
  unfold normAt
  rw [List.getElem?_eq_getElem h]

theorem cnormG_eq : ∀ (l : List Lt) (met : List Int), cnormG l met = (List.range l.length).map (normAt l met)
  | [], _ => rfl
  | x :: r, met => by
    rw [List.length_cons, List.range_succ_eq_map, List.map_cons, List.map_map, cnormG, cnormG_eq r]
    congr 1

/-- The numbers met ahead of the k-th side. -/
def metK (l : List Lt) (k : Nat) : List Int := if k % 2 = 0 then metF [] (l.take (k / 2)) else match l[k / 2]? with
  | some x => (ren x.l (metF [] (l.take (k / 2)))).2
  | none => []

theorem metK_even (l : List Lt) (i : Nat) : metK l (2 * i) = metF [] (l.take i) := by
  unfold metK
  rw [if_pos (by omega), show 2 * i / 2 = i by omega]
theorem metK_odd (l : List Lt) (i : Nat) (h : i < l.length) : metK l (2 * i + 1) = (ren l[i].l (metF [] (l.take i))).2 := by
  unfold metK
  rw [if_neg (by omega), show (2 * i + 1) / 2 = i by omega, List.getElem?_eq_getElem h]
theorem metF_succ (l : List Lt) (i : Nat) (h : i < l.length) : metF [] (l.take (i + 1)) = (ren l[i].r (ren l[i].l (metF [] (l.take i))).2).2 := by
  unfold metF
  rw [List.take_succ_eq_append_getElem h, List.foldl_append]
  rfl

theorem metF_len (l : List Lt) : ∀ met, ((metF met l).length : Int) ≤ met.length + csize l := by
  induction l with
  | nil => intro met; simp [metF, csize]
  | cons x r ih =>
    intro met
    have h1 := ren_met x.l met
    have h2 := ren_met x.r (ren x.l met).2
    have h3 := ih (ren x.r (ren x.l met).2).2
    have e : metF met (x :: r) = metF (ren x.r (ren x.l met).2).2 r := rfl
    have e2 : csize (x :: r) = x.l.size + x.r.size + csize r := by simp [csize]
    rw [e, e2]
    omega

theorem csize_nonneg (l : List Lt) : 0 ≤ csize l := by
  induction l with
  | nil => simp [csize]
  | cons x r ih =>
    have h1 := size_pos x.l
    have h2 := size_pos x.r
    have e2 : csize (x :: r) = x.l.size + x.r.size + csize r := by simp [csize]
    omega

theorem csize_at (l : List Lt) (i : Nat) (h : i < l.length) : csize (l.take i) + (l[i].l.size + l[i].r.size) ≤ csize l ∧ 1 ≤ l[i].l.size ∧ 1 ≤ l[i].r.size ∧ 0 ≤ csize (l.take i) := by
  have e := cupto_succ l i h
  have e2 : csize l = csize (l.take (i + 1)) + csize (l.drop (i + 1)) := by
    conv => lhs; rw [← List.take_append_drop (i + 1) l]
    unfold csize
    rw [List.map_append, List.sum_append]
  unfold cupto at e
  have h3 := csize_nonneg (l.drop (i + 1))
  exact ⟨by omega, size_pos _, size_pos _, csize_nonneg _⟩

theorem csize_len (l : List Lt) : (l.length : Int) ≤ csize l := by
  induction l with
  | nil => simp [csize]
  | cons x r ih =>
    have h1 := size_pos x.l
    have h2 := size_pos x.r
    have e2 : csize (x :: r) = x.l.size + x.r.size + csize r := by simp [csize]
    rw [e2, List.length_cons]
    omega

theorem eg58 : ∀ args w, (callFunc 32 args).run Tryz.prog w = .ok (.enter 32 args) w := enters_of Tryz.func32 (by kernel_rfl) rfl

/-- The renamer, and the cell that holds its closure. -/
def NJ (C b N R rn : Nat) (met : List Int) (X : World) : Prop := RenSt C b N R met X ∧ X.cell? ⟨rn, 0, none⟩ = some (.func (.func 58) #[] #[.pointer (some ⟨N, 0, none⟩), .pointer (some ⟨R, 0, none⟩)]) ∧ rn ≠ b

set_option maxRecDepth 100000 in
set_option maxHeartbeats 2000000 in
theorem norm1_any (C b N R rn : Nat) (W0 : World) (t : T) (met : List Int) (sl : Value) (X : World) (hJ : NJ C b N R rn met X) (hX : Below W0.heap.size W0 X) (hb0 : W0.heap.size ≤ b) (ha : ArgsAt W0 sl t.args) (hs : t.size ≤ 1048576) (hm : (met.length : Int) + t.size ≤ 1073741824) :
    Calls Tryz.prog 32 #[tval t sl, .pointer (some ⟨rn, 0, none⟩)] X fun e X' => ∃ a' c', e = .returned (.tuple #[tval (ren t met).1 (.slice a' (ren t met).1.args.length c'), .int .i64 0]) ∧ ArgsP (fun x => X.heap.size ≤ x) X' (.slice a' (ren t met).1.args.length c') (ren t met).1.args ∧ NJ C b N R rn (ren t met).2 X' ∧ Only [b] X X' := by
  obtain ⟨a, c, rfl, _, _⟩ := ha.slice
  obtain ⟨hst, hrn, hrb⟩ := hJ
  obtain ⟨hb2, c0, c1, c2, hz, hS⟩ := (show _ from by
    obtain ⟨t0, t1, t2⟩ := tbox_cells X t (.slice a t.args.length c)
    have hbb := below_box (X.alloc (tbox t (.slice a t.args.length c))) (.cells #[.int .i64 0, .string ⟨#[]⟩, .slice none 0 0] 28)
    have h5 := (MapKept.heap_alloc (X.alloc (tbox t (.slice a t.args.length c))) (.cells #[.int .i64 0, .string ⟨#[]⟩, .slice none 0 0] 28)).1
    rw [World.size_alloc] at h5
    exact (⟨below_box2 X _ _, kc hbb (by simp) t0, kc hbb (by simp) t1, kc hbb (by simp) t2, h5, by simp⟩ : Below X.heap.size X ((X.alloc (tbox t (.slice a t.args.length c))).alloc (.cells #[.int .i64 0, .string ⟨#[]⟩, .slice none 0 0] 28)) ∧ ((X.alloc (tbox t (.slice a t.args.length c))).alloc (.cells #[.int .i64 0, .string ⟨#[]⟩, .slice none 0 0] 28)).cell? ⟨X.heap.size, 0, none⟩ = some (.int .i64 t.v) ∧ ((X.alloc (tbox t (.slice a t.args.length c))).alloc (.cells #[.int .i64 0, .string ⟨#[]⟩, .slice none 0 0] 28)).cell? ⟨X.heap.size, 1, none⟩ = some (.string t.fn) ∧ ((X.alloc (tbox t (.slice a t.args.length c))).alloc (.cells #[.int .i64 0, .string ⟨#[]⟩, .slice none 0 0] 28)).cell? ⟨X.heap.size, 2, none⟩ = some (.slice a t.args.length c) ∧ ((X.alloc (tbox t (.slice a t.args.length c))).alloc (.cells #[.int .i64 0, .string ⟨#[]⟩, .slice none 0 0] 28)).heap[X.heap.size + 1]? = some (.cells #[.int .i64 0, .string ⟨#[]⟩, .slice none 0 0] 28 (0, 0)) ∧ ((X.alloc (tbox t (.slice a t.args.length c))).alloc (.cells #[.int .i64 0, .string ⟨#[]⟩, .slice none 0 0] 28)).heap.size = X.heap.size + 1 + 1))
  have hrl := World.block_lt_of_cell? X _ hrn
  have hbl := hst.lt.2.1
  have r1 := kc hb2 hrl hrn
  have hc := ren_any C b N R W0 t met (.slice a t.args.length c) _ (hst.keep hb2) (hX.trans (hb2.mono hX.size)) hb0 ha hs hm
  have HB : Hid (Below X.heap.size X ((X.alloc (tbox t (.slice a t.args.length c))).alloc (.cells #[.int .i64 0, .string ⟨#[]⟩, .slice none 0 0] 28))) := hb2
  have HZ : Hid (((X.alloc (tbox t (.slice a t.args.length c))).alloc (.cells #[.int .i64 0, .string ⟨#[]⟩, .slice none 0 0] 28)).heap[X.heap.size + 1]? = some (.cells #[.int .i64 0, .string ⟨#[]⟩, .slice none 0 0] 28 (0, 0)) ∧ ((X.alloc (tbox t (.slice a t.args.length c))).alloc (.cells #[.int .i64 0, .string ⟨#[]⟩, .slice none 0 0] 28)).heap.size = X.heap.size + 1 + 1 ∧ X.cell? ⟨rn, 0, none⟩ = some (.func (.func 58) #[] #[.pointer (some ⟨N, 0, none⟩), .pointer (some ⟨R, 0, none⟩)]) ∧ rn ≠ b) := ⟨hz, hS, hrn, hrb⟩
  have HLT : Hid (C < X.heap.size ∧ b < X.heap.size ∧ N < X.heap.size ∧ R < X.heap.size) := hst.lt
  generalize (ren t met).1 = u at *
  generalize (ren t met).2 = met2 at *
  clear hb2 hz hS hst hrn hrb ha
  go_enter Tryz.func32, Tryz.ntmps32
  go_wp2_with (go_at_call 58; refine hc.mono ?_; rintro e W3 ⟨s', rfl, hA3, hst3, hO3⟩; obtain ⟨pa, pc, rfl⟩ := hA3.slice; have hz3 := (hO3.block (X.heap.size + 1) (by rw [HZ.out.2.1]; omega) (by simp; omega)).trans HZ.out.1; obtain ⟨⟨z0, z1, z2⟩, y0, y1, y2⟩ := box_facts hz3; have HH : Hid (ArgsP (fun x => X.heap.size + 2 ≤ x) W3 (.slice pa u.args.length pc) u.args ∧ RenSt C b N R met2 W3 ∧ Only [b] X W3) := ⟨hA3.keep (Nat.le_refl _) (fun k hk _ => ⟨by rw [HZ.out.2.1] at hk; omega, rfl⟩), hst3, (Only.of_below (B := [b]) HB.out).trans (B' := [b]) hO3 (fun _ hr => .inl hr)⟩; clear hA3 hst3 hO3 hz3)
  have hset : ∀ k, k ≠ X.heap.size + 1 → (set3 W3 (X.heap.size + 1) 0 (.int .i64 u.v) (.string u.fn) (.slice pa u.args.length pc)).heap[k]? = W3.heap[k]? := fun k hk => set3_other _ _ _ _ _ _ k hk
  have hons : Only [b] X (set3 W3 (X.heap.size + 1) 0 (.int .i64 u.v) (.string u.fn) (.slice pa u.args.length pc)) := ((HH.out.2.2.setCell 0 _ (Nat.le_succ _)).setCell 1 _ (Nat.le_succ _)).setCell 2 _ (Nat.le_succ _)
  have h4 := HLT.out
  refine bodyPost_ret (v := .tuple #[tval u (.slice pa u.args.length pc), .int .i64 0]) (by simp [results, Tryz.results32, go_sem, *]) rfl ⟨_, _, rfl, ?_, ⟨?_, ?_, HZ.out.2.2.2⟩, hons⟩
  · exact HH.out.1.keep (Nat.le_of_eq (set3_size _ _ _ _ _ _).symm) (fun k hk _ => ⟨by omega, hset k (by omega)⟩)
  · exact HH.out.2.1.same (hset _ (by omega)) (hset _ (by omega)) (hset _ (by omega)) (hset _ (by omega))
  · exact only_cell hons hrl (by simpa using HZ.out.2.2.2) HZ.out.2.2.1

/-- The blocks of a new renamer. -/
abbrev renW (w : World) : World := (((w.alloc (Obj.map #[] 0)).alloc (Obj.cells #[Value.map (some w.heap.size)] 84)).alloc (Obj.cells #[Value.func (Fn.func 57) #[] #[Value.pointer (some ⟨w.heap.size + 1, 0, none⟩)]] 85)).alloc (Obj.cells #[Value.func (Fn.func 58) #[] #[Value.pointer (some ⟨w.heap.size + 1 + 1, 0, none⟩), Value.pointer (some ⟨w.heap.size + 1 + 1 + 1, 0, none⟩)]] 58)

theorem one_cell {X : World} {n : Nat} {v : Value} {ty : TypeId} (h : X.heap[n]? = some (.cells #[v] ty (0, 0))) : X.cell? ⟨n, 0, none⟩ = some v := by simp [World.cell?, h]

theorem ren_new (w : World) : RenSt (w.heap.size + 1) w.heap.size (w.heap.size + 1 + 1) (w.heap.size + 1 + 1 + 1) [] (renW w) ∧ Below w.heap.size w (renW w) := by
  have e1 : ∀ (X : World) (ob : Obj) (k : Nat), k < X.heap.size → (X.alloc ob).heap[k]? = X.heap[k]? := fun X ob k hk => Below.heap_alloc X ob k hk
  have m1 := MapIs.made w 3
  have h2 := (MapKept.heap_alloc (w.alloc (Obj.map #[] 0)) (Obj.cells #[Value.map (some w.heap.size)] 84)).1
  have h3 := (MapKept.heap_alloc ((w.alloc (Obj.map #[] 0)).alloc (Obj.cells #[Value.map (some w.heap.size)] 84)) (Obj.cells #[Value.func (Fn.func 57) #[] #[Value.pointer (some ⟨w.heap.size + 1, 0, none⟩)]] 85)).1
  have h4 := (MapKept.heap_alloc (((w.alloc (Obj.map #[] 0)).alloc (Obj.cells #[Value.map (some w.heap.size)] 84)).alloc (Obj.cells #[Value.func (Fn.func 57) #[] #[Value.pointer (some ⟨w.heap.size + 1, 0, none⟩)]] 85)) (Obj.cells #[Value.func (Fn.func 58) #[] #[Value.pointer (some ⟨w.heap.size + 1 + 1, 0, none⟩), Value.pointer (some ⟨w.heap.size + 1 + 1 + 1, 0, none⟩)]] 58)).1
  rw [World.size_alloc] at h2
  rw [World.size_alloc, World.size_alloc] at h3
  rw [World.size_alloc, World.size_alloc, World.size_alloc] at h4
  have hm : mm [] = fun _ => none := by
    funext v
    cases v with
    | int k n => cases k <;> rfl
    | _ => rfl
  refine ⟨⟨one_cell (ty := 84) ?_, ?_, one_cell (ty := 85) ?_, one_cell (ty := 58) h4, by omega, by omega, by omega⟩, ?_⟩
  · rw [e1 _ _ _ (by simp), e1 _ _ _ (by simp)]
    exact h2
  · rw [hm]
    exact m1.same (by rw [e1 _ _ _ (by simp; omega), e1 _ _ _ (by simp; omega), e1 _ _ _ (by simp)])
  · rw [e1 _ _ _ (by simp)]
    exact h3
  · exact ((((Below.refl _ _).alloc (Nat.le_refl _) _).alloc (by simp) _).alloc (by simp; omega) _).alloc (by simp; omega) _

set_option maxRecDepth 100000 in
set_option maxHeartbeats 2000000 in
theorem renamer_any (w : World) : Calls Tryz.prog 31 #[] w fun e W' => e = .returned (.func (.func 58) #[] #[.pointer (some ⟨w.heap.size + 1 + 1, 0, none⟩), .pointer (some ⟨w.heap.size + 1 + 1 + 1, 0, none⟩)]) ∧ RenSt (w.heap.size + 1) w.heap.size (w.heap.size + 1 + 1) (w.heap.size + 1 + 1 + 1) [] W' ∧ Below w.heap.size w W' := by
  have hmm := @run_makeMap Tryz.prog
  go_enter Tryz.func31, Tryz.ntmps31
  go_wp2
  go_ret
  exact ⟨rfl, ren_new w⟩

theorem NJ.same {C b N R rn : Nat} {met : List Int} {X X' : World} (h : NJ C b N R rn met X) (hk : ∀ r, r < X.heap.size → (r = C ∨ r = b ∨ r = N ∨ r = R ∨ r = rn) → X'.heap[r]? = X.heap[r]?) : NJ C b N R rn met X' :=
  ⟨h.1.same (hk _ h.1.lt.1 (by simp)) (hk _ h.1.lt.2.1 (by simp)) (hk _ h.1.lt.2.2.1 (by simp)) (hk _ h.1.lt.2.2.2 (by simp)), (cell_block (hk _ (World.block_lt_of_cell? X _ h.2.1) (by simp))).trans h.2.1, h.2.2⟩

set_option maxRecDepth 100000 in
set_option maxHeartbeats 2000000 in
theorem normal_any (l : List Lt) (v : Value) (w : World) (hc : ClauseAt w v l) (hs : csize l ≤ 1048576) :
    Calls Tryz.prog 12 #[v] w fun e W' => ∃ v', e = .returned v' ∧ ClauseAt W' v' (cnorm l) ∧ Below w.heap.size w W' := by
  have hlen : l.length ≤ 1048576 := by have := csize_len l; omega
  have hr := renamer_any w
  have hbody : ∀ W1, RenSt (w.heap.size + 1) w.heap.size (w.heap.size + 1 + 1) (w.heap.size + 1 + 1 + 1) [] W1 → Below w.heap.size w W1 → Calls Tryz.prog 20 #[v, .func (.func 32) #[] #[.pointer (some ⟨W1.heap.size, 0, none⟩)]] (W1.alloc (.cells #[.func (.func 58) #[] #[.pointer (some ⟨w.heap.size + 1 + 1, 0, none⟩), .pointer (some ⟨w.heap.size + 1 + 1 + 1, 0, none⟩)]] 58)) fun e W' => ∃ a' c', e = .returned (.tuple #[.slice a' (cnorm l).length c', .int .i64 0]) ∧ ClauseAt W' (.slice a' (cnorm l).length c') (cnorm l) ∧ Below w.heap.size w W' := by
    intro W1 hst hb1
    have hb2 := below_box W1 (.cells #[.func (.func 58) #[] #[.pointer (some ⟨w.heap.size + 1 + 1, 0, none⟩), .pointer (some ⟨w.heap.size + 1 + 1 + 1, 0, none⟩)]] 58)
    have q2 := (MapKept.heap_alloc W1 (.cells #[.func (.func 58) #[] #[.pointer (some ⟨w.heap.size + 1 + 1, 0, none⟩), .pointer (some ⟨w.heap.size + 1 + 1 + 1, 0, none⟩)]] 58)).1
    have hlt := hst.lt
    have hw2 := hb1.trans (hb2.mono hb1.size)
    have hNJ : NJ (w.heap.size + 1) w.heap.size (w.heap.size + 1 + 1) (w.heap.size + 1 + 1 + 1) W1.heap.size [] (W1.alloc (.cells #[.func (.func 58) #[] #[.pointer (some ⟨w.heap.size + 1 + 1, 0, none⟩), .pointer (some ⟨w.heap.size + 1 + 1 + 1, 0, none⟩)]] 58)) := ⟨hst.keep hb2, one_cell (ty := 58) q2, by omega⟩
    have h0 : metK l 0 = [] := by simp [metK, metF]
    have hm := fun i (h : i < l.length) => csize_at l i h
    have hml := fun i => metF_len (l.take i) []
    refine (rebuilt_any 32 #[.pointer (some ⟨W1.heap.size, 0, none⟩)] eg58 [w.heap.size] (fun k X => NJ (w.heap.size + 1) w.heap.size (w.heap.size + 1 + 1) (w.heap.size + 1 + 1 + 1) W1.heap.size (metK l k) X) w l (normAt l []) (fun _ => 0) v _ hw2 hc hlen (by simp; omega) (by rw [h0]; exact hNJ) ?_ ?_ ?_ ?_).mono ?_
    · intro k X X' hJ h1 h2 h3
      exact hJ.same fun r hr hrr => h3 r (by simp; omega)
    · intro i hi s X hJ hX hM ha
      rw [metK_even] at hJ
      obtain ⟨g1, g2, g3, g4⟩ := hm i hi
      have g5 := hml i
      refine (norm1_any _ _ _ _ _ w l[i].l _ s X hJ hX (Nat.le_refl _) ha (by omega) (by simp at g5; omega)).mono ?_
      rintro e X' ⟨a', c', rfl, hA, hN, hO⟩
      refine ⟨_, a', _, c', rfl, fun _ => ?_, hO⟩
      rw [normAt_lt l [] i hi]
      refine ⟨rfl, rfl, hA, ?_⟩
      show NJ _ _ _ _ _ (metK l (2 * i + 1)) X'
      rw [metK_odd l i hi]
      exact hN
    · intro i hi s X hJ hX hM ha
      rw [metK_odd l i hi] at hJ
      obtain ⟨g1, g2, g3, g4⟩ := hm i hi
      have g5 := hml i
      have g6 := ren_met l[i].l (metF [] (l.take i))
      refine (norm1_any _ _ _ _ _ w l[i].r _ s X hJ hX (Nat.le_refl _) ha (by omega) (by simp at g5; omega)).mono ?_
      rintro e X' ⟨a', c', rfl, hA, hN, hO⟩
      refine ⟨_, a', _, c', rfl, fun _ => ?_, hO⟩
      rw [normAt_lt l [] i hi]
      refine ⟨rfl, rfl, hA, ?_⟩
      show NJ _ _ _ _ _ (metK l (2 * i + 1 + 1)) X'
      rw [show 2 * i + 1 + 1 = 2 * (i + 1) by omega, metK_even, metF_succ l i hi]
      exact hN
    · intro i hi
      rw [normAt_lt l [] i hi]
    · rintro e W' ⟨h, hO⟩
      rcases h with ⟨v', rfl, hcl, _, _⟩ | ⟨k, _, hk, _⟩
      · have e : (List.range l.length).map (normAt l []) = cnorm l := (cnormG_eq l []).symm
        rw [e] at hcl
        obtain ⟨a', c', rfl⟩ := hcl.slice
        exact ⟨a', c', rfl, hcl, hw2.trans (hO.below hw2.size (by simp))⟩
      · exact absurd rfl hk
  obtain ⟨a, c, rfl⟩ := hc.slice
  generalize hcn : cnorm l = cn at *
  clear hcn hc
  have HBD := hbody
  have HBB : Hid (∀ W1, RenSt (w.heap.size + 1) w.heap.size (w.heap.size + 1 + 1) (w.heap.size + 1 + 1 + 1) [] W1 → Below w.heap.size w W1 → Calls Tryz.prog 20 #[.slice a l.length c, .func (.func 32) #[] #[.pointer (some ⟨W1.heap.size, 0, none⟩)]] (W1.alloc (.cells #[.func (.func 58) #[] #[.pointer (some ⟨w.heap.size + 1 + 1, 0, none⟩), .pointer (some ⟨w.heap.size + 1 + 1 + 1, 0, none⟩)]] 58)) fun e W' => ∃ a' c', e = .returned (.tuple #[.slice a' cn.length c', .int .i64 0]) ∧ ClauseAt W' (.slice a' cn.length c') cn ∧ Below w.heap.size w W') := hbody
  clear hbody HBD
  go_enter Tryz.func12, Tryz.ntmps12
  go_wp2_with (first
    | (go_at_call 20; refine hb57.mono ?_; rintro e W3 ⟨a', c', rfl, hcl, hbel⟩; have HF : Hid (ClauseAt W3 (.slice a' cn.length c') cn ∧ Below w.heap.size w W3) := ⟨hcl, hbel⟩; clear hcl hbel)
    | (go_at_call 31; refine hr.mono ?_; rintro e W1 ⟨rfl, hst, hb1⟩; have hb57 := HBB.out W1 hst hb1; clear hst hb1))
  go_ret
  exact ⟨_, rfl, HF.out⟩

end Go.Proofs.YtgnjgpplelakkaaGreat

/-
  lits.Clean.
-/
namespace Go.Proofs.YtgnjgpplelakkaaGreat
open Go.RowKit Go.Maps Go.Shelf

/-- A literal and where the arguments of its sides lie. -/
abbrev Lp := Lt × Value × Value
abbrev lcells (p : Lp) : List Value := [.bool p.1.neg, .int .i64 p.1.l.v, .string p.1.l.fn, p.2.1, .int .i64 p.1.r.v, .string p.1.r.fn, p.2.2]
/-- The cells of a row of literals. -/
def flatL (ps : List Lp) : List Value := ps.flatMap lcells
theorem flatL_snoc (ps : List Lp) (p : Lp) : flatL (ps ++ [p]) = flatL ps ++ lcells p := by simp [flatL]
theorem flatL_get : ∀ (ps : List Lp) (i : Nat) (h : i < ps.length) (j : Nat), j < 7 → (flatL ps)[i * 7 + j]? = (lcells ps[i])[j]?
  | [], i, h, _, _ => absurd h (by simp)
  | p :: r, 0, _, j, hj => by
    have e : flatL (p :: r) = lcells p ++ flatL r := rfl
    rw [e, Nat.zero_mul, Nat.zero_add, List.getElem?_append_left (by simpa using hj)]
    rfl
  | p :: r, i + 1, h, j, hj => by
    have ih := flatL_get r i (by simpa using h) j hj
    have e : flatL (p :: r) = lcells p ++ flatL r := rfl
    rw [e, show (i + 1) * 7 + j = 7 + (i * 7 + j) by omega, List.getElem?_append_right (by simp)]
    simpa using ih

theorem clause_of_row {W : World} {base : Nat} {v : Value} {ps : List Lp} (h : W.ownsRow base 40 7 v ps.length (flatL ps)) (hsl : ∀ p ∈ ps, ArgsAt W p.2.1 p.1.l.args ∧ ArgsAt W p.2.2 p.1.r.args) : ClauseAt W v (ps.map (·.1)) := by
  rcases h.2 with ⟨e, hn⟩ | ⟨g, cap, cur, e, hb, hg, hcap, hmax, hsz, htk⟩
  · have : ps = [] := List.length_eq_zero_iff.1 hn
    subst this
    subst e
    exact ⟨none, 0, rfl, Nat.le_refl _, by decide, fun h => absurd h (by simp)⟩
  · subst e
    refine ⟨some ⟨g, 0, none⟩, cap, by simp, by simpa using hcap, by unfold maxLen at hmax; omega, fun _ => ⟨g, 0, rfl, fun i hi => ?_⟩⟩
    have hi' : i < ps.length := by simpa using hi
    have hlt : g < W.heap.size := (Array.getElem?_eq_some_iff.1 hg).1
    have look : ∀ j, j < 7 → W.cell? ⟨g, 0 + i * 7 + j, none⟩ = (lcells ps[i])[j]? := fun j hj => by
      rw [Nat.zero_add, cell_of_row _ _ _ _ 40 (0, 0) hg, ← flatL_get ps i hi' j hj, ← htk, List.getElem?_take_of_lt (by omega)]
      simp
    obtain ⟨h1, h2⟩ := hsl ps[i] (List.getElem_mem hi')
    simp only [List.getElem_map]
    exact ⟨ps[i].2.1, ps[i].2.2, hlt, look 0 (by omega), look 1 (by omega), look 2 (by omega), look 3 (by omega), look 4 (by omega), look 5 (by omega), look 6 (by omega), h1, h2⟩

theorem frP {n : Nat} {W : World} {sl : Value} {l : List T} (h : ArgsFr n W sl l) : ArgsP (fun x => n ≤ x) W sl l := by
  induction h with
  | mk a c l s hc hm at0 sub ih => exact .mk a c l s hc hm at0 ih

/-- One literal more, if it is to stay. -/
noncomputable def cstepL (out : List Lt) (x : Lt) : List Lt := if (x.neg && same x.l x.r) || out.any (fun y => lsame x y) then out else out ++ [x]
noncomputable def cclean (l : List Lt) : List Lt := l.foldl cstepL []
/-- What stands in Clean's loop. -/
structure ClI (w : World) (l : List Lt) (i : Nat) (v : Value) (ps : List Lp) (W : World) : Prop where
  args : ps.map (·.1) = cclean (l.take i)
  ok : ∀ p ∈ ps, ArgsP (fun x => w.heap.size ≤ x ∧ v.ownBlock ≠ some x) W p.2.1 p.1.l.args ∧ ArgsP (fun x => w.heap.size ≤ x ∧ v.ownBlock ≠ some x) W p.2.2 p.1.r.args
  row : W.ownsRow w.heap.size 40 7 v ps.length (flatL ps)
  bel : Below w.heap.size w W

theorem ClI.clause {w : World} {l : List Lt} {i : Nat} {v : Value} {ps : List Lp} {W : World} (h : ClI w l i v ps W) : ClauseAt W v (cclean (l.take i)) := by
  rw [← h.args]
  exact clause_of_row h.row fun p hp => ⟨(h.ok p hp).1.args, (h.ok p hp).2.args⟩

theorem ClI.keep {w : World} {l : List Lt} {i : Nat} {v : Value} {ps : List Lp} {W W' : World} (h : ClI w l i v ps W) (hb : Below W.heap.size W W') : ClI w l i v ps W' :=
  ⟨h.args, fun p hp => ⟨(h.ok p hp).1.keep hb.size (fun k hk hlt => ⟨hk, hb.block k hlt⟩), (h.ok p hp).2.keep hb.size (fun k hk hlt => ⟨hk, hb.block k hlt⟩)⟩, row_keep h.row (fun g hg => hb.block g (h.row.lt g hg).2), h.bel.trans (hb.mono h.bel.size)⟩

end Go.Proofs.YtgnjgpplelakkaaGreat

/-
  lits.Shift.
-/
namespace Go.Proofs.YtgnjgpplelakkaaGreat
open Go.RowKit Go.Maps Go.Shelf

theorem eg66 : ∀ args w, (callFunc 27 args).run Tryz.prog w = .ok (.enter 27 args) w := enters_of Tryz.func27 (by kernel_rfl) rfl

/-- May each of its numbers be shifted? -/
def fineT (by_ : Int) (t : T) : Bool := t.vs.all (fine by_)
def erS (by_ : Int) (t : T) : Int := if fineT by_ t then 0 else 1

set_option maxRecDepth 100000 in
set_option maxHeartbeats 2000000 in
theorem shift1_any (by_ : Int) (Bb : Nat) (t : T) (hsh : t.shape = true) (ht : Short t) (ht0 : t.rightW = 0) (sl : Value) (X : World) (hB : X.cell? ⟨Bb, 0, none⟩ = some (.int .i64 by_)) (ha : ArgsAt X sl t.args) :
    Calls Tryz.prog 27 #[tval t sl, .pointer (some ⟨Bb, 0, none⟩)] X fun e X' => (∃ q a' n' c', e = .returned (.tuple #[tval q (.slice a' n' c'), .int .i64 (erS by_ t)]) ∧ (erS by_ t = 0 → q = t.app (shf by_) ∧ n' = (t.app (shf by_)).args.length ∧ ArgsP (fun x => X.heap.size ≤ x) X' (.slice a' n' c') (t.app (shf by_)).args)) ∧ Below X.heap.size X X' := by
  obtain ⟨a, c, rfl, _, _⟩ := ha.slice
  obtain ⟨hb2, c0, c1, c2, hz, hS⟩ := two_boxes X t (.slice a t.args.length c)
  have hBl := World.block_lt_of_cell? X _ hB
  have k0 := kc hb2 hBl hB
  have hc := shift_any t by_ hsh ht ht0 (vs_range t hsh) (.slice a t.args.length c) _ (ArgsAt.keep hb2 (Nat.le_refl _) ha)
  have HB : Hid (Below X.heap.size X ((X.alloc (tbox t (.slice a t.args.length c))).alloc (.cells #[.int .i64 0, .string ⟨#[]⟩, .slice none 0 0] 28))) := hb2
  have HZ : Hid (((X.alloc (tbox t (.slice a t.args.length c))).alloc (.cells #[.int .i64 0, .string ⟨#[]⟩, .slice none 0 0] 28)).heap[X.heap.size + 1]? = some (.cells #[.int .i64 0, .string ⟨#[]⟩, .slice none 0 0] 28 (0, 0)) ∧ ((X.alloc (tbox t (.slice a t.args.length c))).alloc (.cells #[.int .i64 0, .string ⟨#[]⟩, .slice none 0 0] 28)).heap.size = X.heap.size + 1 + 1) := ⟨hz, hS⟩
  have hc2 : Calls Tryz.prog 28 #[tval t (.slice a t.args.length c), .int .i64 by_] ((X.alloc (tbox t (.slice a t.args.length c))).alloc (.cells #[.int .i64 0, .string ⟨#[]⟩, .slice none 0 0] 28)) fun e W' => ∃ q a' n' c', e = .returned (.tuple #[tval q (.slice a' n' c'), .int .i64 (erS by_ t)]) ∧ Hid ((erS by_ t = 0 → q = t.app (shf by_) ∧ n' = (t.app (shf by_)).args.length ∧ ArgsP (fun x => X.heap.size + 2 ≤ x) W' (.slice a' n' c') (t.app (shf by_)).args) ∧ Below X.heap.size X W' ∧ X.heap.size + 2 ≤ W'.heap.size ∧ W'.heap[X.heap.size + 1]? = some (.cells #[.int .i64 0, .string ⟨#[]⟩, .slice none 0 0] 28 (0, 0))) := hc.mono fun e W' ⟨h, hb⟩ => by
    have hW : Below X.heap.size X W' ∧ X.heap.size + 2 ≤ W'.heap.size ∧ W'.heap[X.heap.size + 1]? = some (.cells #[.int .i64 0, .string ⟨#[]⟩, .slice none 0 0] 28 (0, 0)) := ⟨HB.out.trans (hb.mono (by rw [HZ.out.2]; omega)), by have := hb.size; rw [HZ.out.2] at this; omega, (hb.block _ (by rw [HZ.out.2]; omega)).trans HZ.out.1⟩
    rcases h with ⟨hf, s5, he, hA⟩ | ⟨⟨n, hn, hf⟩, he⟩
    · have e0 : erS by_ t = 0 := by unfold erS fineT; rw [if_pos (List.all_eq_true.2 hf)]
      obtain ⟨a', c', rfl⟩ := hA.slice
      refine ⟨_, a', _, c', by rw [e0]; exact he, fun _ => ⟨rfl, rfl, ?_⟩, hW⟩
      exact (frP hA).keep (Nat.le_refl _) (fun k hk _ => ⟨by rw [HZ.out.2] at hk; omega, rfl⟩)
    · have e1 : erS by_ t = 1 := by
        unfold erS fineT
        rw [if_neg]
        intro h
        have := List.all_eq_true.1 h n hn
        rw [hf] at this
        cases this
      exact ⟨zt, none, 0, 0, (by rw [e1]; exact he), (fun h => (by rw [e1] at h; cases h)), hW⟩
  generalize erS by_ t = E at *
  generalize t.app (shf by_) = u at *
  clear hb2 hz hS ha hc hsh ht ht0
  go_enter Tryz.func27, Tryz.ntmps27
  go_wp2_with (go_at_call 28; refine hc2.mono ?_; rintro e W3 ⟨q, a', n', c', rfl, HH⟩; obtain ⟨⟨z0, z1, z2⟩, y0, y1, y2⟩ := box_facts HH.out.2.2.2)
  refine bodyPost_ret (v := .tuple #[tval q (.slice a' n' c'), .int .i64 E]) (by simp [results, Tryz.results27, go_sem, *]) rfl ⟨⟨_, _, _, _, rfl, fun h => ?_⟩, ?_⟩
  · obtain ⟨h1, h2, h3⟩ := HH.out.1 h
    exact ⟨h1, h2, h3.keep (Nat.le_of_eq (set3_size _ _ _ _ _ _).symm) (fun k hk _ => ⟨by omega, set3_other _ _ _ _ _ _ k (by omega)⟩)⟩
  · exact set3_below HH.out.2.1 _ 0 _ _ _ (Nat.le_succ _)

/-- The literal with its variables shifted. -/
def shL (by_ : Int) (x : Lt) : Lt := ⟨x.neg, x.l.app (shf by_), x.r.app (shf by_)⟩

def erK (by_ : Int) (l : List Lt) (k : Nat) : Int := match l[k / 2]? with
  | some x => if k % 2 = 0 then erS by_ x.l else erS by_ x.r
  | none => 0
theorem erK_even (by_ : Int) (l : List Lt) (i : Nat) (h : i < l.length) : erK by_ l (2 * i) = erS by_ l[i].l := by
  unfold erK
  rw [show 2 * i / 2 = i by omega, List.getElem?_eq_getElem h]
  simp
theorem erK_odd (by_ : Int) (l : List Lt) (i : Nat) (h : i < l.length) : erK by_ l (2 * i + 1) = erS by_ l[i].r := by
  unfold erK
  rw [show (2 * i + 1) / 2 = i by omega, List.getElem?_eq_getElem h]
  simp only
  rw [if_neg (by omega)]
def shAt (by_ : Int) (l : List Lt) (i : Nat) : Lt := match l[i]? with
  | some x => shL by_ x
  | none => ⟨false, zt, zt⟩
theorem shAt_lt (by_ : Int) (l : List Lt) (i : Nat) (h : i < l.length) : shAt by_ l i = shL by_ l[i] := by
  unfold shAt
  rw [List.getElem?_eq_getElem h]
theorem shAt_map (by_ : Int) (l : List Lt) : (List.range l.length).map (shAt by_ l) = l.map (shL by_) := by
  refine List.ext_getElem (by simp) fun i h1 h2 => ?_
  simp only [List.getElem_map, List.getElem_range]
  exact shAt_lt by_ l i (by simpa using h2)

set_option maxRecDepth 100000 in
set_option maxHeartbeats 2000000 in
theorem lshift_any (l : List Lt) (by_ : Int) (v : Value) (w : World) (hc : ClauseAt w v l) (hsz : csize l ≤ 1048576) (hshort : ∀ t ∈ sidesOf l, Short t) (hr : crightW l = 0) (hside : ∀ i (h : i < l.length), (l[i].l.shape = true ∧ l[i].l.rightW = 0 ∧ Short l[i].l) ∧ (l[i].r.shape = true ∧ l[i].r.rightW = 0 ∧ Short l[i].r)) :
    Calls Tryz.prog 9 #[v, .int .i64 by_] w fun e W' => ((∃ a' c', e = .returned (.tuple #[.slice a' l.length c', .int .i64 0]) ∧ ClauseAt W' (.slice a' l.length c') (l.map (shL by_)) ∧ ∀ x ∈ l, fineT by_ x.l = true ∧ fineT by_ x.r = true) ∨ (∃ E, E ≠ 0 ∧ e = .returned (.tuple #[.slice none 0 0, .int .i64 E]) ∧ ¬ ∀ x ∈ l, fineT by_ x.l = true ∧ fineT by_ x.r = true)) ∧ Below w.heap.size w W' := by
  have hlen : l.length ≤ 1048576 := by have := csize_len l; omega
  have hb1 := below_box w (.cells #[.int .i64 by_] 3)
  have hq1 := (Boxed.new w 3 (.int .i64 by_)).cell
  have hrt := lright_any l v _ (hc.keep hb1) hshort
  rw [hr] at hrt
  have hreb : ∀ W1, Below (w.alloc (.cells #[.int .i64 by_] 3)).heap.size (w.alloc (.cells #[.int .i64 by_] 3)) W1 → Calls Tryz.prog 20 #[v, .func (.func 27) #[] #[.pointer (some ⟨w.heap.size, 0, none⟩)]] W1 fun e W' => ((∃ a' c', e = .returned (.tuple #[.slice a' l.length c', .int .i64 0]) ∧ ClauseAt W' (.slice a' l.length c') (l.map (shL by_)) ∧ ∀ x ∈ l, fineT by_ x.l = true ∧ fineT by_ x.r = true) ∨ (∃ E, E ≠ 0 ∧ e = .returned (.tuple #[.slice none 0 0, .int .i64 E]) ∧ ¬ ∀ x ∈ l, fineT by_ x.l = true ∧ fineT by_ x.r = true)) ∧ Below w.heap.size w W' := by
    intro W1 hW1
    have hw1 : Below w.heap.size w W1 := hb1.trans (hW1.mono hb1.size)
    have hJ1 := kc hW1 (by simp) hq1
    refine (rebuilt_any 27 #[.pointer (some ⟨w.heap.size, 0, none⟩)] eg66 [] (fun _ X => X.cell? ⟨w.heap.size, 0, none⟩ = some (.int .i64 by_)) w l (shAt by_ l) (erK by_ l) v W1 hw1 hc hlen (by simp) hJ1 ?_ ?_ ?_ ?_).mono ?_
    · intro k X X' hJ h1 h2 h3
      have hlt : w.heap.size < W1.heap.size := by have := hW1.size; simp at this; omega
      rw [← hJ]
      simp [World.cell?, h3 w.heap.size hlt]
    · intro i hi s X hJ hX hM ha
      obtain ⟨⟨g1, g2, g3⟩, _⟩ := hside i hi
      refine (shift1_any by_ w.heap.size l[i].l g1 g3 g2 s X hJ (ArgsAt.keep hX (Nat.le_refl _) ha)).mono ?_
      rintro e X' ⟨⟨q, a', n', c', rfl, hq⟩, hb⟩
      rw [erK_even by_ l i hi, shAt_lt by_ l i hi]
      exact ⟨q, a', n', c', rfl, fun h0 => by obtain ⟨h1, h2, h3⟩ := hq h0; exact ⟨h1, h2, h3, kc hb (World.block_lt_of_cell? X _ hJ) hJ⟩, Only.of_below hb⟩
    · intro i hi s X hJ hX hM ha
      obtain ⟨_, g1, g2, g3⟩ := hside i hi
      refine (shift1_any by_ w.heap.size l[i].r g1 g3 g2 s X hJ (ArgsAt.keep hX (Nat.le_refl _) ha)).mono ?_
      rintro e X' ⟨⟨q, a', n', c', rfl, hq⟩, hb⟩
      rw [erK_odd by_ l i hi, shAt_lt by_ l i hi]
      exact ⟨q, a', n', c', rfl, fun h0 => by obtain ⟨h1, h2, h3⟩ := hq h0; exact ⟨h1, h2, h3, kc hb (World.block_lt_of_cell? X _ hJ) hJ⟩, Only.of_below hb⟩
    · intro i hi
      rw [shAt_lt by_ l i hi]
      rfl
    · rintro e W' ⟨h, hO⟩
      have hbW : Below w.heap.size w W' := hw1.trans (hO.below hw1.size (by simp))
      rcases h with ⟨v', rfl, hcl, _, her⟩ | ⟨k, hk, hne, _, rfl⟩
      · rw [shAt_map] at hcl
        obtain ⟨a', c', hv⟩ := hcl.slice
        rw [List.length_map] at hv
        subst hv
        refine ⟨.inl ⟨a', c', rfl, hcl, fun x hx => ?_⟩, hbW⟩
        obtain ⟨i, hi, rfl⟩ := List.getElem_of_mem hx
        have e1 := her (2 * i) (by omega)
        have e2 := her (2 * i + 1) (by omega)
        rw [erK_even by_ l i hi] at e1
        rw [erK_odd by_ l i hi] at e2
        unfold erS at e1 e2
        refine ⟨?_, ?_⟩
        · by_cases h : fineT by_ l[i].l = true
          · exact h
          · rw [if_neg h] at e1; cases e1
        · by_cases h : fineT by_ l[i].r = true
          · exact h
          · rw [if_neg h] at e2; cases e2
      · refine ⟨.inr ⟨_, hne, rfl, fun hall => hne ?_⟩, hbW⟩
        have hk2 : k / 2 < l.length := by omega
        obtain ⟨f1, f2⟩ := hall _ (List.getElem_mem hk2)
        unfold erK
        rw [List.getElem?_eq_getElem hk2]
        simp only
        split
        · unfold erS; rw [if_pos f1]
        · unfold erS; rw [if_pos f2]
  obtain ⟨a, c, rfl⟩ := hc.slice
  have HRB := hreb
  have HR : Hid (∀ W1, Below (w.alloc (.cells #[.int .i64 by_] 3)).heap.size (w.alloc (.cells #[.int .i64 by_] 3)) W1 → Calls Tryz.prog 20 #[.slice a l.length c, .func (.func 27) #[] #[.pointer (some ⟨w.heap.size, 0, none⟩)]] W1 fun e W' => ((∃ a' c', e = .returned (.tuple #[.slice a' l.length c', .int .i64 0]) ∧ ClauseAt W' (.slice a' l.length c') (l.map (shL by_)) ∧ ∀ x ∈ l, fineT by_ x.l = true ∧ fineT by_ x.r = true) ∨ (∃ E, E ≠ 0 ∧ e = .returned (.tuple #[.slice none 0 0, .int .i64 E]) ∧ ¬ ∀ x ∈ l, fineT by_ x.l = true ∧ fineT by_ x.r = true)) ∧ Below w.heap.size w W') := hreb
  clear hreb HRB hside hshort hc hr hsz
  go_enter Tryz.func9, Tryz.ntmps9
  go_wp2_with (first
    | (go_at_call 20; refine (HR.out W1 H1).mono ?_; rintro e W2 ⟨h, hb⟩; rcases h with ⟨a', c', rfl, hcl, hf⟩ | ⟨E, hE, rfl, hnf⟩)
    | (go_at_call 19; refine hrt.mono ?_; rintro e W1 ⟨rfl, H1⟩))
  · go_ret2
    exact ⟨.inl ⟨_, _, rfl, hcl, hf⟩, hb⟩
  · go_ret2
    exact ⟨.inr ⟨E, hE, rfl, hnf⟩, hb⟩

end Go.Proofs.YtgnjgpplelakkaaGreat
