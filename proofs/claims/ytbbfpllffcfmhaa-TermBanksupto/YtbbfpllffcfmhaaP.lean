/-
  A function that numbers nodes, and numberOf over it.
-/
import Derived.Test.YtbbfpllffcfmhaaO
import Derived.Deep.WholeRow
namespace Go.Proofs.Ytbbfpllffcfmhaa
open Go.RowKit Go.Maps

theorem Try.info82 : (Try.prog.info? 82).map (·.size) = some 19 := by kernel_rfl

/-- A node into the block that was made last. -/
theorem wpList_store_node (W : World) (B : Nat) (hB : W.heap.size = B) (z cells : Array Value) {ops : Array Oper} {rest : List Oper} {op : Oper} {a : Act} {Q : Exit → Act → World → Prop} (hgd : op.guard = none) (x y : Operand) (ho : op.op = .store 82 x y)
    (hx : a.eval x = .pointer (some ⟨B, 0, none⟩)) (hy : a.eval y = .agg cells) (hz : z.size = 19) (hs : cells.size = 19) (h1 : cells.all (·.oneCell') = true)
    (h : wpList Try.prog ops Q rest (a.put op.dst undef) (W.alloc (.cells cells 82))) : wpList Try.prog ops Q (op :: rest) a (W.alloc (.cells z 82)) := by
  subst hB
  refine wpList_plain hgd fun _ hK => ?_
  have hr := run_storeAt_new (P := Try.prog) W 82 z cells (by rw [hs]; exact Try.info82) (by rw [hz, hs]) h1
  unfold Oper.wp execOp
  simp only [ho, hx, hy, Sem.run_bind, hr, Result.andThen_ok, Sem.run_pure]
  exact hK _ _ h

/-- A node out of its block. -/
theorem wpList_load_node {ops : Array Oper} {rest : List Oper} {op : Oper} {a : Act} {w : World} {Q : Exit → Act → World → Prop} (hgd : op.guard = none) (x : Operand) (ho : op.op = .load 82 x)
    (b : Nat) (hx : a.eval x = .pointer (some ⟨b, 0, none⟩)) (cs : List Value) (hc : w.heap[b]? = some (.cells cs.toArray 82 (0, 0))) (hl : cs.length = 19)
    (h : wpList Try.prog ops Q rest (a.put op.dst (.agg cs.toArray)) w) : wpList Try.prog ops Q (op :: rest) a w :=
  wpList_load_mid hgd 82 x ho b 0 hx cs _ (fun j v hv => by rw [Nat.zero_add, cell_of_row _ _ _ _ 82 (0, 0) hc]; simpa using hv) Try.underlying82 rfl (by rw [hl]; exact Try.info82) h

theorem nd_one (v : Int) (fn : ByteArray) (argc : Nat) (ids : List Int) : (ndCells v fn argc ids).toArray.all (·.oneCell') = true :=
  all_oneCell_toArray fun u hu => by
    simp only [ndCells, pad, List.mem_append, List.mem_cons, List.not_mem_nil, or_false, List.mem_map] at hu
    rcases hu with (rfl | rfl | rfl) | ⟨i, _, rfl⟩ <;> rfl

theorem run_build_node (v : Int) (fn : ByteArray) (n : Int) (w : World) : (Instr.build 82 #[(0, .int .i64 v), (1, .string fn), (2, .int .i64 n)]).run Try.prog w = .ok (.agg ([Value.int .i64 v, .string fn, .int .i64 n] ++ pad []).toArray) w := by kernel_rfl

theorem wpList_build_node (v : Int) (fn : ByteArray) (n : Nat) {ops : Array Oper} {rest : List Oper} {op : Oper} {a : Act} {w : World} {Q : Exit → Act → World → Prop} (hgd : op.guard = none) (x y z : Operand) (ho : op.op = .build 82 #[(0, x), (1, y), (2, z)])
    (hx : a.eval x = .int .i64 v) (hy : a.eval y = .string fn) (hz : a.eval z = .int .i64 n)
    (h : wpList Try.prog ops Q rest (a.put op.dst (.agg (ndCells v fn n []).toArray)) w) : wpList Try.prog ops Q (op :: rest) a w := by
  refine wpList_plain hgd fun _ hK => ?_
  have hr := run_build_node v fn n w
  unfold Oper.wp execOp
  simp only [ho, Sem.run_bind, Sem.run_pure, List.map_toArray, List.map_cons, List.map_nil, hx, hy, hz, hr, Result.andThen_ok]
  exact hK _ _ h

/-- What numbers nodes: its states, where they lie, what it answers. -/
structure Numb where
  σ : Type
  St : List Nat → σ → World → Prop
  step : σ → Nd → σ × Int
  Has : σ → Int → Prop
  cnt : σ → Nat
  n0 : Nat
  keep : ∀ B s W W', St B s W → (∀ r ∈ B, W'.heap[r]? = W.heap[r]?) → W.heap.size ≤ W'.heap.size → St B s W'
  low : ∀ B s W, St B s W → ∀ r ∈ B, n0 ≤ r ∧ r < W.heap.size
  has : ∀ s nd id, Has s id → Has (step s nd).1 id
  hasNew : ∀ s nd, Has (step s nd).1 (step s nd).2
  fit : ∀ s id, Has s id → Fit64 id
  cntUp : ∀ s nd, cnt (step s nd).1 ≤ cnt s + 1

/-- The numbers of terms, from the left, arguments ahead of what they are of. -/
def Numb.num (M : Numb) : T → M.σ → M.σ × Int
  | .mk v fn args, s => M.step (nums args s).1 ⟨v, fn, (nums args s).2⟩
where nums : List T → M.σ → M.σ × List Int
  | [], s => (s, [])
  | a :: r, s => ((nums r (M.num a s).1).1, (M.num a s).2 :: (nums r (M.num a s).1).2)

theorem Numb.num_eq (M : Numb) (t : T) (s : M.σ) : M.num t s = M.step (Numb.num.nums M t.args s).1 ⟨t.v, t.fn, (Numb.num.nums M t.args s).2⟩ := by
  cases t
  simp only [Numb.num, T.v, T.fn, T.args]

theorem Numb.nums_snoc (M : Numb) : ∀ (l : List T) (a : T) (s : M.σ), Numb.num.nums M (l ++ [a]) s = ((M.num a (Numb.num.nums M l s).1).1, (Numb.num.nums M l s).2 ++ [(M.num a (Numb.num.nums M l s).1).2])
  | [], a, s => rfl
  | b :: r, a, s => by
    simp only [List.cons_append, Numb.num.nums]
    rw [Numb.nums_snoc M r a]

theorem Numb.facts (M : Numb) (t : T) : ∀ s : M.σ, (∀ id, M.Has s id → M.Has (M.num t s).1 id) ∧ M.Has (M.num t s).1 (M.num t s).2 ∧ (M.cnt (M.num t s).1 : Int) ≤ M.cnt s + t.size := by
  induction t using T.ind with
  | _ t ih =>
    intro s
    have h : ∀ (l : List T) (s : M.σ), (∀ a ∈ l, a ∈ t.args) → (∀ id, M.Has s id → M.Has (Numb.num.nums M l s).1 id) ∧ (M.cnt (Numb.num.nums M l s).1 : Int) ≤ M.cnt s + (l.map T.size).sum := by
      intro l
      induction l with
      | nil => intro s _; exact ⟨fun _ h => h, by simp [Numb.num.nums]⟩
      | cons a r ihl =>
        intro s hm
        obtain ⟨h1, _, h3⟩ := ih a (hm a (by simp)) s
        obtain ⟨g1, g2⟩ := ihl (M.num a s).1 (fun b hb => hm b (by simp [hb]))
        refine ⟨fun id h => g1 id (h1 id h), ?_⟩
        simp only [Numb.num.nums, List.map_cons, List.sum_cons]
        omega
    obtain ⟨g1, g2⟩ := h t.args s (fun _ h => h)
    rw [M.num_eq, t.size_eq]
    refine ⟨fun id hid => M.has _ _ _ (g1 id hid), M.hasNew _ _, ?_⟩
    have := M.cntUp (Numb.num.nums M t.args s).1 ⟨t.v, t.fn, (Numb.num.nums M t.args s).2⟩
    omega

theorem Numb.nums_len (M : Numb) : ∀ (l : List T) (s : M.σ), (Numb.num.nums M l s).2.length = l.length
  | [], _ => rfl
  | a :: r, s => by simp [Numb.num.nums, Numb.nums_len M r]

theorem Numb.nums_has (M : Numb) : ∀ (l : List T) (s : M.σ), (∀ id, M.Has s id → M.Has (Numb.num.nums M l s).1 id) ∧ (∀ id ∈ (Numb.num.nums M l s).2, M.Has (Numb.num.nums M l s).1 id) ∧ (M.cnt (Numb.num.nums M l s).1 : Int) ≤ M.cnt s + (l.map T.size).sum
  | [], s => ⟨fun _ h => h, fun _ h => (by cases h), by simp [Numb.num.nums]⟩
  | a :: r, s => by
    obtain ⟨h1, h2, h3⟩ := M.facts a s
    obtain ⟨g1, g2, g3⟩ := Numb.nums_has M r (M.num a s).1
    refine ⟨fun id h => g1 id (h1 id h), fun id hid => ?_, ?_⟩
    · simp only [Numb.num.nums] at hid ⊢
      rcases List.mem_cons.1 hid with rfl | hid
      · exact g1 _ h2
      · exact g2 id hid
    · simp only [Numb.num.nums, List.map_cons, List.sum_cons]
      omega

/-- What a call did to the state and the world. -/
def Numb.Did (M : Numb) (B : List Nat) (s' : M.σ) (W W' : World) : Prop := ∃ B', M.St B' s' W' ∧ (∀ r ∈ B', r ∈ B ∨ W.heap.size ≤ r) ∧ Only B W W'

/-- A call of what numbers nodes. -/
def Numb.Asks (M : Numb) (g : Nat) (args : Value → Array Value) : Prop :=
  ∀ B s (nd : Nd) W, M.St B s W → (∀ a ∈ nd.args, M.Has s a) → nd.Fine → M.cnt s ≤ 1073741824 →
    Go.Calls Try.prog g (args nd.val) W fun e W' => e = .returned (.int .i64 (M.step s nd).2) ∧ M.Did B (M.step s nd).1 W W'

/-- The contract of numberOf at t. -/
def Numb.NumAt (M : Numb) (w0 : World) (fv : Value) (t : T) : Prop :=
  ∀ B s sl W, M.St B s W → ArgsAt w0 sl t.args → Below w0.heap.size w0 W → t.shape = true → (M.cnt s : Int) + t.size ≤ 1073741824 →
    Go.Calls Try.prog 49 #[tval t sl, fv] W fun e W' => e = .returned (.int .i64 (M.num t s).2) ∧ M.Did B (M.num t s).1 W W'

theorem size_pos (t : T) : 1 ≤ t.size := by
  induction t using T.ind with
  | _ t ih =>
    rw [t.size_eq]
    have : ∀ l : List T, (∀ a ∈ l, a ∈ t.args) → 0 ≤ (l.map T.size).sum := by
      intro l
      induction l with
      | nil => intro _; simp
      | cons a r ihl =>
        intro hm
        have h1 := ih a (hm a (by simp))
        have h2 := ihl (fun b hb => hm b (by simp [hb]))
        simp only [List.map_cons, List.sum_cons]
        omega
    have := this t.args (fun _ h => h)
    omega

theorem shape_args {t : T} (h : t.shape = true) : t.args.length ≤ 16 ∧ t.fn.size ≤ 64 ∧ Fit64 t.v ∧ ∀ a ∈ t.args, a.shape = true := by
  rw [t.shape_eq] at h
  by_cases h0 : t.fn.size = 0
  · rw [if_pos h0] at h
    simp only [Bool.and_eq_true, decide_eq_true_eq] at h
    refine ⟨by omega, by omega, ⟨by omega, by omega⟩, fun a ha => ?_⟩
    rw [List.length_eq_zero_iff.1 h.2] at ha
    cases ha
  · rw [if_neg h0] at h
    simp only [Bool.and_eq_true, decide_eq_true_eq, List.all_eq_true] at h
    exact ⟨h.1.2, h.1.1.2, ⟨by omega, by omega⟩, h.2⟩

theorem set_node {W : World} {g i : Nat} {cs : List Value} {v : Value} (h : W.heap[g]? = some (.cells cs.toArray 82 (0, 0))) : (W.setCell ⟨g, i, none⟩ v).heap[g]? = some (.cells (cs.set i v).toArray 82 (0, 0)) := by
  rw [setCell_eq_setRow W g i _ 82 (0, 0) _ h, setRow_heap W g _ _ 82 (0, 0) h]
  simp

end Go.Proofs.Ytbbfpllffcfmhaa
