/-
  The document's Depth, Shape, Right.
-/
import Derived.Test.YtbbfpllffcfmhaaA
namespace Go.Proofs.Ytbbfpllffcfmhaa
open Go.RowKit

/-- The depth, as the machine counts. -/
def T.depthW : T → Int
  | .mk _ _ args => wrap64 (mxs args 0 + 1)
where mxs : List T → Int → Int
  | [], m => m
  | a :: r, m => mxs r (max m (T.depthW a))

/-- The greatest of the first k. -/
def mx (f : T → Int) (l : List T) (k : Nat) : Int := ((l.take k).map f).foldl max 0
theorem mx_succ (f : T → Int) (l : List T) (k : Nat) (h : k < l.length) : mx f l (k + 1) = max (mx f l k) (f l[k]) := by
  unfold mx
  rw [List.take_succ_eq_append_getElem h]
  simp only [List.map_append, List.foldl_append, List.map_cons, List.map_nil, List.foldl_cons, List.foldl_nil]
theorem mx_zero (f : T → Int) (l : List T) : mx f l 0 = 0 := by simp [mx]
theorem mx_all (f : T → Int) (l : List T) (k : Nat) (h : l.length ≤ k) : mx f l k = (l.map f).foldl max 0 := by
  unfold mx
  rw [List.take_of_length_le h]

theorem T.depthW_eq (t : T) : t.depthW = wrap64 ((t.args.map T.depthW).foldl max 0 + 1) := by
  have h : ∀ (l : List T) (m : Int), T.depthW.mxs l m = (l.map T.depthW).foldl max m := by
    intro l
    induction l with
    | nil => intro m; rfl
    | cons a r ih => intro m; simp [T.depthW.mxs, ih]
  cases t with
  | mk v fn args => simp [T.depthW, T.args, h]

set_option maxHeartbeats 400000 in
theorem rdepth_any (t : T) : ∀ (sl : Value) (w : World), ArgsAt w sl t.args →
    Calls Try.prog 13 #[tval t sl] w fun e w' => e = .returned (.int .i64 t.depthW) ∧ Below w.heap.size w w' := by
  induction t using T.ind with
  | _ t ih =>
    intro sl w ha
    obtain ⟨a, c, rfl, hc, hm⟩ := ha.slice
    have HS : Hid (t.depthW = wrap64 ((t.args.map T.depthW).foldl max 0 + 1)) := t.depthW_eq
    go_enter Try.func13, Try.ntmps13
    go_wp2
    go_loopw [3, 4] (fun n i wr => ∃ k : Nat, k ≤ t.args.length ∧ i = .int .i64 k ∧ n = .int .i64 (mx T.depthW t.args k) ∧ Below (w.heap.size + 1) (w.alloc (tbox t (.slice a t.args.length c))) wr) (fun _ i _ => t.args.length - (intOf i).toNat)
    case atStart => exact ⟨0, Nat.zero_le _, rfl, by rw [mx_zero], Below.refl _ _⟩
    case round =>
      obtain ⟨k, hk, rfl, rfl, hb⟩ := hrel
      obtain ⟨_, _, t2⟩ := tbox_cells w t (.slice a t.args.length c)
      have t2' := (hb.cell (p := ⟨w.heap.size, 2, none⟩) (Nat.lt_succ_self _)).trans t2
      clear t2
      have haw := ArgsAt.keep (((below_box w (tbox t (.slice a t.args.length c)))).trans (hb.mono (Nat.le_succ _))) (Nat.le_refl _) ha
      by_cases hlt : k < t.args.length
      · obtain ⟨b, o, s, rfl, hbl, c0, c1, c2, hs⟩ := haw.nth hlt
        have ih' := ih t.args[k] (List.getElem_mem hlt) s _ hs
        go_wp2_with (go_at_call 13; refine ih'.mono ?_; rintro e w' ⟨rfl, hb'⟩)
        all_goals go_roundw
        case rel => exact ⟨k + 1, by omega, by go_num, by rw [mx_succ _ _ _ hlt]; exact congrArg _ (by split <;> omega), hb.trans (hb'.mono (by have := hb.size; simp at this; omega))⟩
        case measure => simp [intOf]; omega
      · go_wp2
        go_ret
        refine ⟨ret_i64 ?_, (below_box w _).trans (hb.mono (Nat.le_succ _))⟩
        rw [HS.out, mx_all _ _ _ (by omega)]

/-- The right shape, all through. -/
def T.shape : T → Bool
  | .mk v fn args => if fn.size = 0 then decide (0 ≤ v) && decide (v < 1000000) && decide (args.length = 0) else decide (v = 0) && decide (fn.size ≤ 64) && decide (args.length ≤ 16) && shapes args
where shapes : List T → Bool
  | [] => true
  | a :: r => T.shape a && shapes r

theorem T.shape_eq (t : T) : t.shape = if t.fn.size = 0 then decide (0 ≤ t.v) && decide (t.v < 1000000) && decide (t.args.length = 0) else decide (t.v = 0) && decide (t.fn.size ≤ 64) && decide (t.args.length ≤ 16) && t.args.all T.shape := by
  have h : ∀ (l : List T), T.shape.shapes l = l.all T.shape := by
    intro l
    induction l with
    | nil => rfl
    | cons a r ih => simp [T.shape.shapes, ih]
  cases t with
  | mk v fn args =>
    show (if fn.size = 0 then decide (0 ≤ v) && decide (v < 1000000) && decide (args.length = 0) else decide (v = 0) && decide (fn.size ≤ 64) && decide (args.length ≤ 16) && T.shape.shapes args) = if fn.size = 0 then decide (0 ≤ v) && decide (v < 1000000) && decide (args.length = 0) else decide (v = 0) && decide (fn.size ≤ 64) && decide (args.length ≤ 16) && args.all T.shape
    rw [h]

theorem int_len0 (l : List T) : ((l.length : Int) == 0) = decide (l = []) := by
  cases l with
  | nil => rfl
  | cons a r =>
    have : (((a :: r).length : Int) == 0) = false := by simp; omega
    rw [this]
    simp
theorem ba_isEmpty (s : ByteArray) : s.toList.isEmpty = decide (s.size = 0) := by
  rw [ByteArray.toList_eq]
  cases s with
  | mk d =>
    cases d with
    | mk l => cases l <;> rfl
theorem ba_empty {s : ByteArray} : s.size = 0 ↔ s = ⟨#[]⟩ := by
  constructor
  · intro h
    cases s with
    | mk d =>
      have : d.size = 0 := h
      rw [Array.size_eq_zero_iff] at this
      rw [this]
  · rintro rfl
    rfl

set_option maxHeartbeats 400000 in
theorem rshape_var (t : T) (sl : Value) (w : World) (ha : ArgsAt w sl t.args) (h0 : t.fn = ⟨#[]⟩) :
    Calls Try.prog 34 #[tval t sl] w fun e w' => e = .returned (.bool t.shape) ∧ Below w.heap.size w w' := by
  obtain ⟨a, c, rfl, hc, hm⟩ := ha.slice
  have HS : Hid (t.shape = (decide (0 ≤ t.v) && decide (t.v < 1000000) && decide (t.args.length = 0))) := by
    show t.shape = _
    rw [t.shape_eq, if_pos (ba_empty.2 h0)]
  have h1 : t.fn.toList.isEmpty = true := by rw [ba_isEmpty, h0]; rfl
  clear h0
  go_enter Try.func34, Try.ntmps34
  go_wp2
  all_goals go_ret
  all_goals refine ⟨ret_bool ?_, below_box w _⟩
  all_goals rw [HS.out]
  all_goals first | (simp; omega) | (simp; done) | simp [*, int_len0] | trace_state

theorem shape_bad {t : T} (h0 : t.fn.size ≠ 0) (h : t.v ≠ 0 ∨ 64 < t.fn.size ∨ 16 < t.args.length) : t.shape = false := by
  rw [t.shape_eq, if_neg h0]
  simp only [Bool.and_eq_false_iff, decide_eq_false_iff_not]
  rcases h with h | h | h
  · simp [h]
  · exact .inl (.inl (.inr (by omega)))
  · exact .inl (.inr (by omega))
theorem shape_good {t : T} (h0 : t.fn.size ≠ 0) (h1 : t.v = 0) (h2 : t.fn.size ≤ 64) (h3 : t.args.length ≤ 16) : t.shape = t.args.all T.shape := by
  rw [t.shape_eq, if_neg h0]
  simp [h1, h2, h3]

set_option maxHeartbeats 1000000 in
theorem rshape_fn (t : T) (ih : ∀ a ∈ t.args, ∀ (sl : Value) (w : World), ArgsAt w sl a.args → Calls Try.prog 34 #[tval a sl] w fun e w' => e = .returned (.bool a.shape) ∧ Below w.heap.size w w') (sl : Value) (w : World) (ha : ArgsAt w sl t.args) (h0 : t.fn ≠ ⟨#[]⟩) :
    Calls Try.prog 34 #[tval t sl] w fun e w' => e = .returned (.bool t.shape) ∧ Below w.heap.size w w' := by
  obtain ⟨a, c, rfl, hc, hm⟩ := ha.slice
  have hs0 : t.fn.size ≠ 0 := fun h => h0 (ba_empty.1 h)
  have h1 : t.fn.toList.isEmpty = false := by
    rw [ba_isEmpty]
    simpa using hs0
  by_cases hv : t.v ≠ 0 ∨ 64 < t.fn.size ∨ 16 < t.args.length
  · have HS : Hid (t.shape = false) := shape_bad hs0 hv
    go_enter Try.func34, Try.ntmps34
    go_wp2
    all_goals try (exfalso; omega)
    all_goals go_ret
    all_goals exact ⟨ret_bool (by rw [HS.out]), below_box w _⟩
  · have HS : Hid (t.shape = t.args.all T.shape) := shape_good hs0 (by omega) (by omega) (by omega)
    have v0 : Hid (t.v = 0) := by show t.v = 0; omega
    have hf : t.fn.size ≤ 64 := by omega
    have hl : t.args.length ≤ 16 := by omega
    clear hv hs0 h0
    have vb : (t.v != 0) = false := by rw [show t.v = 0 from v0]; rfl
    go_enter Try.func34, Try.ntmps34
    go_wp2
    go_loopw [3] (fun i wr => ∃ k : Nat, k ≤ t.args.length ∧ i = .int .i64 k ∧ Hid ((t.args.take k).all T.shape = true) ∧ Below (w.heap.size + 1) (w.alloc (tbox t (.slice a t.args.length c))) wr) (fun i _ => t.args.length - (intOf i).toNat)
    case atStart =>
      refine ⟨0, Nat.zero_le _, rfl, by simp [Hid], ?_⟩
      have e : tbox t (.slice a t.args.length c) = .cells #[.int .i64 0, .string t.fn, .slice a t.args.length c] 24 := by show Obj.cells _ _ _ = _; rw [show t.v = 0 from v0]
      first | exact Below.refl _ _ | (rw [e]; exact Below.refl _ _)
    case round =>
      obtain ⟨k, hk, rfl, hall, hb⟩ := hrel
      obtain ⟨_, _, t2⟩ := tbox_cells w t (.slice a t.args.length c)
      have t2' := (hb.cell (p := ⟨w.heap.size, 2, none⟩) (Nat.lt_succ_self _)).trans t2
      clear t2
      have haw := ArgsAt.keep (((below_box w (tbox t (.slice a t.args.length c)))).trans (hb.mono (Nat.le_succ _))) (Nat.le_refl _) ha
      by_cases hlt : k < t.args.length
      · obtain ⟨b, o, s, rfl, hbl, c0, c1, c2, hs⟩ := haw.nth hlt
        have ih' := ih t.args[k] (List.getElem_mem hlt) s _ hs
        have hbb : ∀ w', Below wr.heap.size wr w' → Below (w.heap.size + 1) (w.alloc (tbox t (.slice (some ⟨b, o, none⟩) t.args.length c))) w' := fun w' hb' => hb.trans (hb'.mono (by have := hb.size; simp at this; omega))
        clear ih ha haw
        cases hsh : t.args[k].shape
        · rw [hsh] at ih'
          have Hf : Hid (t.shape = false) := by
            show t.shape = false
            rw [HS, List.all_eq_false]
            exact ⟨_, List.getElem_mem hlt, by simp [hsh]⟩
          clear hsh
          go_wp2_with (go_at_call 34; refine ih'.mono ?_; rintro e w' ⟨rfl, hb'⟩)
          go_ret
          exact ⟨ret_bool (by rw [Hf]), (below_box w _).trans ((hbb _ hb').mono (Nat.le_succ _))⟩
        · rw [hsh] at ih'
          have Hf : Hid ((t.args.take (k + 1)).all T.shape = true) := by
            show (t.args.take (k + 1)).all T.shape = true
            rw [List.take_succ_eq_append_getElem hlt, List.all_append, hall]
            simp [hsh]
          clear hsh
          go_wp2_with (go_at_call 34; refine ih'.mono ?_; rintro e w' ⟨rfl, hb'⟩)
          go_roundw
          case rel => exact ⟨k + 1, by omega, by go_num, Hf, hbb _ hb'⟩
          case measure => simp [intOf]; omega
      · have Hf : Hid (t.shape = true) := by
          show t.shape = true
          rw [HS, ← hall, List.take_of_length_le (by omega)]
        go_wp2
        go_ret
        exact ⟨ret_bool (by rw [Hf]), (below_box w _).trans (hb.mono (Nat.le_succ _))⟩

theorem rshape_any (t : T) : ∀ (sl : Value) (w : World), ArgsAt w sl t.args →
    Calls Try.prog 34 #[tval t sl] w fun e w' => e = .returned (.bool t.shape) ∧ Below w.heap.size w w' := by
  induction t using T.ind with
  | _ t ih =>
    intro sl w ha
    by_cases h0 : t.fn = ⟨#[]⟩
    · exact rshape_var t sl w ha h0
    · exact rshape_fn t ih sl w ha h0

/-- What Right answers, as the machine counts. -/
def T.rightW (t : T) : Int := if t.shape = false then 1 else if 60 < t.depthW then 22 else if 4000 < wrap64 t.size then 3 else 0

set_option maxHeartbeats 400000 in
theorem rright_any (t : T) (sl : Value) (w : World) (ha : ArgsAt w sl t.args) :
    Calls Try.prog 9 #[tval t sl] w fun e w' => e = .returned (.int .i64 t.rightW) ∧ Below w.heap.size w w' := by
  have HR : Hid (t.rightW = _) := rfl
  have b0 := below_box w (tbox t sl)
  have a1 := ArgsAt.keep b0 (Nat.le_refl _) ha
  have hsz : (w.alloc (tbox t sl)).heap.size = w.heap.size + 1 := by simp
  have c1 := rshape_any t sl _ a1
  obtain ⟨t0, t1, t2⟩ := tbox_cells w t sl
  rw [hsz] at c1
  cases hsh : t.shape
  · rw [hsh] at c1
    have Hf : Hid (t.rightW = 1) := by show t.rightW = 1; unfold T.rightW; rw [if_pos hsh]
    clear hsh
    go_enter Try.func9, Try.ntmps9
    go_wp2_with (go_at_call 34; refine c1.mono ?_; rintro e w' ⟨rfl, hb'⟩)
    go_ret
    exact ⟨ret_i64 (by rw [Hf]), b0.trans (hb'.mono (by simp))⟩
  · rw [hsh] at c1
    by_cases hd : 60 < t.depthW
    · have Hf : Hid (t.rightW = 22) := by show t.rightW = 22; unfold T.rightW; rw [if_neg (by simp [hsh]), if_pos hd]
      clear hsh
      go_enter Try.func9, Try.ntmps9
      go_wp2_with (first | (go_at_call 34; refine c1.mono ?_; rintro e w' ⟨rfl, hb'⟩; have a2 := ArgsAt.keep hb' (by simp) a1; have c2 := rdepth_any t sl _ a2; obtain ⟨hcc, _⟩ := bcell hb'; rw [← hcc _ _ (Nat.lt_succ_self _)] at t0 t1 t2; clear hcc) | (go_at_call 13; refine c2.mono ?_; rintro e w' ⟨rfl, hb2⟩))
      go_ret
      exact ⟨ret_i64 (by rw [Hf]), b0.trans ((hb'.mono (by simp)).trans (hb2.mono (by have := hb'.size; simp at this; omega)))⟩
    · by_cases hz : 4000 < wrap64 t.size
      · have Hf : Hid (t.rightW = 3) := by show t.rightW = 3; unfold T.rightW; rw [if_neg (by simp [hsh]), if_neg hd, if_pos hz]
        clear hsh
        go_enter Try.func9, Try.ntmps9
        go_wp2_with (first | (go_at_call 34; refine c1.mono ?_; rintro e w' ⟨rfl, hb'⟩; have a2 := ArgsAt.keep hb' (by simp) a1; have c2 := rdepth_any t sl _ a2; obtain ⟨hcc, _⟩ := bcell hb'; rw [← hcc _ _ (Nat.lt_succ_self _)] at t0 t1 t2; clear hcc) | (go_at_call 13; refine c2.mono ?_; rintro e w2 ⟨rfl, hb2⟩; have a3 := ArgsAt.keep hb2 (Nat.le_refl _) a2; have c3 := rsize_any t sl _ a3; obtain ⟨hcc, _⟩ := bcell hb2; rw [← hcc _ _ (by have := hb'.size; simp at this; omega)] at t0 t1 t2; clear hcc) | (go_at_call 11; refine c3.mono ?_; rintro e w3 ⟨rfl, hb3⟩))
        go_ret
        exact ⟨ret_i64 (by rw [Hf]), b0.trans ((hb'.mono (by simp)).trans ((hb2.mono (by have := hb'.size; simp at this; omega)).trans (hb3.mono (by have := hb'.size; have := hb2.size; simp at *; omega))))⟩
      · have Hf : Hid (t.rightW = 0) := by show t.rightW = 0; unfold T.rightW; rw [if_neg (by simp [hsh]), if_neg hd, if_neg hz]
        clear hsh
        go_enter Try.func9, Try.ntmps9
        go_wp2_with (first | (go_at_call 34; refine c1.mono ?_; rintro e w' ⟨rfl, hb'⟩; have a2 := ArgsAt.keep hb' (by simp) a1; have c2 := rdepth_any t sl _ a2; obtain ⟨hcc, _⟩ := bcell hb'; rw [← hcc _ _ (Nat.lt_succ_self _)] at t0 t1 t2; clear hcc) | (go_at_call 13; refine c2.mono ?_; rintro e w2 ⟨rfl, hb2⟩; have a3 := ArgsAt.keep hb2 (Nat.le_refl _) a2; have c3 := rsize_any t sl _ a3; obtain ⟨hcc, _⟩ := bcell hb2; rw [← hcc _ _ (by have := hb'.size; simp at this; omega)] at t0 t1 t2; clear hcc) | (go_at_call 11; refine c3.mono ?_; rintro e w3 ⟨rfl, hb3⟩))
        go_ret
        exact ⟨ret_i64 (by rw [Hf]), b0.trans ((hb'.mono (by simp)).trans ((hb2.mono (by have := hb'.size; simp at this; omega)).trans (hb3.mono (by have := hb'.size; have := hb2.size; simp at *; omega))))⟩

end Go.Proofs.Ytbbfpllffcfmhaa
