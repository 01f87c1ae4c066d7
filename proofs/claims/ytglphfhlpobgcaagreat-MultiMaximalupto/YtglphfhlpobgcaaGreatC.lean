import Derived.Test.YtglphfhlpobgcaaGreatA
import Derived.Deep.RegionHeld3

namespace Go.Proofs.YtglphfhlpobgcaaGreat
open Go.RowKit
def T.depthW : T → Int
  | .mk _ _ args => wrap64 (mxs args 0 + 1)
where mxs : List T → Int → Int
  | [], m => m
  | a :: r, m => mxs r (max m (T.depthW a))
def mx (f : T → Int) (l : List T) (k : Nat) : Int := ((l.take k).map f).foldl max 0
theorem mx_succ (f : T → Int) (l : List T) (k : Nat) (h : k < l.length) : mx f l (k + 1) = max (mx f l k) (f l[k]) := by
  unfold mx
  rw [List.take_succ_eq_append_getElem h]
  simp only [List.map_append, List.foldl_append, List.map_cons, List.map_nil, List.foldl_cons, List.foldl_nil]
theorem mx_zero (f : T → Int) (l : List T) : mx f l 0 = 0 := by simp [mx]
theorem mx_all (f : T → Int) (l : List T) (k : Nat) (h : l.length ≤ k) : mx f l k = (l.map f).foldl max 0 := by
  unfold mx
  rw [List.take_of_length_le h]
theorem T.depthW_eq (t : T) : t.depthW = wrap64 ((t.args.map T.depthW).foldl max 0 + 1) := by
  have h : ∀ (l : List T) (m : Int), T.depthW.mxs l m = (l.map T.depthW).foldl max m := by
    intro l
    induction l with
    | nil => intro m; rfl
    | cons a r ih => intro m; simp [T.depthW.mxs, ih]
  cases t with
  | mk v fn args => simp [T.depthW, T.args, h]
set_option maxHeartbeats 400000 in
theorem rdepth_any (t : T) : ∀ (sl : Value) (w : World), ArgsAt w sl t.args →
    Calls Tryz.prog 76 #[tval t sl] w fun e w' => e = .returned (.int .i64 t.depthW) ∧ Below w.heap.size w w' := by
  induction t using T.ind with
  | _ t ih =>
    intro sl w ha
    obtain ⟨a, c, rfl, hc, hm⟩ := ha.slice
    have HS : Hid (t.depthW = wrap64 ((t.args.map T.depthW).foldl max 0 + 1)) := t.depthW_eq
    go_enter Tryz.func76, Tryz.ntmps76
    go_wp2
    go_loopw [3, 4] (fun n i wr => ∃ k : Nat, k ≤ t.args.length ∧ i = .int .i64 k ∧ n = .int .i64 (mx T.depthW t.args k) ∧ Below (w.heap.size + 1) (w.alloc (tbox t (.slice a t.args.length c))) wr) (fun _ i _ => t.args.length - (intOf i).toNat)
    case atStart => exact ⟨0, Nat.zero_le _, rfl, by rw [mx_zero], Below.refl _ _⟩
    case round =>
      obtain ⟨k, hk, rfl, rfl, hb⟩ := hrel
      obtain ⟨_, _, t2⟩ := tbox_cells w t (.slice a t.args.length c)
      have t2' := (hb.cell (p := ⟨w.heap.size, 2, none⟩) (Nat.lt_succ_self _)).trans t2
      clear t2
      have haw := ArgsAt.keep (((below_box w (tbox t (.slice a t.args.length c)))).trans (hb.mono (Nat.le_succ _))) (Nat.le_refl _) ha
      by_cases hlt : k < t.args.length
      · obtain ⟨b, o, s, rfl, hbl, c0, c1, c2, hs⟩ := haw.nth hlt
        have ih' := ih t.args[k] (List.getElem_mem hlt) s _ hs
        go_wp2_with (go_at_call 76; refine ih'.mono ?_; rintro e w' ⟨rfl, hb'⟩)
        all_goals go_roundw
        case rel => exact ⟨k + 1, by omega, by go_num, by rw [mx_succ _ _ _ hlt]; exact congrArg _ (by split <;> omega), hb.trans (hb'.mono (by have := hb.size; simp at this; omega))⟩
        case measure => simp [intOf]; omega
      · go_wp2
        go_ret
        refine ⟨ret_i64 ?_, (below_box w _).trans (hb.mono (Nat.le_succ _))⟩
        rw [HS.out, mx_all _ _ _ (by omega)]
def T.shape : T → Bool
  | .mk v fn args => if fn.size = 0 then decide (0 ≤ v) && decide (v < 1000000) && decide (args.length = 0) else decide (v = 0) && decide (fn.size ≤ 64) && decide (args.length ≤ 16) && shapes args
where shapes : List T → Bool
  | [] => true
  | a :: r => T.shape a && shapes r
theorem T.shape_eq (t : T) : t.shape = if t.fn.size = 0 then decide (0 ≤ t.v) && decide (t.v < 1000000) && decide (t.args.length = 0) else decide (t.v = 0) && decide (t.fn.size ≤ 64) && decide (t.args.length ≤ 16) && t.args.all T.shape := by
  have h : ∀ (l : List T), T.shape.shapes l = l.all T.shape := by
    intro l
    induction l with
    | nil => rfl
    | cons a r ih => simp [T.shape.shapes, ih]
  cases t with
  | mk v fn args =>
    show (if fn.size = 0 then decide (0 ≤ v) && decide (v < 1000000) && decide (args.length = 0) else decide (v = 0) && decide (fn.size ≤ 64) && decide (args.length ≤ 16) && T.shape.shapes args) = if fn.size = 0 then decide (0 ≤ v) && decide (v < 1000000) && decide (args.length = 0) else decide (v = 0) && decide (fn.size ≤ 64) && decide (args.length ≤ 16) && args.all T.shape
    rw [h]
theorem int_len0 (l : List T) : ((l.length : Int) == 0) = decide (l = []) := by
  cases l with
  | nil => rfl
  | cons a r =>
    have : (((a :: r).length : Int) == 0) = false := by simp; omega
    rw [this]
    simp
theorem ba_isEmpty (s : ByteArray) : s.toList.isEmpty = decide (s.size = 0) := by
  rw [ByteArray.toList_eq]
  cases s with
  | mk d =>
    cases d with
    | mk l => cases l <;> rfl
theorem ba_empty {s : ByteArray} : s.size = 0 ↔ s = ⟨#[]⟩ := by
  constructor
  · intro h
    cases s with
    | mk d =>
      have : d.size = 0 := h
      rw [Array.size_eq_zero_iff] at this
      rw [this]
  · rintro rfl
    rfl
set_option maxHeartbeats 400000 in
theorem rshape_var (t : T) (sl : Value) (w : World) (ha : ArgsAt w sl t.args) (h0 : t.fn = ⟨#[]⟩) :
    Calls Tryz.prog 75 #[tval t sl] w fun e w' => e = .returned (.bool t.shape) ∧ Below w.heap.size w w' := by
  obtain ⟨a, c, rfl, hc, hm⟩ := ha.slice
  have HS : Hid (t.shape = (decide (0 ≤ t.v) && decide (t.v < 1000000) && decide (t.args.length = 0))) := by
    show t.shape = _
    rw [t.shape_eq, if_pos (ba_empty.2 h0)]
  have h1 : t.fn.toList.isEmpty = true := by rw [ba_isEmpty, h0]; rfl
  clear h0
  go_enter Tryz.func75, Tryz.ntmps75
  go_wp2
  all_goals go_ret
  all_goals refine ⟨ret_bool ?_, below_box w _⟩
  all_goals rw [HS.out]
  all_goals first | (simp; omega) | (simp; done) | simp [*, int_len0] | trace_state
theorem shape_bad {t : T} (h0 : t.fn.size ≠ 0) (h : t.v ≠ 0 ∨ 64 < t.fn.size ∨ 16 < t.args.length) : t.shape = false := by
  rw [t.shape_eq, if_neg h0]
  simp only [Bool.and_eq_false_iff, decide_eq_false_iff_not]
  rcases h with h | h | h
  · simp [h]
  · exact .inl (.inl (.inr (by omega)))
  · exact .inl (.inr (by omega))
theorem shape_good {t : T} (h0 : t.fn.size ≠ 0) (h1 : t.v = 0) (h2 : t.fn.size ≤ 64) (h3 : t.args.length ≤ 16) : t.shape = t.args.all T.shape := by
  rw [t.shape_eq, if_neg h0]
  simp [h1, h2, h3]
set_option maxHeartbeats 1000000 in
theorem rshape_fn (t : T) (ih : ∀ a ∈ t.args, ∀ (sl : Value) (w : World), ArgsAt w sl a.args → Calls Tryz.prog 75 #[tval a sl] w fun e w' => e = .returned (.bool a.shape) ∧ Below w.heap.size w w') (sl : Value) (w : World) (ha : ArgsAt w sl t.args) (h0 : t.fn ≠ ⟨#[]⟩) :
    Calls Tryz.prog 75 #[tval t sl] w fun e w' => e = .returned (.bool t.shape) ∧ Below w.heap.size w w' := by
  obtain ⟨a, c, rfl, hc, hm⟩ := ha.slice
  have hs0 : t.fn.size ≠ 0 := fun h => h0 (ba_empty.1 h)
  have h1 : t.fn.toList.isEmpty = false := by
    rw [ba_isEmpty]
    simpa using hs0
  by_cases hv : t.v ≠ 0 ∨ 64 < t.fn.size ∨ 16 < t.args.length
  · have HS : Hid (t.shape = false) := shape_bad hs0 hv
    go_enter Tryz.func75, Tryz.ntmps75
    go_wp2
    all_goals try (exfalso; omega)
    all_goals go_ret
    all_goals exact ⟨ret_bool (by rw [HS.out]), below_box w _⟩
  · have HS : Hid (t.shape = t.args.all T.shape) := shape_good hs0 (by omega) (by omega) (by omega)
    have v0 : Hid (t.v = 0) := by show t.v = 0; omega
    have hf : t.fn.size ≤ 64 := by omega
    have hl : t.args.length ≤ 16 := by omega
    clear hv hs0 h0
    have vb : (t.v != 0) = false := by rw [show t.v = 0 from v0]; rfl
    go_enter Tryz.func75, Tryz.ntmps75
    go_wp2
    go_loopw [3] (fun i wr => ∃ k : Nat, k ≤ t.args.length ∧ i = .int .i64 k ∧ Hid ((t.args.take k).all T.shape = true) ∧ Below (w.heap.size + 1) (w.alloc (tbox t (.slice a t.args.length c))) wr) (fun i _ => t.args.length - (intOf i).toNat)
    case atStart =>
      refine ⟨0, Nat.zero_le _, rfl, by simp [Hid], ?_⟩
      have e : tbox t (.slice a t.args.length c) = .cells #[.int .i64 0, .string t.fn, .slice a t.args.length c] 30 := by show Obj.cells _ _ _ = _; rw [show t.v = 0 from v0]
      first | exact Below.refl _ _ | (rw [e]; exact Below.refl _ _)
    case round =>
      obtain ⟨k, hk, rfl, hall, hb⟩ := hrel
      obtain ⟨_, _, t2⟩ := tbox_cells w t (.slice a t.args.length c)
      have t2' := (hb.cell (p := ⟨w.heap.size, 2, none⟩) (Nat.lt_succ_self _)).trans t2
      clear t2
      have haw := ArgsAt.keep (((below_box w (tbox t (.slice a t.args.length c)))).trans (hb.mono (Nat.le_succ _))) (Nat.le_refl _) ha
      by_cases hlt : k < t.args.length
      · obtain ⟨b, o, s, rfl, hbl, c0, c1, c2, hs⟩ := haw.nth hlt
        have ih' := ih t.args[k] (List.getElem_mem hlt) s _ hs
        have hbb : ∀ w', Below wr.heap.size wr w' → Below (w.heap.size + 1) (w.alloc (tbox t (.slice (some ⟨b, o, none⟩) t.args.length c))) w' := fun w' hb' => hb.trans (hb'.mono (by have := hb.size; simp at this; omega))
        clear ih ha haw
        cases hsh : t.args[k].shape
        · rw [hsh] at ih'
          have Hf : Hid (t.shape = false) := by
            show t.shape = false
            rw [HS, List.all_eq_false]
            exact ⟨_, List.getElem_mem hlt, by simp [hsh]⟩
          clear hsh
          go_wp2_with (go_at_call 75; refine ih'.mono ?_; rintro e w' ⟨rfl, hb'⟩)
          go_ret
          exact ⟨ret_bool (by rw [Hf]), (below_box w _).trans ((hbb _ hb').mono (Nat.le_succ _))⟩
        · rw [hsh] at ih'
          have Hf : Hid ((t.args.take (k + 1)).all T.shape = true) := by
            show (t.args.take (k + 1)).all T.shape = true
            rw [List.take_succ_eq_append_getElem hlt, List.all_append, hall]
            simp [hsh]
          clear hsh
          go_wp2_with (go_at_call 75; refine ih'.mono ?_; rintro e w' ⟨rfl, hb'⟩)
          go_roundw
          case rel => exact ⟨k + 1, by omega, by go_num, Hf, hbb _ hb'⟩
          case measure => simp [intOf]; omega
      · have Hf : Hid (t.shape = true) := by
          show t.shape = true
          rw [HS, ← hall, List.take_of_length_le (by omega)]
        go_wp2
        go_ret
        exact ⟨ret_bool (by rw [Hf]), (below_box w _).trans (hb.mono (Nat.le_succ _))⟩
theorem rshape_any (t : T) : ∀ (sl : Value) (w : World), ArgsAt w sl t.args →
    Calls Tryz.prog 75 #[tval t sl] w fun e w' => e = .returned (.bool t.shape) ∧ Below w.heap.size w w' := by
  induction t using T.ind with
  | _ t ih =>
    intro sl w ha
    by_cases h0 : t.fn = ⟨#[]⟩
    · exact rshape_var t sl w ha h0
    · exact rshape_fn t ih sl w ha h0
def T.rightW (t : T) : Int := if t.shape = false then 1 else if 60 < t.depthW then 22 else if 4000 < wrap64 t.size then 3 else 0
set_option maxHeartbeats 400000 in
theorem rright_any (t : T) (sl : Value) (w : World) (ha : ArgsAt w sl t.args) :
    Calls Tryz.prog 46 #[tval t sl] w fun e w' => e = .returned (.int .i64 t.rightW) ∧ Below w.heap.size w w' := by
  have HR : Hid (t.rightW = _) := rfl
  have b0 := below_box w (tbox t sl)
  have a1 := ArgsAt.keep b0 (Nat.le_refl _) ha
  have hsz : (w.alloc (tbox t sl)).heap.size = w.heap.size + 1 := by simp
  have c1 := rshape_any t sl _ a1
  obtain ⟨t0, t1, t2⟩ := tbox_cells w t sl
  rw [hsz] at c1
  cases hsh : t.shape
  · rw [hsh] at c1
    have Hf : Hid (t.rightW = 1) := by show t.rightW = 1; unfold T.rightW; rw [if_pos hsh]
    clear hsh
    go_enter Tryz.func46, Tryz.ntmps46
    go_wp2_with (go_at_call 75; refine c1.mono ?_; rintro e w' ⟨rfl, hb'⟩)
    go_ret
    exact ⟨ret_i64 (by rw [Hf]), b0.trans (hb'.mono (by simp))⟩
  · rw [hsh] at c1
    by_cases hd : 60 < t.depthW
    · have Hf : Hid (t.rightW = 22) := by show t.rightW = 22; unfold T.rightW; rw [if_neg (by simp [hsh]), if_pos hd]
      clear hsh
      go_enter Tryz.func46, Tryz.ntmps46
      go_wp2_with (first | (go_at_call 75; refine c1.mono ?_; rintro e w' ⟨rfl, hb'⟩; have a2 := ArgsAt.keep hb' (by simp) a1; have c2 := rdepth_any t sl _ a2; obtain ⟨hcc, _⟩ := bcell hb'; rw [← hcc _ _ (Nat.lt_succ_self _)] at t0 t1 t2; clear hcc) | (go_at_call 76; refine c2.mono ?_; rintro e w' ⟨rfl, hb2⟩))
      go_ret
      exact ⟨ret_i64 (by rw [Hf]), b0.trans ((hb'.mono (by simp)).trans (hb2.mono (by have := hb'.size; simp at this; omega)))⟩
    · by_cases hz : 4000 < wrap64 t.size
      · have Hf : Hid (t.rightW = 3) := by show t.rightW = 3; unfold T.rightW; rw [if_neg (by simp [hsh]), if_neg hd, if_pos hz]
        clear hsh
        go_enter Tryz.func46, Tryz.ntmps46
        go_wp2_with (first | (go_at_call 75; refine c1.mono ?_; rintro e w' ⟨rfl, hb'⟩; have a2 := ArgsAt.keep hb' (by simp) a1; have c2 := rdepth_any t sl _ a2; obtain ⟨hcc, _⟩ := bcell hb'; rw [← hcc _ _ (Nat.lt_succ_self _)] at t0 t1 t2; clear hcc) | (go_at_call 76; refine c2.mono ?_; rintro e w2 ⟨rfl, hb2⟩; have a3 := ArgsAt.keep hb2 (Nat.le_refl _) a2; have c3 := rsize_any t sl _ a3; obtain ⟨hcc, _⟩ := bcell hb2; rw [← hcc _ _ (by have := hb'.size; simp at this; omega)] at t0 t1 t2; clear hcc) | (go_at_call 48; refine c3.mono ?_; rintro e w3 ⟨rfl, hb3⟩))
        go_ret
        exact ⟨ret_i64 (by rw [Hf]), b0.trans ((hb'.mono (by simp)).trans ((hb2.mono (by have := hb'.size; simp at this; omega)).trans (hb3.mono (by have := hb'.size; have := hb2.size; simp at *; omega))))⟩
      · have Hf : Hid (t.rightW = 0) := by show t.rightW = 0; unfold T.rightW; rw [if_neg (by simp [hsh]), if_neg hd, if_neg hz]
        clear hsh
        go_enter Tryz.func46, Tryz.ntmps46
        go_wp2_with (first | (go_at_call 75; refine c1.mono ?_; rintro e w' ⟨rfl, hb'⟩; have a2 := ArgsAt.keep hb' (by simp) a1; have c2 := rdepth_any t sl _ a2; obtain ⟨hcc, _⟩ := bcell hb'; rw [← hcc _ _ (Nat.lt_succ_self _)] at t0 t1 t2; clear hcc) | (go_at_call 76; refine c2.mono ?_; rintro e w2 ⟨rfl, hb2⟩; have a3 := ArgsAt.keep hb2 (Nat.le_refl _) a2; have c3 := rsize_any t sl _ a3; obtain ⟨hcc, _⟩ := bcell hb2; rw [← hcc _ _ (by have := hb'.size; simp at this; omega)] at t0 t1 t2; clear hcc) | (go_at_call 48; refine c3.mono ?_; rintro e w3 ⟨rfl, hb3⟩))
        go_ret
        exact ⟨ret_i64 (by rw [Hf]), b0.trans ((hb'.mono (by simp)).trans ((hb2.mono (by have := hb'.size; simp at this; omega)).trans (hb3.mono (by have := hb'.size; have := hb2.size; simp at *; omega))))⟩
end Go.Proofs.YtglphfhlpobgcaaGreat

namespace Go.Proofs.YtglphfhlpobgcaaGreat
open Go.RowKit
open Classical in
noncomputable def same (x y : T) : Bool := decide (x = y)
theorem same_iff {x y : T} : same x y = true ↔ x = y := by simp [same]
theorem same_false {x y : T} : same x y = false ↔ x ≠ y := by simp [same]
theorem same_ext {x y : T} (h1 : x.v = y.v) (h2 : x.fn = y.fn) (h3 : x.args = y.args) : x = y := by
  rw [x.eta, y.eta, h1, h2, h3]
abbrev tbox2 (w : World) (x : T) (sx : Value) (y : T) (sy : Value) : World := (w.alloc (tbox x sx)).alloc (tbox y sy)
theorem tbox2_cells (w : World) (x : T) (sx : Value) (y : T) (sy : Value) :
    ((tbox2 w x sx y sy).cell? ⟨w.heap.size, 0, none⟩ = some (.int .i64 x.v) ∧ (tbox2 w x sx y sy).cell? ⟨w.heap.size, 1, none⟩ = some (.string x.fn) ∧ (tbox2 w x sx y sy).cell? ⟨w.heap.size, 2, none⟩ = some sx) ∧
    ((tbox2 w x sx y sy).cell? ⟨w.heap.size + 1, 0, none⟩ = some (.int .i64 y.v) ∧ (tbox2 w x sx y sy).cell? ⟨w.heap.size + 1, 1, none⟩ = some (.string y.fn) ∧ (tbox2 w x sx y sy).cell? ⟨w.heap.size + 1, 2, none⟩ = some sy) := by
  have h := tbox_cells (w.alloc (tbox x sx)) y sy
  rw [World.size_alloc] at h
  refine ⟨?_, h⟩
  obtain ⟨h0, h1, h2⟩ := tbox_cells w x sx
  have hb := below_box (w.alloc (tbox x sx)) (tbox y sy)
  exact ⟨(hb.cell (p := ⟨_, _, none⟩) (by simp)).trans h0, (hb.cell (p := ⟨_, _, none⟩) (by simp)).trans h1, (hb.cell (p := ⟨_, _, none⟩) (by simp)).trans h2⟩
theorem kc {A B : World} {n : Nat} (h : Below n A B) {b o : Nat} {v : Value} (hb : b < n) (c : A.cell? ⟨b, o, none⟩ = some v) : B.cell? ⟨b, o, none⟩ = some v := (h.cell (p := ⟨b, o, none⟩) hb).trans c
theorem below_box2 (w : World) (o1 o2 : Obj) : Below w.heap.size w ((w.alloc o1).alloc o2) := ((Below.refl _ _).alloc (Nat.le_refl _) _).alloc (by simp) _
set_option maxHeartbeats 1000000 in
theorem rsame_v (x y : T) (a b : Option Addr) (n c m d : Nat) (w : World) (h : x.v ≠ y.v) :
    Calls Tryz.prog 54 #[tval x (.slice a n c), tval y (.slice b m d)] w fun e w' => e = .returned (.bool (same x y)) ∧ Below w.heap.size w w' := by
  have HS : Hid (same x y = false) := same_false.2 fun e => h (by rw [e])
  have h' : (x.v != y.v) = true := by simpa using h
  clear h
  go_enter Tryz.func54, Tryz.ntmps54
  go_wp2
  go_ret
  exact ⟨ret_bool (by rw [HS]), below_box2 w _ _⟩
theorem ba_toList_inj {s t : ByteArray} : s.toList = t.toList ↔ s = t := by
  rw [ByteArray.toList_eq, ByteArray.toList_eq]
  constructor
  · intro h
    cases s with
    | mk d => cases t with
      | mk e => exact congrArg ByteArray.mk (Array.toList_inj.1 h)
  · rintro rfl
    rfl
set_option maxHeartbeats 1000000 in
theorem rsame_fn (x y : T) (a b : Option Addr) (n c m d : Nat) (w : World) (hv : x.v = y.v) (h : x.fn ≠ y.fn) :
    Calls Tryz.prog 54 #[tval x (.slice a n c), tval y (.slice b m d)] w fun e w' => e = .returned (.bool (same x y)) ∧ Below w.heap.size w w' := by
  have HS : Hid (same x y = false) := same_false.2 fun e => h (by rw [e])
  have h' : (x.v != y.v) = false := by simpa using hv
  have h2 : ¬ x.fn.toList = y.fn.toList := fun e => h (ba_toList_inj.1 e)
  clear hv h
  go_enter Tryz.func54, Tryz.ntmps54
  go_wp2
  all_goals go_ret
  all_goals exact ⟨ret_bool (by rw [HS]), below_box2 w _ _⟩
set_option maxHeartbeats 1000000 in
theorem rsame_len (x y : T) (a b : Option Addr) (c d : Nat) (w : World) (hv : x.v = y.v) (hf : x.fn = y.fn) (h : x.args.length ≠ y.args.length) :
    Calls Tryz.prog 54 #[tval x (.slice a x.args.length c), tval y (.slice b y.args.length d)] w fun e w' => e = .returned (.bool (same x y)) ∧ Below w.heap.size w w' := by
  have HS : Hid (same x y = false) := same_false.2 fun e => h (by rw [e])
  have h' : (x.v != y.v) = false := by simpa using hv
  have h2 : x.fn.toList = y.fn.toList := ba_toList_inj.2 hf
  have h3 : ((x.args.length : Int) != (y.args.length : Int)) = true := by rw [bne_iff_ne]; omega
  clear hv h hf
  go_enter Tryz.func54, Tryz.ntmps54
  go_wp2
  all_goals go_ret
  all_goals exact ⟨ret_bool (by rw [HS]), below_box2 w _ _⟩
theorem list_take_eq {l m : List T} {k : Nat} (hl : l.length = m.length) (hk : k < l.length) (h : l.take k = m.take k) (e : l[k] = m[k]) : l.take (k + 1) = m.take (k + 1) := by
  rw [List.take_succ_eq_append_getElem hk, List.take_succ_eq_append_getElem (by omega), h, e]
set_option maxHeartbeats 2000000 in
theorem rsame_loop (x y : T) (ih : ∀ a ∈ x.args, ∀ (y : T) (sx sy : Value) (w : World), ArgsAt w sx a.args → ArgsAt w sy y.args → Calls Tryz.prog 54 #[tval a sx, tval y sy] w fun e w' => e = .returned (.bool (same a y)) ∧ Below w.heap.size w w')
    (a b : Option Addr) (c d : Nat) (w : World) (ha : ArgsAt w (.slice a x.args.length c) x.args) (hb : ArgsAt w (.slice b y.args.length d) y.args) (hc : x.args.length ≤ 9223372036854775807) (hv : x.v = y.v) (hf : x.fn = y.fn) (h : x.args.length = y.args.length) :
    Calls Tryz.prog 54 #[tval x (.slice a x.args.length c), tval y (.slice b y.args.length d)] w fun e w' => e = .returned (.bool (same x y)) ∧ Below w.heap.size w w' := by
  have HE : Hid (x.v = y.v ∧ x.fn = y.fn ∧ x.args.length = y.args.length) := ⟨hv, hf, h⟩
  have h' : (x.v != y.v) = false := by simpa using hv
  have h2 : x.fn.toList = y.fn.toList := ba_toList_inj.2 hf
  have h3 : ((x.args.length : Int) != (y.args.length : Int)) = false := by rw [bne_eq_false_iff_eq]; omega
  clear hv h hf
  go_enter Tryz.func54, Tryz.ntmps54
  go_wp2
  go_loopw [5] (fun i wr => ∃ k : Nat, k ≤ x.args.length ∧ i = .int .i64 k ∧ Hid (x.args.take k = y.args.take k) ∧ Below (w.heap.size + 2) (tbox2 w x (.slice a x.args.length c) y (.slice b y.args.length d)) wr) (fun i _ => x.args.length - (intOf i).toNat)
  case atStart => exact ⟨0, Nat.zero_le _, rfl, rfl, Below.refl _ _⟩
  case round =>
    obtain ⟨k, hk, rfl, hall, hw⟩ := hrel
    obtain ⟨⟨_, _, t2⟩, ⟨_, _, u2⟩⟩ := tbox2_cells w x (.slice a x.args.length c) y (.slice b y.args.length d)
    have t2' := (hw.cell (p := ⟨w.heap.size, 2, none⟩) (by show w.heap.size < w.heap.size + 2; omega)).trans t2
    have u2' := (hw.cell (p := ⟨w.heap.size + 1, 2, none⟩) (by simp)).trans u2
    clear t2 u2
    have hwb : Below w.heap.size w wr := (below_box2 w _ _).trans (hw.mono (by omega))
    have haw := ArgsAt.keep hwb (Nat.le_refl _) ha
    have hbw := ArgsAt.keep hwb (Nat.le_refl _) hb
    by_cases hlt : k < x.args.length
    · have hlt' : k < y.args.length := HE.2.2 ▸ hlt
      obtain ⟨ba, oa, s, rfl, hba, a0, a1, a2, hs⟩ := haw.nth hlt
      obtain ⟨bb, ob, s', rfl, hbb, b0, b1, b2, hs'⟩ := hbw.nth hlt'
      have hdr : Below wr.heap.size wr wr.drew := (Below.refl _ wr).drew
      have ih' := (ih x.args[k] (List.getElem_mem hlt) y.args[k] s s' wr.drew (ArgsAt.keep hdr (Nat.le_refl _) hs) (ArgsAt.keep hdr (Nat.le_refl _) hs')).mono (R' := fun e w' => e = .returned (.bool (same x.args[k] y.args[k])) ∧ Below wr.heap.size wr w') (fun e w' h => ⟨h.1, hdr.trans h.2⟩)
      have hsz := hw.size
      simp only [World.size_alloc] at hsz
      have l0 : w.heap.size < wr.heap.size := by omega
      have l1 : w.heap.size + 1 < wr.heap.size := by omega
      have hbel : ∀ w', Below wr.heap.size wr w' → Below (w.heap.size + 2) (tbox2 w x (.slice (some ⟨ba, oa, none⟩) x.args.length c) y (.slice (some ⟨bb, ob, none⟩) y.args.length d)) w' := fun w' hb' => hw.trans (hb'.mono (by omega))
      clear ih ha hb haw hbw
      cases hsh : same x.args[k] y.args[k]
      · rw [hsh] at ih'
        have Hf : Hid (same x y = false) := by
          refine same_false.2 fun e => same_false.1 hsh ?_
          subst e
          rfl
        clear hsh
        go_wp2
        go_region_held3 (fun w' => w'.cell? ⟨w.heap.size, 2, none⟩ = some (.slice (some ⟨ba, oa, none⟩) x.args.length c) ∧ w'.cell? ⟨w.heap.size + 1, 2, none⟩ = some (.slice (some ⟨bb, ob, none⟩) y.args.length d) ∧ w'.cell? ⟨ba, oa + k * 3, none⟩ = some (.int .i64 x.args[k].v) ∧ w'.cell? ⟨ba, oa + k * 3 + 1, none⟩ = some (.string x.args[k].fn) ∧ w'.cell? ⟨ba, oa + k * 3 + 2, none⟩ = some s ∧ w'.cell? ⟨bb, ob + k * 3, none⟩ = some (.int .i64 y.args[k].v) ∧ w'.cell? ⟨bb, ob + k * 3 + 1, none⟩ = some (.string y.args[k].fn) ∧ w'.cell? ⟨bb, ob + k * 3 + 2, none⟩ = some s') (first | exact ⟨t2', u2', a0, a1, a2, b0, b1, b2⟩ | exact ⟨kc hb' l0 t2', kc hb' l1 u2', kc hb' hba a0, kc hb' hba a1, kc hb' hba a2, kc hb' hbb b0, kc hb' hbb b1, kc hb' hbb b2⟩) (first | (go_at_call 54; refine ih'.mono ?_; rintro e w' ⟨rfl, hb'⟩))
        go_wp2
        go_ret
        exact ⟨ret_bool (by rw [Hf]), (below_box2 w _ _).trans ((hbel _ hb').mono (by omega))⟩
      · rw [hsh] at ih'
        have Hf : Hid (x.args.take (k + 1) = y.args.take (k + 1)) := list_take_eq HE.2.2 hlt hall (same_iff.1 hsh)
        clear hsh
        go_wp2
        go_region_held3 (fun w' => w'.cell? ⟨w.heap.size, 2, none⟩ = some (.slice (some ⟨ba, oa, none⟩) x.args.length c) ∧ w'.cell? ⟨w.heap.size + 1, 2, none⟩ = some (.slice (some ⟨bb, ob, none⟩) y.args.length d) ∧ w'.cell? ⟨ba, oa + k * 3, none⟩ = some (.int .i64 x.args[k].v) ∧ w'.cell? ⟨ba, oa + k * 3 + 1, none⟩ = some (.string x.args[k].fn) ∧ w'.cell? ⟨ba, oa + k * 3 + 2, none⟩ = some s ∧ w'.cell? ⟨bb, ob + k * 3, none⟩ = some (.int .i64 y.args[k].v) ∧ w'.cell? ⟨bb, ob + k * 3 + 1, none⟩ = some (.string y.args[k].fn) ∧ w'.cell? ⟨bb, ob + k * 3 + 2, none⟩ = some s') (first | exact ⟨t2', u2', a0, a1, a2, b0, b1, b2⟩ | exact ⟨kc hb' l0 t2', kc hb' l1 u2', kc hb' hba a0, kc hb' hba a1, kc hb' hba a2, kc hb' hbb b0, kc hb' hbb b1, kc hb' hbb b2⟩) (first | (go_at_call 54; refine ih'.mono ?_; rintro e w' ⟨rfl, hb'⟩))
        go_wp2
        go_roundw
        case rel => exact ⟨k + 1, by omega, by go_num, Hf, hbel _ hb'⟩
        case measure => simp [intOf]; omega
    · have Hf : Hid (same x y = true) := by
        refine same_iff.2 (same_ext HE.1 HE.2.1 ?_)
        have hall' : x.args.take k = y.args.take k := hall
        have hl := HE.2.2
        rw [List.take_of_length_le (by omega), List.take_of_length_le (by omega)] at hall'
        exact hall'
      go_wp2
      go_ret
      exact ⟨ret_bool (by rw [Hf]), hwb⟩
theorem rsame_any (x : T) : ∀ (y : T) (sx sy : Value) (w : World), ArgsAt w sx x.args → ArgsAt w sy y.args →
    Calls Tryz.prog 54 #[tval x sx, tval y sy] w fun e w' => e = .returned (.bool (same x y)) ∧ Below w.heap.size w w' := by
  induction x using T.ind with
  | _ x ih =>
    intro y sx sy w hx hy
    obtain ⟨a, c, rfl, hc, hm⟩ := hx.slice
    obtain ⟨b, d, rfl, hd, hm'⟩ := hy.slice
    by_cases hv : x.v = y.v
    · by_cases hf : x.fn = y.fn
      · by_cases hl : x.args.length = y.args.length
        · exact rsame_loop x y ih a b c d w hx hy (by omega) hv hf hl
        · exact rsame_len x y a b c d w hv hf hl
      · exact rsame_fn x y a b _ c _ d w hv hf
    · exact rsame_v x y a b _ c _ d w hv
end Go.Proofs.YtglphfhlpobgcaaGreat
