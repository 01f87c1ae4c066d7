/-
  A chunk's pieces: bytes.IndexByte, and the iterator over the pieces.
-/
import Derived.Test.YtdbfmjfbiokfdaaDoorE
import Derived.Test.YtdbfmjfbiokfdaaDoorC
import Derived.RangeFuncBox
import Derived.RangeFuncLeaves
import Derived.RangeFuncNested
import Derived.Shelf.Abstract
import Derived.OwnWalkIn
import Derived.TacticsInMore
import Derived.LoopNIn
import Derived.LoopIn
namespace Go.Proofs.YtdbfmjfbiokfdaaDoor
open Go.RowKit Go.Shelf

attribute [local go_sem] Oper.semAt_some

/-- A chunk's bytes parted at its bytes 10, each piece with whether one ends it. -/
def pcs : List Int → List (List Int × Bool)
  | [] => [([], false)]
  | x :: r => if x = 10 then ([], true) :: pcs r else
    match pcs r with
    | (p, b) :: q => (x :: p, b) :: q
    | [] => [([x], false)]

theorem pcs_cons (x : Int) (r : List Int) : pcs (x :: r) = if x = 10 then ([], true) :: pcs r else
    match pcs r with
    | (p, b) :: q => (x :: p, b) :: q
    | [] => [([x], false)] := rfl

theorem idx10 : ∀ (xs : List Int), (∀ x ∈ xs, 0 ≤ x ∧ x ≤ 255) →
    (Lib.indexByte (Lib.bytesOf xs) 10 = -1 ∧ pcs xs = [(xs, false)]) ∨
    ∃ k : Nat, Lib.indexByte (Lib.bytesOf xs) 10 = k ∧ k < xs.length ∧ pcs xs = (xs.take k, true) :: pcs (xs.drop (k + 1))
  | [], _ => .inl ⟨rfl, rfl⟩
  | x :: r, h => by
    have ih := idx10 r (fun y hy => h y (List.mem_cons_of_mem _ hy))
    have hx := h x (List.mem_cons_self ..)
    have e : Lib.bytesOf (x :: r) = UInt8.ofNat x.toNat :: Lib.bytesOf r := rfl
    rw [e]
    unfold Lib.indexByte
    rw [pcs_cons]
    by_cases h10 : x = 10
    · subst h10
      refine .inr ⟨0, ?_, by simp, by simp⟩
      have : ((UInt8.ofNat (10 : Int).toNat) == 10) = true := by decide
      rw [this]; rfl
    · have hne : (UInt8.ofNat x.toNat == 10) = false := by
        rw [beq_eq_false_iff_ne]
        intro e
        have := congrArg UInt8.toNat e
        simp at this
        omega
      rw [hne, if_neg h10]
      simp only [Bool.false_eq_true, if_false]
      rcases ih with ⟨h1, h2⟩ | ⟨k, h1, h2, h3⟩
      · refine .inl ⟨by rw [h1]; rfl, by rw [h2]⟩
      · refine .inr ⟨k + 1, ?_, by simp; omega, by rw [h3]; rfl⟩
        rw [h1]
        have : ((k : Int) == -1) = false := by rw [beq_eq_false_iff_ne]; omega
        rw [this]; simp

/-- A slice value inside the chunk at ⟨b, o⟩ that holds the bytes xs. -/
def PieceOf (b o : Nat) (xs : List Int) (v : Value) (ps : List Int) : Prop :=
  ∃ p c, v = .slice p ps.length c ∧ ps.length ≤ c ∧ c ≤ 9223372036854775807 ∧ (∀ x ∈ ps, 0 ≤ x ∧ x ≤ 255) ∧ ps.length ≤ xs.length ∧
    (0 < ps.length → ∃ k, p = some ⟨b, o + k, none⟩ ∧ k + ps.length ≤ xs.length ∧ ∀ i, i < ps.length → ps.getD i 0 = xs.getD (k + i) 0)

def ChunkAt (w : World) (b o : Nat) (xs : List Int) : Prop := ∀ i, i < xs.length → w.cell? ⟨b, o + i, none⟩ = some (.int .u8 (xs.getD i 0))

theorem PieceOf.bts {b o : Nat} {xs ps : List Int} {v : Value} {w : World} (h : PieceOf b o xs v ps) (hc : ChunkAt w b o xs) : Bts w v ps := by
  obtain ⟨p, c, rfl, h1, h2, h3, h4, h5⟩ := h
  refine ⟨p, c, rfl, h1, h2, h3, fun hp => ?_⟩
  obtain ⟨k, rfl, hk, hg⟩ := h5 hp
  refine ⟨b, o + k, rfl, fun i hi => ?_⟩
  rw [hg i hi, Nat.add_assoc]
  exact hc (k + i) (by omega)

theorem Bts.chunk {xs : List Int} {v : Value} {w : World} (h : Bts w v xs) : ∃ b o, ChunkAt w b o xs ∧ PieceOf b o xs v xs ∧ (0 < xs.length → b < w.heap.size) := by
  obtain ⟨p, c, rfl, h1, h2, h3, h4⟩ := h
  by_cases hp : 0 < xs.length
  · obtain ⟨b, o, rfl, hc⟩ := h4 hp
    refine ⟨b, o, hc, ⟨_, c, rfl, h1, h2, h3, Nat.le_refl _, fun _ => ⟨0, rfl, by omega, fun i _ => by simp⟩⟩, fun _ => ?_⟩
    exact World.block_lt_of_cell? w _ (hc 0 hp)
  · exact ⟨0, 0, fun i hi => by omega, ⟨p, c, rfl, h1, h2, h3, Nat.le_refl _, fun h => absurd h hp⟩, fun h => absurd h hp⟩

theorem PieceOf.head {b o : Nat} {xs ps : List Int} {p : Option Addr} {c : Nat} (h : PieceOf b o xs (.slice p ps.length c) ps) {k : Nat} (hk : k ≤ ps.length) : PieceOf b o xs (.slice p k c) (ps.take k) := by
  obtain ⟨p', c', e, h1, h2, h3, h4, h5⟩ := h
  simp only [Value.slice.injEq, true_and] at e
  obtain ⟨rfl, rfl⟩ := e
  have hl : (ps.take k).length = k := by simp; omega
  refine ⟨p, c, by rw [hl], by omega, h2, fun x hx => h3 x (List.mem_of_mem_take hx), by omega, fun hp => ?_⟩
  obtain ⟨j, rfl, hj, hg⟩ := h5 (by omega)
  refine ⟨j, rfl, by omega, fun i hi => ?_⟩
  rw [← hg i (by omega)]
  simp only [List.getD_eq_getElem?_getD]
  rw [List.getElem?_take, if_pos (by omega)]

theorem PieceOf.tail {b o : Nat} {xs ps : List Int} {p : Option Addr} {c : Nat} (h : PieceOf b o xs (.slice p ps.length c) ps) {k : Nat} (hk : k < ps.length) (q : Option Addr) (hq : k + 1 ≠ c → q = p.map (fun x => ⟨x.block, x.off + (k + 1), none⟩)) :
    PieceOf b o xs (.slice q (ps.length - (k + 1)) (c - (k + 1))) (ps.drop (k + 1)) := by
  obtain ⟨p', c', e, h1, h2, h3, h4, h5⟩ := h
  simp only [Value.slice.injEq, true_and] at e
  obtain ⟨rfl, rfl⟩ := e
  have hl : (ps.drop (k + 1)).length = ps.length - (k + 1) := by simp
  refine ⟨q, _, by rw [hl], by omega, by omega, fun x hx => h3 x (List.mem_of_mem_drop hx), by omega, fun hp => ?_⟩
  obtain ⟨j, rfl, hj, hg⟩ := h5 (by omega)
  refine ⟨j + (k + 1), ?_, by omega, fun i hi => ?_⟩
  · rw [hq (by omega)]
    simp only [Option.map_some]
    rw [Nat.add_assoc]
  · rw [List.getD_eq_getElem?_getD, List.getElem?_drop, ← List.getD_eq_getElem?_getD, hg (k + 1 + i) (by omega)]
    congr 1; omega

theorem run_idx (w : World) (v : Value) (ps : List Int) (hv : Bts w v ps) : (Extern.BytealgIndexByte.indexByte #[v, .int .u8 10]).run Tryd.prog w = .ok (.int .i64 (Lib.indexByte (Lib.bytesOf ps) 10)) w := by
  obtain ⟨p, c, rfl, hc, hm, hb, hx⟩ := hv
  by_cases h0 : 0 < ps.length
  · obtain ⟨b, o, rfl, hcell⟩ := hx h0
    exact Lib.run_indexByteSlice w b o _ c ps rfl hcell 10
  · have : ps = [] := List.length_eq_zero_iff.1 (by omega)
    subst this
    cases p with
    | none => exact Lib.run_indexByteNil w 0 c 10
    | some a => exact Lib.run_indexByteString (P := Tryd.prog) .empty 10 w

set_option maxHeartbeats 1000000 in
set_option maxRecDepth 100000 in
theorem indexByte_any (p : Option Addr) (n c : Nat) (ps : List Int) (w : World) (hv : Bts w (.slice p n c) ps) :
    Calls Tryd.prog 37 #[.slice p n c, .int .u8 10] w fun e w' => e = .returned (.int .i64 (Lib.indexByte (Lib.bytesOf ps) 10)) ∧ w' = w := by
  have hr := run_idx w _ ps hv
  clear hv
  go_enter Tryd.func37, Tryd.ntmps37
  go_wp2
  rw [run_callFunc_extern Tryd.func42 (by kernel_rfl) (by kernel_rfl) (by kernel_rfl) (e := Extern.BytealgIndexByte.indexByte) (by kernel_rfl), hr]
  simp only [Result.andThen]
  rw [Oper.upon_value]
  go_wp2
  go_ret
  exact ⟨rfl, rfl⟩

set_option maxHeartbeats 400000 in
theorem pieces_any (v : Value) (w : World) (h : ∃ p n c, v = .slice p n c) :
    Calls Tryd.prog 25 #[v] w fun e w' => e = .returned (.func (.func 36) #[] #[.pointer (some ⟨w.heap.size, 0, none⟩)]) ∧ w' = w.alloc (.cells #[v] 22) := by
  obtain ⟨p, n, c, rfl⟩ := h
  go_enter Tryd.func25, Tryd.ntmps25
  go_wp2
  go_ret
  exact ⟨rfl, rfl⟩

/-- What a round is handed: a slice value inside the chunk, its bytes, and whether a byte 10 ends them. -/
abbrev Pc (b o : Nat) (xs : List Int) := { x : Value × List Int × Bool // PieceOf b o xs x.1 x.2.1 }

/-- What a round that goes on keeps: the chunk's bytes. -/
def KpC (b o : Nat) (xs : List Int) (W W' : World) : Prop := ∀ i, i < xs.length → W'.cell? ⟨b, o + i, none⟩ = W.cell? ⟨b, o + i, none⟩

set_option maxRecDepth 100000 in
set_option maxHeartbeats 1000000 in
theorem pieces1_in (n : Nat) (hn : 1 ≤ n) (l Bn b o : Nat) (v0 : Value) (xs : List Int) (J Jx : List (Pc b o xs) → World → Prop)
    (hY : ∀ pre (x : Pc b o xs) W, J pre W → pre.length < xs.length + 1 → YieldAt Fence.wide (n - 1) Tryd.prog l #[x.1.1, .bool x.1.2.2] W fun e W' =>
      (e = .returned (.bool true) ∧ J (pre ++ [x]) W' ∧ KpC b o xs W W') ∨ (e = .returned (.bool false) ∧ Jx (pre ++ [x]) W'))
    (W : World) (hBn : W.cell? ⟨Bn, 0, none⟩ = some v0) (hv : PieceOf b o xs v0 xs) (hc : ChunkAt W b o xs) (h0 : J [] W) :
    CallsIn Fence.wide n Tryd.prog 36 #[.func (.yield l) #[] #[], .pointer (some ⟨Bn, 0, none⟩)] W fun e W' => (∃ v, e = .returned v) ∧
      ((∃ ys : List (Pc b o xs), ys.map (·.1.2) = pcs xs ∧ J ys W') ∨ (∃ pre, True ∧ Jx pre W')) := by
  have hv0 := hv
  obtain ⟨p0, c0, rfl, _⟩ := hv
  refine callsIn_of_wp Tryd.func36 rfl trivial ?_ rfl
  simp only [Tryd.ntmps36, List.size_toArray, List.length_cons, List.length_nil, Nat.reduceAdd, Nat.reduceSub, Array.replicate_succ, Array.replicate_zero, List.push_toArray, List.append_toArray, List.nil_append, List.cons_append]
  gi_wp2
  gi_loopw [3] (fun t wr => ∃ (pre : List (Pc b o xs)) (rest : List Int) (p : Option Addr) (c : Nat), t = .slice p rest.length c ∧ PieceOf b o xs (.slice p rest.length c) rest ∧ pcs xs = pre.map (·.1.2) ++ pcs rest ∧ pre.length + rest.length ≤ xs.length ∧ J pre wr ∧ ChunkAt wr b o xs)
    (fun t wr => lenOfV t)
  case atStart =>
    exact ⟨[], xs, p0, c0, rfl, hv0, rfl, by simp, h0, hc⟩
  case round =>
    obtain ⟨pre, rest, p, c, rfl, hP, hpc, hlen, hJs, hcw⟩ := hrel
    have hB := hP.bts hcw
    have hP' := hP
    obtain ⟨p', c', e, hrc, hcm, hrb, _, _⟩ := hP'
    simp only [Value.slice.injEq, true_and] at e
    obtain ⟨rfl, rfl⟩ := e
    have HP : Hid (pcs xs = pre.map (·.1.2) ++ pcs rest) := hpc
    clear hpc
    rcases idx10 rest hrb with ⟨h1, h2⟩ | ⟨k, h1, h2, h3⟩
    · obtain ⟨fn, tmps, assign, body, hy, hR⟩ := hY pre ⟨(.slice p rest.length c, rest, false), hP⟩ wr hJs (by omega)
      dsimp only at hy
      have H2 : Hid (pcs rest = [(rest, false)]) := h2
      clear h2
      have H1 : Hid (Lib.indexByte (Lib.bytesOf rest) 10 = -1) := h1
      clear h1
      gi_wp2_with (refine ⟨trivial, ?_⟩; gi_at_call 37; refine (callsIn_wide.2 (indexByte_any p _ c rest _ hB)).mono ?_; rw [H1.out]; rintro e w' ⟨rfl, rfl⟩)
      refine hR.mono ?_
      rintro e W3 (⟨rfl, hJ3, hk3⟩ | ⟨rfl, hJx3⟩)
      · gi_wp2
        refine bodyPost_ret (results_none rfl _ _ _) rfl ?_
        exact ⟨⟨_, rfl⟩, .inl ⟨_, by rw [HP.out, H2.out]; simp, hJ3⟩⟩
      · gi_wp2
        refine bodyPost_ret (results_none rfl _ _ _) rfl ?_
        exact ⟨⟨_, rfl⟩, .inr ⟨_, trivial, hJx3⟩⟩
    · obtain ⟨fn, tmps, assign, body, hy, hR⟩ := hY pre ⟨(.slice p k c, rest.take k, true), hP.head (by omega)⟩ wr hJs (by omega)
      dsimp only at hy
      have H3 : Hid (pcs rest = (rest.take k, true) :: pcs (rest.drop (k + 1))) := h3
      clear h3
      have H1 : Hid (Lib.indexByte (Lib.bytesOf rest) 10 = k) := h1
      clear h1
      gi_wp2_with (refine ⟨trivial, ?_⟩; gi_at_call 37; refine (callsIn_wide.2 (indexByte_any p _ c rest _ hB)).mono ?_; rw [H1.out]; rintro e w' ⟨rfl, rfl⟩)
      refine hR.mono ?_
      rintro e W3 (⟨rfl, hJ3, hk3⟩ | ⟨rfl, hJx3⟩)
      · gi_wp2
        go_roundw
        case rel =>
          have hT := hP.tail h2 (if c = k + 1 then p else p.map (fun x => ⟨x.block, x.off + (k + 1), none⟩)) (fun h => if_neg (fun e => h e.symm))
          have hl : rest.length - (k + 1) = (rest.drop (k + 1)).length := by simp
          rw [hl] at hT
          refine ⟨pre ++ [⟨(.slice p k c, rest.take k, true), hP.head (by omega)⟩], rest.drop (k + 1), _, _, by rw [hl], hT, ?_, ?_, hJ3, fun i hi => (hk3 i hi).trans (hcw i hi)⟩
          · rw [HP.out, H3.out]; simp
          · simp; omega
        case measure => simp [lenOfV]; omega
      · gi_wp2
        refine bodyPost_ret (results_none rfl _ _ _) rfl ?_
        exact ⟨⟨_, rfl⟩, .inr ⟨_, trivial, hJx3⟩⟩

theorem pieces_stops (n : Nat) (hn : 1 ≤ n) (Bn b o : Nat) (v0 : Value) (xs : List Int) (w : World) (hBn : w.cell? ⟨Bn, 0, none⟩ = some v0) (hv : PieceOf b o xs v0 xs) (hc : ChunkAt w b o xs) (hlt : Bn < w.heap.size) (hb : 0 < xs.length → b < w.heap.size) :
    SeqStopsK Fence.wide n Tryd.prog 36 #[.pointer (some ⟨Bn, 0, none⟩)] (fun x : Pc b o xs => #[x.1.1, .bool x.1.2.2]) (KpC b o xs) (fun ys => ys.map (·.1.2) = pcs xs) (fun _ => True) (xs.length + 1) w := fun l J Jx W hW _ _ hY h0 =>
  pieces1_in n hn l Bn b o v0 xs J Jx hY W ((hW.cell (p := ⟨Bn, 0, none⟩) hlt).trans hBn) hv (fun i hi => (hW.cell (p := ⟨b, o + i, none⟩) (hb (by omega))).trans (hc i hi)) h0

end Go.Proofs.YtdbfmjfbiokfdaaDoor
