/-
  The walks of New, Len, keep and take: what each does to the buffer.
-/
import Derived.Test.YtdbfmjfbiokfdaaDoorB
import Derived.Lib.Bytes
import Derived.Maps.AppendAt
import Derived.RangeFuncBox
import Derived.Lib.SlFresh
namespace Go.Proofs.YtdbfmjfbiokfdaaDoor
open Go.RowKit

/-- The block Bb is a Buffer that holds these two values. -/
def BufAt (W : World) (Bb : Nat) (kv : Value) (lg : Bool) : Prop := W.heap[Bb]? = some (.cells #[kv, .bool lg] 54 (0, 0))

/-- The Buffer at Bb keeps the bytes ks. -/
def Keeps (W : World) (Bb : Nat) (kv : Value) (ks : List Int) (lg : Bool) : Prop :=
  BufAt W Bb kv lg ∧ W.ownsRow 0 5 1 kv ks.length (ks.map (Value.int .u8)) ∧ (∀ x ∈ ks, 0 ≤ x ∧ x ≤ 255) ∧ ks.length ≤ 65536

/-- From w to w' no old block has turned but Bb and the row of kv; the new row is the old one or a new block. -/
structure Touch (Bb : Nat) (kv kv' : Value) (w w' : World) : Prop where
  os : w'.os = w.os
  tape : w'.tape = w.tape
  output : w'.output = w.output
  size : w.heap.size ≤ w'.heap.size
  block : ∀ k, k < w.heap.size → k ≠ Bb → some k ≠ kv.ownBlock → w'.heap[k]? = w.heap[k]?
  row : ∀ g, kv'.ownBlock = some g → kv.ownBlock = some g ∨ w.heap.size ≤ g

theorem Touch.refl (Bb : Nat) (kv : Value) (w : World) : Touch Bb kv kv w w := ⟨rfl, rfl, rfl, Nat.le_refl _, fun _ _ _ _ => rfl, fun _ h => .inl h⟩
theorem Touch.trans {Bb : Nat} {a b c : Value} {x y z : World} (h : Touch Bb a b x y) (k : Touch Bb b c y z) : Touch Bb a c x z :=
  ⟨k.os.trans h.os, k.tape.trans h.tape, k.output.trans h.output, Nat.le_trans h.size k.size,
   fun i hi h1 h2 => (k.block i (Nat.lt_of_lt_of_le hi h.size) h1 (fun e => by
      rcases h.row i e.symm with e' | e'
      · exact h2 e'.symm
      · omega)).trans (h.block i hi h1 h2),
   fun g hg => by
      rcases k.row g hg with e | e
      · exact h.row g e
      · exact .inr (Nat.le_trans h.size e)⟩

theorem BufAt.lt {W : World} {Bb : Nat} {kv : Value} {lg : Bool} (h : BufAt W Bb kv lg) : Bb < W.heap.size := (Array.getElem?_eq_some_iff.1 h).1
theorem BufAt.cell0 {W : World} {Bb : Nat} {kv : Value} {lg : Bool} (h : BufAt W Bb kv lg) : W.cell? ⟨Bb, 0, none⟩ = some kv := by simp [World.cell?, show W.heap[Bb]? = _ from h]
theorem BufAt.cell1 {W : World} {Bb : Nat} {kv : Value} {lg : Bool} (h : BufAt W Bb kv lg) : W.cell? ⟨Bb, 1, none⟩ = some (.bool lg) := by simp [World.cell?, show W.heap[Bb]? = _ from h]
theorem BufAt.fr0 {W : World} {Bb : Nat} {kv : Value} {lg : Bool} (h : BufAt W Bb kv lg) : W.frozen? ⟨Bb, 0, none⟩ = false := by simp [World.frozen?, show W.heap[Bb]? = _ from h]
theorem BufAt.fr1 {W : World} {Bb : Nat} {kv : Value} {lg : Bool} (h : BufAt W Bb kv lg) : W.frozen? ⟨Bb, 1, none⟩ = false := by simp [World.frozen?, show W.heap[Bb]? = _ from h]
theorem BufAt.set0 {W : World} {Bb : Nat} {kv : Value} {lg : Bool} (h : BufAt W Bb kv lg) (v : Value) : BufAt (W.setCell ⟨Bb, 0, none⟩ v) Bb v lg := by
  obtain ⟨hlt, hk⟩ := Array.getElem?_eq_some_iff.1 h
  show (W.heap.modify Bb _)[Bb]? = _
  rw [Array.getElem?_eq_getElem (by rw [Array.size_modify]; exact hlt), Array.getElem_modify_self, hk]
  rfl
theorem BufAt.set1 {W : World} {Bb : Nat} {kv : Value} {lg : Bool} (h : BufAt W Bb kv lg) (b : Bool) : BufAt (W.setCell ⟨Bb, 1, none⟩ (.bool b)) Bb kv b := by
  obtain ⟨hlt, hk⟩ := Array.getElem?_eq_some_iff.1 h
  show (W.heap.modify Bb _)[Bb]? = _
  rw [Array.getElem?_eq_getElem (by rw [Array.size_modify]; exact hlt), Array.getElem_modify_self, hk]
  rfl
theorem BufAt.grown {W W' : World} {Bb : Nat} {kv : Value} {lg : Bool} {row : Option Nat} (h : BufAt W Bb kv lg) (hg : W.grownBy W' row) (hne : some Bb ≠ row) : BufAt W' Bb kv lg := (hg.block Bb h.lt hne).trans h
theorem BufAt.not_row {W : World} {Bb : Nat} {u v : Value} {lg : Bool} {base e size k : Nat} {xs : List Value} (h : BufAt W Bb u lg) (he : e ≠ 54) (hr : W.ownsRow base e size v k xs) : some Bb ≠ v.ownBlock := by
  rcases hr.2 with ⟨rfl, _⟩ | ⟨g, cap, cur, rfl, _, hgb, _⟩
  · simp [Value.ownBlock]
  · intro e'
    obtain rfl : Bb = g := by simpa [Value.ownBlock] using e'
    have := (show W.heap[Bb]? = _ from h).symm.trans hgb
    simp at this
    exact he this.2.symm

theorem row_form {W : World} {base e size n : Nat} {v : Value} {xs : List Value} (h : W.ownsRow base e size v n xs) : ∃ a c, v = .slice a n c ∧ n ≤ c ∧ c ≤ 9223372036854775807 ∧ (a = none → n = 0 ∧ c = 0) := by
  rcases h.2 with ⟨rfl, rfl⟩ | ⟨g, cap, cur, rfl, _, _, h1, h2, _⟩
  · exact ⟨none, 0, rfl, Nat.le_refl _, by omega, fun _ => ⟨rfl, rfl⟩⟩
  · exact ⟨some ⟨g, 0, none⟩, cap, rfl, h1, by unfold maxLen at h2; omega, fun h => by cases h⟩

/-- A row of the call's own holds its bytes. -/
theorem row_bts {W : World} {base : Nat} {v : Value} {ks : List Int} (h : W.ownsRow base 5 1 v ks.length (ks.map (Value.int .u8))) (hb : ∀ x ∈ ks, 0 ≤ x ∧ x ≤ 255) : Bts W v ks := by
  obtain ⟨a, c, rfl, h1, h2, _⟩ := row_form h
  refine ⟨a, c, rfl, h1, h2, hb, fun hp => ?_⟩
  rcases h.2 with ⟨e, e'⟩ | ⟨g, cap, cur, e, _, hg, _, _, _, ht⟩
  · omega
  · simp at e
    obtain ⟨rfl, rfl⟩ := e
    refine ⟨g, 0, rfl, fun i hi => ?_⟩
    rw [cell_of_row W g (0 + i) cur 5 (0, 0) hg]
    have : (ks.map (Value.int .u8))[i]? = some (.int .u8 (ks.getD i 0)) := by
      rw [List.getElem?_map, List.getD_eq_getElem?_getD, List.getElem?_eq_getElem hi]; rfl
    rw [← ht, List.getElem?_take, if_pos (by omega)] at this
    simpa using this

set_option maxHeartbeats 400000 in
theorem new_any (w : World) :
    Calls Tryd.prog 16 #[] w fun e w' => e = .returned (.pointer (some ⟨w.heap.size, 0, none⟩)) ∧ w' = w.alloc (.cells #[.slice none 0 0, .bool false] 54) := by
  go_enter Tryd.func16, Tryd.ntmps16
  go_wp2
  go_ret
  exact ⟨rfl, rfl⟩

set_option maxHeartbeats 400000 in
theorem len_any (Bb : Nat) (kv : Value) (ks : List Int) (lg : Bool) (w : World) (hk : Keeps w Bb kv ks lg) :
    Calls Tryd.prog 20 #[.pointer (some ⟨Bb, 0, none⟩)] w fun e w' => e = .returned (.int .i64 ks.length) ∧ w' = w := by
  obtain ⟨hB, hr, _, _⟩ := hk
  obtain ⟨a, c, rfl, _⟩ := row_form hr
  have h0 := hB.cell0
  go_enter Tryd.func20, Tryd.ntmps20
  go_wp2
  go_ret
  exact ⟨rfl, rfl⟩

set_option maxHeartbeats 400000 in
theorem len_nil (w : World) :
    Calls Tryd.prog 20 #[.pointer none] w fun e w' => e = .returned (.int .i64 0) ∧ w' = w := by
  go_enter Tryd.func20, Tryd.ntmps20
  go_wp2
  go_ret
  exact ⟨rfl, rfl⟩

/-- What is kept when the piece ps has come. -/
def stepK (ks : List Int) (lg : Bool) (ps : List Int) : List Int × Bool := if lg = true ∨ 65536 < ks.length + ps.length then ([], true) else (ks ++ ps, false)

theorem Tryd.info5 : (Tryd.prog.info? 5).map (fun i => (i.zero, i.size, i.bytes)) = some (some (.int .u8 0), 1, 1) := by kernel_rfl

theorem keeps_drop {w : World} {Bb : Nat} {kv : Value} {lg : Bool} (hB : BufAt w Bb kv lg) :
    ∃ kv', Keeps ((w.setCell ⟨Bb, 0, none⟩ (.slice none 0 0)).setCell ⟨Bb, 1, none⟩ (.bool true)) Bb kv' [] true ∧ Touch Bb kv kv' w ((w.setCell ⟨Bb, 0, none⟩ (.slice none 0 0)).setCell ⟨Bb, 1, none⟩ (.bool true)) := by
  refine ⟨.slice none 0 0, ⟨(hB.set0 _).set1 _, World.ownsRow_nil _ _ _ _, fun x h => (by cases h), Nat.zero_le _⟩, ⟨rfl, rfl, rfl, by simp [World.setCell], fun k hk h1 _ => ?_, fun g h => by simp [Value.ownBlock] at h⟩⟩
  rw [Below.heap_setCell _ _ _ k h1, Below.heap_setCell _ _ _ k h1]

theorem keeps_more {w w1 : World} {Bb : Nat} {kv kv' : Value} {ks ps : List Int} (hk : Keeps w Bb kv ks false) (hb : ∀ x ∈ ps, 0 ≤ x ∧ x ≤ 255) (hl : ks.length + ps.length ≤ 65536)
    (h2 : w1.ownsRow 0 5 1 kv' (ks.length + ps.length) (ks.map (Value.int .u8) ++ ps.map (Value.int .u8))) (h3 : w.grownBy w1 kv.ownBlock) (h5 : kv'.ownBlock = kv.ownBlock ∨ kv'.ownBlock = some w.heap.size) :
    Keeps (w1.setCell ⟨Bb, 0, none⟩ kv') Bb kv' (ks ++ ps) false ∧ Touch Bb kv kv' w (w1.setCell ⟨Bb, 0, none⟩ kv') := by
  obtain ⟨hB, hr, hkb, _⟩ := hk
  have hB1 : BufAt w1 Bb kv false := hB.grown h3 (hB.not_row (by decide) hr)
  refine ⟨⟨hB1.set0 _, ?_, ?_, by simpa using hl⟩, ⟨h3.os, h3.tape, h3.output, by simpa [World.setCell] using h3.size, fun k hk h1 h2' => ?_, fun g hg => ?_⟩⟩
  · have := h2.kept (grownBy_setCell' w1 Bb kv') (.inr (hB1.not_row (by decide) h2).symm)
    rw [List.map_append, List.length_append]
    exact this
  · intro x hx
    rcases List.mem_append.1 hx with h | h
    · exact hkb x h
    · exact hb x h
  · rw [Below.heap_setCell _ _ _ k h1]
    exact h3.block k hk h2'
  · rcases h5 with e | e
    · exact .inl (e.symm.trans hg)
    · rw [e] at hg; cases hg; exact .inr (Nat.le_refl _)

set_option maxHeartbeats 1000000 in
theorem keep_long (Bb : Nat) (a : Option Addr) (n c : Nat) (p : Option Addr) (m d : Nat) (w : World) (hB : BufAt w Bb (.slice a n c) true) :
    Calls Tryd.prog 26 #[.pointer (some ⟨Bb, 0, none⟩), .slice p m d] w fun e w' => e = .returned (.tuple #[]) ∧ w' = (w.setCell ⟨Bb, 0, none⟩ (.slice none 0 0)).setCell ⟨Bb, 1, none⟩ (.bool true) := by
  have c0 := hB.cell0
  have c1 := hB.cell1
  have f0 := hB.fr0
  have f1 := hB.fr1
  clear hB
  go_enter Tryd.func26, Tryd.ntmps26
  go_wp2
  refine bodyPost_ret (results_none rfl _ _ _) rfl ?_
  exact ⟨rfl, rfl⟩

set_option maxHeartbeats 1000000 in
theorem keep_over (Bb : Nat) (a : Option Addr) (n c : Nat) (p : Option Addr) (m d : Nat) (w : World) (hB : BufAt w Bb (.slice a n c) false) (hn : n ≤ 65536) (_hm : m ≤ 9223372036854775807) (h : 65536 < n + m) :
    Calls Tryd.prog 26 #[.pointer (some ⟨Bb, 0, none⟩), .slice p m d] w fun e w' => e = .returned (.tuple #[]) ∧ w' = (w.setCell ⟨Bb, 0, none⟩ (.slice none 0 0)).setCell ⟨Bb, 1, none⟩ (.bool true) := by
  have c0 := hB.cell0
  have c1 := hB.cell1
  have f0 := hB.fr0
  have f1 := hB.fr1
  clear hB
  go_enter Tryd.func26, Tryd.ntmps26
  go_wp2
  refine bodyPost_ret (results_none rfl _ _ _) rfl ?_
  exact ⟨rfl, rfl⟩

theorem addr_add (b o j : Nat) : (⟨b, o, none⟩ : Addr).add j = ⟨b, o + j, none⟩ := by unfold Addr.add; split <;> simp_all

set_option maxHeartbeats 1000000 in
theorem keep_some (Bb : Nat) (kv : Value) (ks : List Int) (ad : Addr) (d : Nat) (ps : List Int) (w : World) (hk : Keeps w Bb kv ks false) (hp : Bts w (.slice (some ad) ps.length d) ps) (hl : ks.length + ps.length ≤ 65536) :
    Calls Tryd.prog 26 #[.pointer (some ⟨Bb, 0, none⟩), .slice (some ad) ps.length d] w fun e w' => e = .returned (.tuple #[]) ∧ ∃ kv', Keeps w' Bb kv' (ks ++ ps) false ∧ Touch Bb kv kv' w w' := by
  have hk0 := hk
  obtain ⟨hB, hr, hkb, hkl⟩ := hk
  obtain ⟨p, d', e, hd, hdm, hpb, hpc⟩ := hp
  simp only [Value.slice.injEq, true_and] at e
  obtain ⟨rfl, rfl⟩ := e
  have hB0 := hB
  have c0 := hB.cell0
  have c1 := hB.cell1
  have f0 := hB.fr0
  have hn1 : (ps.map (Value.int .u8)).length = ps.length * 1 := by simp
  have hn2 : ∀ j u, (ps.map (Value.int .u8))[j]? = some u → w.cell? (ad.add j) = some u := by
    intro j u hj
    rw [List.getElem?_map] at hj
    cases hq : ps[j]? with
    | none => rw [hq] at hj; cases hj
    | some x =>
      have hlt : j < ps.length := (List.getElem?_eq_some_iff.1 hq).1
      obtain ⟨b, o, e, hc⟩ := hpc (by omega)
      cases e
      rw [addr_add, hc j hlt, List.getD_eq_getElem?_getD, hq]
      rw [hq] at hj
      simpa using hj
  have hn3 : ∀ u ∈ ps.map (Value.int .u8), u.oneCell' = true := by
    intro u hu
    obtain ⟨_, _, rfl⟩ := List.mem_map.1 hu
    rfl
  have hn4 : ks.length + ps.length ≤ maxLen := by unfold maxLen; omega
  have hn5 : (ks.length + ps.length) * 1 ≤ 140737488355328 := by omega
  obtain ⟨i0, hi, hz0, hz1, hz2⟩ := info_parts Tryd.info5
  have hnr := hB.not_row (by decide) hr
  obtain ⟨a, c, hkv, hac, hcm, han⟩ := row_form hr
  have KF : Hid (Keeps w Bb kv ks false ∧ (∀ x ∈ ps, 0 ≤ x ∧ x ≤ 255) ∧ some Bb ≠ kv.ownBlock ∧ BufAt w Bb kv false) := ⟨hk0, hpb, hnr, hB⟩
  subst hkv
  clear hk0 hpb hnr hB hB0 hpc
  go_enter Tryd.func26, Tryd.ntmps26
  go_wp2_with (at_builtin; refine wpList_append_own_at _ rfl _ _ 22 rfl 0 5 i0 (.int .u8 0) 1 1 Tryd.underlying22 hi hz0 hz1 hz2 rfl (by decide) _ _ _ rfl hr ad ps.length d (ps.map (Value.int .u8)) rfl hn1 hn2 hn3 hn4 hn5 (Nat.zero_le _) ?_; intro v' w1 h2 h3 h4 h5; obtain ⟨a', c', hv', _⟩ := row_form h2; subst hv'; have hB1 := BufAt.grown KF.out.2.2.2 h3 KF.out.2.2.1; have c01 := hB1.cell0; have f01 := hB1.fr0; have KM := keeps_more KF.out.1 KF.out.2.1 hl h2 h3 h5; clear hB1 h2 h3 h4 h5)
  go_end0
  exact ⟨rfl, _, KM.1, KM.2⟩

theorem run_append_none (ty : TypeId) (a : Option Addr) (n c d : Nat) (w : World) (h : n ≤ c) :
    (Builtin.append_ #[22, 22] ty #[.slice a n c, .slice none 0 d]).run Tryd.prog w = .ok (.slice a n c) w := by
  obtain ⟨i0, hi, hz0, hz1, hz2⟩ := info_parts Tryd.info5
  cases a <;> simp [Builtin.append_, run_underlying Tryd.underlying22, sizeOf, typeInfo, hi, Builtin.lenOf, h, run_firstCells_none, storeCells]

set_option maxHeartbeats 1000000 in
theorem keep_none (Bb : Nat) (a : Option Addr) (n c d : Nat) (w : World) (hB : BufAt w Bb (.slice a n c) false) (hnc : n ≤ c) (hn : n ≤ 65536) :
    Calls Tryd.prog 26 #[.pointer (some ⟨Bb, 0, none⟩), .slice none 0 d] w fun e w' => e = .returned (.tuple #[]) ∧ w' = w.setCell ⟨Bb, 0, none⟩ (.slice a n c) := by
  have c0 := hB.cell0
  have c1 := hB.cell1
  have f0 := hB.fr0
  clear hB
  go_enter Tryd.func26, Tryd.ntmps26
  go_wp2_with (at_builtin; refine Lib.wpList_append_run_sl _ rfl _ _ 22 rfl _ _ rfl rfl (run_append_none _ a n c d w hnc) ?_)
  go_end0
  exact ⟨rfl, rfl⟩

theorem keep_any (Bb : Nat) (kv : Value) (ks : List Int) (lg : Bool) (pv : Value) (ps : List Int) (w : World) (hk : Keeps w Bb kv ks lg) (hp : Bts w pv ps) :
    Calls Tryd.prog 26 #[.pointer (some ⟨Bb, 0, none⟩), pv] w fun e w' => e = .returned (.tuple #[]) ∧ ∃ kv', Keeps w' Bb kv' (stepK ks lg ps).1 (stepK ks lg ps).2 ∧ Touch Bb kv kv' w w' := by
  have hk0 := hk
  have hp0 := hp
  obtain ⟨hB, hr, hkb, hkl⟩ := hk
  obtain ⟨a, c, rfl, hac, hcm, han⟩ := row_form hr
  obtain ⟨p, d, rfl, hd, hdm, hpb, hpc⟩ := hp
  by_cases hlg : lg = true
  · subst hlg
    have HS : stepK ks true ps = ([], true) := by simp [stepK]
    rw [HS]
    refine (keep_long Bb a _ c p _ d w hB).mono ?_
    rintro e w' ⟨rfl, rfl⟩
    exact ⟨rfl, keeps_drop hB⟩
  · have hlg' : lg = false := by simpa using hlg
    subst hlg'
    by_cases hlong : 65536 < ks.length + ps.length
    · have HS : stepK ks false ps = ([], true) := by simp [stepK, hlong]
      rw [HS]
      refine (keep_over Bb a _ c p _ d w hB hkl (by omega) hlong).mono ?_
      rintro e w' ⟨rfl, rfl⟩
      exact ⟨rfl, keeps_drop hB⟩
    · have HS : stepK ks false ps = (ks ++ ps, false) := by simp [stepK, hlong]
      rw [HS]
      cases p with
      | none =>
        have h0 : ps = [] := by
          cases ps with
          | nil => rfl
          | cons x r => obtain ⟨b, o, e, _⟩ := hpc (by simp); cases e
        subst h0
        refine (keep_none Bb a _ c d w hB hac hkl).mono ?_
        rintro e w' ⟨rfl, rfl⟩
        refine ⟨rfl, _, ⟨hB.set0 _, ?_, by simpa using hkb, by simpa using hkl⟩, ⟨rfl, rfl, rfl, by simp [World.setCell], fun k _ h1 _ => Below.heap_setCell _ _ _ k h1, fun g h => .inl h⟩⟩
        have := hr.kept (grownBy_setCell' w Bb (.slice a ks.length c)) (.inr (hB.not_row (by decide) hr).symm)
        simpa using this
      | some ad => exact keep_some Bb _ ks ad d ps w hk0 hp0 (by omega)

/-- A Buffer's part of the world abides whatever leaves its two blocks alone. -/
theorem Keeps.kept {W W' : World} {Bb : Nat} {kv : Value} {ks : List Int} {lg : Bool} {row : Option Nat} (h : Keeps W Bb kv ks lg) (hg : W.grownBy W' row) (h1 : some Bb ≠ row) (h2 : kv.ownBlock = none ∨ kv.ownBlock ≠ row) : Keeps W' Bb kv ks lg :=
  ⟨h.1.grown hg h1, h.2.1.kept hg h2, h.2.2⟩

end Go.Proofs.YtdbfmjfbiokfdaaDoor
