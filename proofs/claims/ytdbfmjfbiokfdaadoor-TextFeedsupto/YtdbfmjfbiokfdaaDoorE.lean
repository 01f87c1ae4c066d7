/-
  The walk of take: the line that ended.
-/
import Derived.Test.YtdbfmjfbiokfdaaDoorD
import Derived.Laws.BytesArg
namespace Go.Proofs.YtdbfmjfbiokfdaaDoor
open Go.RowKit

theorem conv_any (w : World) (v : Value) (ks : List Int) (hv : Bts w v ks) : (convert 22 9 v).run Tryd.prog w = .ok (.string (strOfNums ks)) w := by
  obtain ⟨p, c, rfl, hc, hm, hb, hx⟩ := hv
  by_cases h0 : 0 < ks.length
  · obtain ⟨b, o, rfl, hcell⟩ := hx h0
    exact run_convert_bytes_arg w 22 5 Tryd.underlying22 Tryd.underlying5 b o _ c ks rfl hcell 9 Tryd.underlying9
  · have : ks = [] := List.length_eq_zero_iff.1 (by omega)
    subst this
    show (convert 22 9 (.slice p 0 c)).run Tryd.prog w = _
    rw [run_convert_bytes_string w 22 9 5 _ 0 c Tryd.underlying22 Tryd.underlying5 Tryd.underlying9]
    cases p with
    | none => simp [Conv.bytesToString, strOfNums]; rfl
    | some a => rw [run_bytesToString w _ 0 c [] (by simp [loadCells, loadCellsFrom])]; rfl

theorem grownBy_set (W : World) (b o : Nat) (v : Value) : W.grownBy (W.setCell ⟨b, o, none⟩ v) (some b) :=
  ⟨rfl, rfl, rfl, by simp [World.setCell], fun k _ hk => Below.heap_setCell _ _ _ k (fun e => hk (by rw [e]))⟩

theorem Bts.after_take {w : World} {Bb : Nat} {v : Value} {ks : List Int} {lg : Bool} {kv : Value} (hr : w.ownsRow 0 5 1 v ks.length (ks.map (Value.int .u8))) (hb : ∀ x ∈ ks, 0 ≤ x ∧ x ≤ 255) (hB : BufAt w Bb kv lg) (o1 o2 : Obj) :
    Bts ((((w.setCell ⟨Bb, 0, none⟩ (.slice none 0 0)).setCell ⟨Bb, 1, none⟩ (.bool false)).alloc o1).alloc o2) v ks := by
  have hne := (hB.not_row (by decide) hr).symm
  have h1 := World.ownsRow.kept hr (grownBy_setCell' w Bb (.slice none 0 0)) (.inr hne)
  have h2 := World.ownsRow.kept h1 (grownBy_set (w.setCell ⟨Bb, 0, none⟩ (.slice none 0 0)) Bb 1 (.bool false)) (.inr hne)
  exact row_bts ((h2.alloc o1).alloc o2) hb

set_option maxHeartbeats 1000000 in
theorem take_long (Bb : Nat) (a : Option Addr) (n c : Nat) (w : World) (hB : BufAt w Bb (.slice a n c) true) :
    Calls Tryd.prog 27 #[.pointer (some ⟨Bb, 0, none⟩)] w fun e w' => e = .returned (.agg #[.string ⟨#[]⟩, .int .i64 11]) ∧ ∃ o1 o2, w' = (((w.setCell ⟨Bb, 0, none⟩ (.slice none 0 0)).setCell ⟨Bb, 1, none⟩ (.bool false)).alloc o1).alloc o2 := by
  have c0 := hB.cell0
  have c1 := hB.cell1
  have f0 := hB.fr0
  have f1 := hB.fr1
  have hlt := hB.lt
  clear hB
  go_enter Tryd.func27, Tryd.ntmps27
  go_wp2
  exact bodyPost_ret (v := .agg #[.string ⟨#[]⟩, .int .i64 11]) (by simp [results, Tryd.results27, go_sem]) rfl ⟨rfl, _, _, rfl⟩

set_option maxHeartbeats 1000000 in
theorem take_bad (Bb : Nat) (a : Option Addr) (n c : Nat) (w : World) (hB : BufAt w Bb (.slice a n c) false) (ks : List Int) (_hn : ks.length = n) (hr : w.ownsRow 0 5 1 (.slice a n c) ks.length (ks.map (Value.int .u8))) (hb : ∀ x ∈ ks, 0 ≤ x ∧ x ≤ 255) (hvl : vld ks = false) :
    Calls Tryd.prog 27 #[.pointer (some ⟨Bb, 0, none⟩)] w fun e w' => e = .returned (.agg #[.string ⟨#[]⟩, .int .i64 10]) ∧ ∃ o1 o2, w' = (((w.setCell ⟨Bb, 0, none⟩ (.slice none 0 0)).setCell ⟨Bb, 1, none⟩ (.bool false)).alloc o1).alloc o2 := by
  have c0 := hB.cell0
  have c1 := hB.cell1
  have f0 := hB.fr0
  have f1 := hB.fr1
  have hlt := hB.lt
  have hW := Bts.after_take hr hb hB (.cells #[.string ⟨#[]⟩, .int .i64 0] 44) (.cells #[.slice a n c, .bool false] 54)
  clear hB
  go_enter Tryd.func27, Tryd.ntmps27
  go_wp2_with (go_at_call 8; refine (valid_any _ ks _ hW).mono ?_; rw [hvl]; rintro e w' ⟨rfl, rfl⟩)
  exact bodyPost_ret (v := .agg #[.string ⟨#[]⟩, .int .i64 10]) (by simp [results, Tryd.results27, go_sem]) rfl ⟨rfl, _, _, rfl⟩

set_option maxHeartbeats 1000000 in
theorem take_good (Bb : Nat) (a : Option Addr) (n c : Nat) (w : World) (hB : BufAt w Bb (.slice a n c) false) (ks : List Int) (_hn : ks.length = n) (hr : w.ownsRow 0 5 1 (.slice a n c) ks.length (ks.map (Value.int .u8))) (hb : ∀ x ∈ ks, 0 ≤ x ∧ x ≤ 255) (hvl : vld ks = true) :
    Calls Tryd.prog 27 #[.pointer (some ⟨Bb, 0, none⟩)] w fun e w' => e = .returned (.agg #[.string (strOfNums ks), .int .i64 0]) ∧ ∃ o1 o2, w' = (((w.setCell ⟨Bb, 0, none⟩ (.slice none 0 0)).setCell ⟨Bb, 1, none⟩ (.bool false)).alloc o1).alloc o2 := by
  have c0 := hB.cell0
  have c1 := hB.cell1
  have f0 := hB.fr0
  have f1 := hB.fr1
  have hlt := hB.lt
  have hW := Bts.after_take hr hb hB (.cells #[.string ⟨#[]⟩, .int .i64 0] 44) (.cells #[.slice a n c, .bool false] 54)
  have hcv := conv_any _ _ _ hW
  clear hB
  go_enter Tryd.func27, Tryd.ntmps27
  go_wp2_with (go_at_call 8; refine (valid_any _ ks _ hW).mono ?_; rw [hvl]; rintro e w' ⟨rfl, rfl⟩)
  exact bodyPost_ret (v := .agg #[.string (strOfNums ks), .int .i64 0]) (by simp [results, Tryd.results27, go_sem]) rfl ⟨rfl, _, _, rfl⟩

/-- The line's text, and its error. -/
def lineT (ks : List Int) (lg : Bool) : ByteArray := if lg = true then ⟨#[]⟩ else if vld ks = true then strOfNums ks else ⟨#[]⟩
def lineE (ks : List Int) (lg : Bool) : Int := if lg = true then 11 else if vld ks = true then 0 else 10

theorem taken {w : World} {Bb : Nat} {kv : Value} {ks : List Int} {lg : Bool} (hk : Keeps w Bb kv ks lg) (o1 o2 : Obj) :
    Keeps ((((w.setCell ⟨Bb, 0, none⟩ (.slice none 0 0)).setCell ⟨Bb, 1, none⟩ (.bool false)).alloc o1).alloc o2) Bb (.slice none 0 0) [] false ∧ Touch Bb kv (.slice none 0 0) w ((((w.setCell ⟨Bb, 0, none⟩ (.slice none 0 0)).setCell ⟨Bb, 1, none⟩ (.bool false)).alloc o1).alloc o2) := by
  have hB := hk.1
  have hlt := hB.lt
  have hB2 := (hB.set0 (.slice none 0 0)).set1 false
  have s1 : ((w.setCell ⟨Bb, 0, none⟩ (.slice none 0 0)).setCell ⟨Bb, 1, none⟩ (.bool false)).heap.size = w.heap.size := by simp [World.setCell]
  refine ⟨⟨?_, World.ownsRow_nil _ _ _ _, fun x h => (by cases h), Nat.zero_le _⟩, ⟨rfl, rfl, rfl, by simp [s1]; omega, fun k hk h1 _ => ?_, fun g h => by simp [Value.ownBlock] at h⟩⟩
  · exact (hB2.grown (World.grownBy_alloc _ o1 none) (by simp)).grown (World.grownBy_alloc _ o2 none) (by simp)
  · rw [Below.heap_alloc _ _ k (by simp [s1]; omega), Below.heap_alloc _ _ k (by rw [s1]; exact hk), Below.heap_setCell _ _ _ k h1, Below.heap_setCell _ _ _ k h1]

theorem take_any (Bb : Nat) (kv : Value) (ks : List Int) (lg : Bool) (w : World) (hk : Keeps w Bb kv ks lg) :
    Calls Tryd.prog 27 #[.pointer (some ⟨Bb, 0, none⟩)] w fun e w' => e = .returned (.agg #[.string (lineT ks lg), .int .i64 (lineE ks lg)]) ∧ Keeps w' Bb (.slice none 0 0) [] false ∧ Touch Bb kv (.slice none 0 0) w w' := by
  obtain ⟨a, c, e, _⟩ := row_form hk.2.1
  subst e
  by_cases hlg : lg = true
  · subst hlg
    refine (take_long Bb a _ c w hk.1).mono ?_
    rintro e w' ⟨rfl, o1, o2, rfl⟩
    exact ⟨by simp [lineT, lineE], taken hk o1 o2⟩
  · have hlg' : lg = false := by simpa using hlg
    subst hlg'
    by_cases hv : vld ks = true
    · refine (take_good Bb a _ c w hk.1 ks rfl hk.2.1 hk.2.2.1 hv).mono ?_
      rintro e w' ⟨rfl, o1, o2, rfl⟩
      exact ⟨by simp [lineT, lineE, hv], taken hk o1 o2⟩
    · have hv' : vld ks = false := by simpa using hv
      refine (take_bad Bb a _ c w hk.1 ks rfl hk.2.1 hk.2.2.1 hv').mono ?_
      rintro e w' ⟨rfl, o1, o2, rfl⟩
      exact ⟨by simp [lineT, lineE, hv'], taken hk o1 o2⟩

end Go.Proofs.YtdbfmjfbiokfdaaDoor
