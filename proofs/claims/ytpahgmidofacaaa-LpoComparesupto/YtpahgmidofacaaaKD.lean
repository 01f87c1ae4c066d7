/-
  kbo.places: of each name the first place at which it stands.
-/
import Derived.Test.YtpahgmidofacaaaKC
import Derived.Test.YtpahgmidofacaaaLM
import Derived.StringKeys
namespace Go.Proofs.Ytpahgmidofacaaa
open Go.RowKit Go.Maps

set_option maxRecDepth 100000 in
theorem keyed9 : Keyed Try.prog 9 := string_keyed Try.underlying9
set_option maxRecDepth 100000 in
theorem key9 {s : ByteArray} (h : s.size ≤ maxLen) : keyOf Try.prog 9 (.string s) = some (.string s.data.toList) := WideMaps.keyOf_string_mk Try.underlying9 h
theorem zero3 (w : World) : (zeroValue 3).run Try.prog w = .ok (.int .i64 0) w := Try.zeroValue3 w

/-- The map of places. -/
def pmL (l : List ByteArray) : Value → Option Value
  | .string s => (ixL l s).map fun (j : Nat) => Value.int .i64 (j : Int)
  | _ => none

theorem ixL_snoc (l : List ByteArray) (s x : ByteArray) : ixL (l ++ [s]) x = match ixL l x with
    | some i => some i
    | none => if s = x then some l.length else none := by
  unfold ixL
  rw [List.findIdx?_append]
  cases h : List.findIdx? (fun y => decide (y = x)) l with
  | some i => simp
  | none =>
    by_cases e : s = x
    · simp [List.findIdx?_cons, e]
    · simp [List.findIdx?_cons, e]
theorem ixL_none {l : List ByteArray} {x : ByteArray} : ixL l x = none ↔ x ∉ l := by
  unfold ixL
  rw [List.findIdx?_eq_none_iff]
  constructor
  · intro h hx
    have := h x hx
    simp at this
  · intro h y hy
    simp only [decide_eq_false_iff_not]
    exact fun e => h (e ▸ hy)

theorem pmL_old {l : List ByteArray} {s : ByteArray} (h : s ∈ l) : pmL (l ++ [s]) = pmL l := by
  funext v
  cases v with
  | string x =>
    simp only [pmL, ixL_snoc]
    cases hi : ixL l x with
    | some i => rfl
    | none =>
      have : ¬ s = x := fun e => absurd (e ▸ h) (ixL_none.1 hi)
      simp [this]
  | _ => rfl
theorem pmL_new {l : List ByteArray} {s : ByteArray} (h : s ∉ l) : upd (pmL l) (.string s) (.int .i64 (l.length : Int)) = pmL (l ++ [s]) := by
  funext v
  unfold upd
  by_cases e : v = .string s
  · subst e
    rw [if_pos rfl]
    simp only [pmL, ixL_snoc, ixL_none.2 h, if_true, Option.map_some]
  · rw [if_neg e]
    cases v with
    | string x =>
      simp only [pmL, ixL_snoc]
      have : ¬ s = x := fun h => e (by rw [h])
      cases hi : ixL l x with
      | some i => rfl
      | none => simp [this]
    | _ => rfl

open Classical in
/-- How many different ones. -/
noncomputable def dnR : List ByteArray → Nat
  | [] => 0
  | x :: r => dnR r + (if x ∈ r then 0 else 1)
noncomputable def dn (l : List ByteArray) : Nat := dnR l.reverse
open Classical in
theorem dn_snoc (l : List ByteArray) (x : ByteArray) : dn (l ++ [x]) = dn l + (if x ∈ l then 0 else 1) := by
  simp [dn, dnR]
theorem dnR_le : ∀ l : List ByteArray, dnR l ≤ l.length
  | [] => Nat.le_refl _
  | x :: r => by
    have := dnR_le r
    simp only [dnR, List.length_cons]
    split <;> omega
theorem dnR_all : ∀ l : List ByteArray, dnR l = l.length ↔ l.Nodup
  | [] => by simp [dnR]
  | x :: r => by
    have h1 := dnR_le r
    have h2 := dnR_all r
    simp only [dnR, List.length_cons, List.nodup_cons]
    by_cases h : x ∈ r
    · rw [if_pos h]
      exact ⟨fun e => by omega, fun e => absurd h e.1⟩
    · rw [if_neg h]
      exact ⟨fun e => ⟨h, h2.1 (by omega)⟩, fun e => by have := h2.2 e.2; omega⟩
theorem dn_le (l : List ByteArray) : dn l ≤ l.length := by
  have := dnR_le l.reverse
  simpa [dn] using this
theorem dn_all (l : List ByteArray) : dn l = l.length ↔ l.Nodup := by
  have h1 := dnR_all l.reverse
  rw [List.length_reverse] at h1
  have h2 : l.reverse.Nodup ↔ l.Nodup := by
    unfold List.Nodup
    rw [List.pairwise_reverse]
    constructor <;> intro h <;> exact h.imp (fun e => Ne.symm e)
  exact h1.trans h2

theorem run_makeMapN (t k e : TypeId) (ht : Try.prog.underlying t = some (.map k e)) (n : Int) (w : World) : (Instr.makeMap t (some (.int .i64 n))).run Try.prog w = .ok (.map (some w.heap.size)) (w.alloc (.map #[] 0)) := by
  simp [Instr.makeMap, run_underlying ht, asInt, asIntOf, Result.andThen]

set_option maxRecDepth 100000 in
set_option maxHeartbeats 2000000 in
theorem places_any (l : List ByteArray) (v : Value) (w : World) (hl : RowAt .string w v l) (hs : ∀ x ∈ l, x.size ≤ maxLen) :
    Calls Try.prog 37 #[v] w fun e w' => e = .returned (.map (some w.heap.size)) ∧ MapIs w' 9 w.heap.size (pmL l) (dn l) ∧ Below w.heap.size w w' := by
  obtain ⟨a, c, rfl, hc, hm⟩ := hl.slice
  have hmm := fun n w => run_makeMapN 78 9 3 Try.underlying78 n w
  have HL : Hid (RowAt .string w (.slice a l.length c) l) := hl
  have HS : Hid (∀ x ∈ l, x.size ≤ maxLen) := hs
  have HM : Hid (MapIs (w.alloc (.map #[] 0)) 9 w.heap.size (fun _ => none) 0) := MapIs.made w 9
  have HB : Hid (Below w.heap.size w (w.alloc (.map #[] 0))) := below_box w _
  clear hl hs
  go_enter Try.func37, Try.ntmps37
  go_wp2
  go_loopw [13] (fun vi wr => ∃ i : Nat, vi = .int .i64 i ∧ i ≤ l.length ∧ Hid (MapIs wr 9 w.heap.size (pmL (l.take i)) (dn (l.take i)) ∧ Below w.heap.size w wr)) (fun vi _ => l.length - (intOf vi).toNat)
  case atStart =>
    refine ⟨0, rfl, Nat.zero_le _, ?_, HB.out⟩
    have e : pmL (l.take 0) = fun _ => none := by
      funext v
      cases v <;> rfl
    rw [e]
    exact HM.out
  case round =>
    obtain ⟨i, rfl, hi, HI⟩ := hrel
    by_cases hlt : i < l.length
    · obtain ⟨b, o, rfl, hbl, hcell⟩ := (HL.out.keep HI.out.2 (Nat.le_refl _)).nth hlt
      have ht : l.take (i + 1) = l.take i ++ [l[i]] := List.take_succ_eq_append_getElem hlt
      have hli : (l.take i).length = i := by simp; omega
      have hk := key9 (HS.out l[i] (List.getElem_mem hlt))
      by_cases e : l[i] ∈ l.take i
      · obtain ⟨j, hj⟩ : ∃ j, ixL (l.take i) l[i] = some j := by
          cases h : ixL (l.take i) l[i] with
          | some j => exact ⟨j, rfl⟩
          | none => exact absurd e (ixL_none.1 h)
        obtain ⟨hl1, _⟩ := (HI.out.1.look keyed9 Try.underlying78 (zero3 wr) hk).1 (.int .i64 (j : Int)) (by simp [pmL, hj])
        have HI2 : Hid (MapIs wr 9 w.heap.size (pmL (l.take (i + 1))) (dn (l.take (i + 1))) ∧ Below w.heap.size w wr) := by
          refine ⟨?_, HI.out.2⟩
          rw [ht, pmL_old e, dn_snoc, if_pos e]
          exact HI.out.1
        clear hj ht hli hk e
        go_wp2
        go_roundw
        case rel => exact ⟨i + 1, by go_num, by omega, HI2⟩
        case measure => simp [intOf]; omega
      · have hno : pmL (l.take i) (.string l[i]) = none := by simp [pmL, ixL_none.2 e]
        obtain ⟨hl1, _⟩ := (HI.out.1.look keyed9 Try.underlying78 (zero3 wr) hk).2 hno
        have hdn := dn_le (l.take i)
        obtain ⟨W2, hrun, hM2, hg2⟩ := HI.out.1.put keyed9 Try.underlying78 (by unfold maxLen; omega) hk (.int .i64 (i : Int))
        have HI2 : Hid (MapIs W2 9 w.heap.size (pmL (l.take (i + 1))) (dn (l.take (i + 1))) ∧ Below w.heap.size w W2) := by
          rw [hno] at hM2
          have hu := pmL_new e
          rw [hli] at hu
          rw [hu] at hM2
          refine ⟨?_, HI.out.2.trans ((Only.of_grown (B := [w.heap.size]) hg2 (fun r e => by cases e; simp)).below HI.out.2.size (by simp))⟩
          rw [ht, dn_snoc, if_neg e]
          exact hM2
        clear hno ht hli hk e hdn hM2 hg2
        go_wp2_with (first | (refine wpList_mapUpdate_run rfl 78 _ _ _ rfl (.map (some w.heap.size)) (.string l[i]) (.int .i64 (i : Int)) rfl rfl rfl hrun ?_))
        go_roundw
        case rel => exact ⟨i + 1, by go_num, by omega, HI2⟩
        case measure => simp [intOf]; omega
    · have HI2 : Hid (MapIs wr 9 w.heap.size (pmL l) (dn l) ∧ Below w.heap.size w wr) := by
        have := HI.out
        rwa [List.take_of_length_le (by omega)] at this
      go_wp2
      go_ret
      exact ⟨rfl, HI2.out⟩

end Go.Proofs.Ytpahgmidofacaaa
