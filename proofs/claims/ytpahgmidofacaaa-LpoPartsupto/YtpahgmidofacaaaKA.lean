/-
  Rows of names and of weights in memory; slices.Index; the document's at; both Above.
-/
import Derived.Test.YtpahgmidofacaaaKM
import Derived.Test.YtpahgmidofacaaaQF
namespace Go.Proofs.Ytpahgmidofacaaa
open Go.RowKit

/-- A row in memory, one cell an element. -/
def RowAt {α : Type} (f : α → Value) (W : World) (v : Value) (l : List α) : Prop :=
  ∃ a c, v = .slice a l.length c ∧ l.length ≤ c ∧ c ≤ 9223372036854775807 ∧ (0 < l.length → ∃ b o, b < W.heap.size ∧ a = some ⟨b, o, none⟩ ∧ ∀ i (h : i < l.length), W.cell? ⟨b, o + i, none⟩ = some (f l[i]))

section
variable {α : Type} {f : α → Value} {W W' : World} {v : Value} {l : List α}
theorem RowAt.keep {n : Nat} (h : RowAt f W v l) (hb : Below n W W') (hn : W.heap.size ≤ n) : RowAt f W' v l := by
  obtain ⟨a, c, h1, h2, h3, h4⟩ := h
  refine ⟨a, c, h1, h2, h3, fun h0 => ?_⟩
  obtain ⟨b, o, hlt, ha, hc⟩ := h4 h0
  exact ⟨b, o, Nat.lt_of_lt_of_le hlt hb.size, ha, fun i hi => kc hb (Nat.lt_of_lt_of_le hlt hn) (hc i hi)⟩
theorem RowAt.slice (h : RowAt f W v l) : ∃ a c, v = .slice a l.length c ∧ l.length ≤ c ∧ c ≤ 9223372036854775807 := by
  obtain ⟨a, c, h1, h2, h3, h4⟩ := h
  exact ⟨a, c, h1, h2, h3⟩
theorem RowAt.nth {a : Option Addr} {n c : Nat} (h : RowAt f W (.slice a n c) l) {i : Nat} (hi : i < l.length) : ∃ b o, a = some ⟨b, o, none⟩ ∧ b < W.heap.size ∧ W.cell? ⟨b, o + i, none⟩ = some (f l[i]) := by
  obtain ⟨a', c', h1, h2, h3, h4⟩ := h
  obtain ⟨b, o, hlt, ha, hc⟩ := h4 (by omega)
  cases h1
  exact ⟨b, o, ha, hlt, hc i hi⟩
/-- The first ones of a row. -/
theorem RowAt.take {a : Option Addr} {c : Nat} (h : RowAt f W (.slice a l.length c) l) (k : Nat) (hk : k ≤ l.length) : RowAt f W (.slice a k c) (l.take k) := by
  obtain ⟨a', c', h1, h2, h3, h4⟩ := h
  have hl : (l.take k).length = k := by simp; omega
  cases h1
  refine ⟨a, c, by rw [hl], by omega, h3, fun h0 => ?_⟩
  obtain ⟨b, o, hlt, ha, hc⟩ := h4 (by omega)
  refine ⟨b, o, hlt, ha, fun i hi => ?_⟩
  rw [List.getElem_take]
  exact hc i (by omega)
end

/-- Where a name stands first in a list. -/
def ixL (l : List ByteArray) (a : ByteArray) : Option Nat := l.findIdx? (fun x => decide (x = a))
def plL (l : List ByteArray) (a : ByteArray) : Int := match ixL l a with
  | some i => (i : Int)
  | none => -1
theorem pl_eq (g : Sg) (a : ByteArray) : g.pl a = plL g.ns a := rfl

theorem plL_at {l : List ByteArray} {a : ByteArray} {i : Nat} (hi : i < l.length) (h : ∀ j (hj : j < l.length), j < i → l[j] ≠ a) (e : l[i] = a) : plL l a = i := by
  have : ixL l a = some i := by
    unfold ixL
    rw [List.findIdx?_eq_some_iff_getElem]
    exact ⟨hi, by simp [e], fun j hj => by simpa using h j (by omega) hj⟩
  unfold plL
  rw [this]
theorem plL_no {l : List ByteArray} {a : ByteArray} (h : ∀ j (hj : j < l.length), l[j] ≠ a) : plL l a = -1 := by
  have : ixL l a = none := by
    unfold ixL
    rw [List.findIdx?_eq_none_iff]
    intro x hx
    obtain ⟨j, hj, rfl⟩ := List.getElem_of_mem hx
    simpa using h j hj
  unfold plL
  rw [this]
theorem plL_rng (l : List ByteArray) (a : ByteArray) : -1 ≤ plL l a ∧ plL l a < l.length := by
  unfold plL
  cases h : ixL l a with
  | none => simp; omega
  | some i =>
    unfold ixL at h
    obtain ⟨hi, _⟩ := List.findIdx?_eq_some_iff_getElem.1 h
    simp; omega

set_option maxHeartbeats 1000000 in
theorem index_any (l : List ByteArray) (x : ByteArray) (v : Value) (w : World) (hl : RowAt .string w v l) :
    Calls Try.prog 77 #[v, .string x] w fun e w' => e = .returned (.int .i64 (plL l x)) ∧ w' = w := by
  obtain ⟨a, c, rfl, hc, hm⟩ := hl.slice
  have HL : Hid (RowAt .string w (.slice a l.length c) l) := hl
  clear hl
  go_enter Try.func77, Try.ntmps77
  go_wp2
  go_loopw [8] (fun vi wr => ∃ i : Nat, vi = .int .i64 i ∧ i ≤ l.length ∧ wr = w ∧ ∀ j (hj : j < l.length), j < i → l[j] ≠ x) (fun vi _ => l.length - (intOf vi).toNat)
  case atStart => exact ⟨0, rfl, Nat.zero_le _, rfl, fun j _ hj => absurd hj (by omega)⟩
  case round =>
    obtain ⟨i, rfl, hi, hwr, hall⟩ := hrel
    subst hwr
    have HA : Hid (∀ j (hj : j < l.length), j < i → l[j] ≠ x) := hall
    clear hall
    by_cases hlt : i < l.length
    · obtain ⟨b, o, rfl, hbl, hcell⟩ := HL.out.nth hlt
      by_cases e : l[i] = x
      · have HP : Hid (plL l x = i) := plL_at hlt HA.out e
        have e' : (x.toList == l[i].toList) = true := by rw [e]; simp
        clear e
        go_wp2
        go_ret
        exact ⟨ret_i64 HP.out.symm, rfl⟩
      · have HN : Hid (∀ j (hj : j < l.length), j < i + 1 → l[j] ≠ x) := fun j hj hji => by
          by_cases ej : j = i
          · subst ej; exact e
          · exact HA.out j hj (by omega)
        have e' : (x.toList == l[i].toList) = false := by rw [beq_eq_false_iff_ne]; exact fun h => e (ba_toList_inj.1 h).symm
        clear e
        go_wp2
        go_roundw
        case rel => exact ⟨i + 1, by go_num, by omega, trivial, HN.out⟩
        case measure => simp [intOf]; omega
    · have HP : Hid (plL l x = -1) := plL_no (fun j hj => HA.out j hj (by omega))
      go_wp2
      go_ret
      exact ⟨ret_i64 HP.out.symm, rfl⟩

/-- A signature's value, its box. -/
abbrev gval (vn vw : Value) : Value := .agg #[vn, vw]

/-- A signature in memory. -/
structure SgAt (W : World) (g : Sg) (vn vw : Value) : Prop where
  ns : RowAt .string W vn g.ns
  ws : RowAt (.int .i64) W vw g.ws
  sz : ∀ x ∈ g.ns, x.size ≤ maxLen
theorem SgAt.keep {W W' : World} {g : Sg} {vn vw : Value} {n : Nat} (h : SgAt W g vn vw) (hb : Below n W W') (hn : W.heap.size ≤ n) : SgAt W' g vn vw := ⟨h.ns.keep hb hn, h.ws.keep hb hn, h.sz⟩

theorem box2_cells (w : World) (x y : Value) (ty : TypeId) : (w.alloc (.cells #[x, y] ty)).cell? ⟨w.heap.size, 0, none⟩ = some x ∧ (w.alloc (.cells #[x, y] ty)).cell? ⟨w.heap.size, 1, none⟩ = some y := by
  have h : (w.alloc (.cells #[x, y] ty)).heap[w.heap.size]? = some (.cells [x, y].toArray ty (0, 0)) := (MapKept.heap_alloc w (.cells #[x, y] ty)).1
  refine ⟨?_, ?_⟩ <;> rw [cell_of_row _ _ _ _ ty (0, 0) h] <;> rfl

set_option maxHeartbeats 1000000 in
theorem rat_row (l : List ByteArray) (x : ByteArray) (vn : Value) (a2 : Option Addr) (n2 c2 : Nat) (w : World) (hl : RowAt .string w vn l) :
    Calls Try.prog 29 #[gval vn (.slice a2 n2 c2), .string x] w fun e w' => e = .returned (.int .i64 (plL l x)) ∧ Below w.heap.size w w' := by
  obtain ⟨a, c, rfl, hc, hm⟩ := hl.slice
  have hb := below_box w (.cells #[.slice a l.length c, .slice a2 n2 c2] 25)
  obtain ⟨t0, _⟩ := box2_cells w (.slice a l.length c) (.slice a2 n2 c2) 25
  have HL : Hid (RowAt .string (w.alloc (.cells #[.slice a l.length c, .slice a2 n2 c2] 25)) (.slice a l.length c) l) := hl.keep hb (Nat.le_refl _)
  have HB : Hid (Below w.heap.size w (w.alloc (.cells #[.slice a l.length c, .slice a2 n2 c2] 25))) := hb
  clear hl hb
  go_enter Try.func29, Try.ntmps29
  go_wp2
  go_loopw [5] (fun vi wr => ∃ i : Nat, vi = .int .i64 i ∧ i ≤ l.length ∧ wr = w.alloc (.cells #[.slice a l.length c, .slice a2 n2 c2] 25) ∧ ∀ j (hj : j < l.length), j < i → l[j] ≠ x) (fun vi _ => l.length - (intOf vi).toNat)
  case atStart => exact ⟨0, rfl, Nat.zero_le _, rfl, fun j _ hj => absurd hj (by omega)⟩
  case round =>
    obtain ⟨i, rfl, hi, hwr, hall⟩ := hrel
    subst hwr
    have HA : Hid (∀ j (hj : j < l.length), j < i → l[j] ≠ x) := hall
    clear hall
    by_cases hlt : i < l.length
    · obtain ⟨b, o, rfl, hbl, hcell⟩ := HL.out.nth hlt
      by_cases e : l[i] = x
      · have HP : Hid (plL l x = i) := plL_at hlt HA.out e
        have e' : (l[i].toList == x.toList) = true := by rw [e]; simp
        clear e
        go_wp2
        go_ret
        exact ⟨ret_i64 HP.out.symm, HB.out⟩
      · have HN : Hid (∀ j (hj : j < l.length), j < i + 1 → l[j] ≠ x) := fun j hj hji => by
          by_cases ej : j = i
          · subst ej; exact e
          · exact HA.out j hj (by omega)
        have e' : (l[i].toList == x.toList) = false := by rw [beq_eq_false_iff_ne]; exact fun h => e (ba_toList_inj.1 h)
        clear e
        go_wp2
        go_roundw
        case rel => exact ⟨i + 1, by go_num, by omega, trivial, HN.out⟩
        case measure => simp [intOf]; omega
    · have HP : Hid (plL l x = -1) := plL_no (fun j hj => HA.out j hj (by omega))
      go_wp2
      go_ret
      exact ⟨ret_i64 HP.out.symm, HB.out⟩

theorem rat_any (g : Sg) (x : ByteArray) (vn vw : Value) (w : World) (hg : SgAt w g vn vw) :
    Calls Try.prog 29 #[gval vn vw, .string x] w fun e w' => e = .returned (.int .i64 (g.pl x)) ∧ Below w.heap.size w w' := by
  obtain ⟨a2, c2, rfl, _, _⟩ := hg.ws.slice
  exact rat_row g.ns x vn a2 _ c2 w hg.ns

end Go.Proofs.Ytpahgmidofacaaa
