/-
  The document's Of; terms whose blocks are told.
-/
import Derived.Test.YthinbkpjggihdaaSL
namespace Go.Proofs.Ythinbkpjggihdaa
open Go.RowKit

/-- A slice of terms in blocks of which P holds. -/
inductive ArgsP (P : Nat → Prop) (W : World) : Value → List T → Prop
  | mk (a : Option Addr) (c : Nat) (l : List T) (s : Nat → Value) (hc : l.length ≤ c) (hm : c ≤ 9223372036854775807)
      (at0 : 0 < l.length → ∃ b o, P b ∧ b < W.heap.size ∧ a = some ⟨b, o, none⟩ ∧ ∀ i (h : i < l.length), W.cell? ⟨b, o + i * 3, none⟩ = some (.int .i64 l[i].v) ∧ W.cell? ⟨b, o + i * 3 + 1, none⟩ = some (.string l[i].fn) ∧ W.cell? ⟨b, o + i * 3 + 2, none⟩ = some (s i))
      (sub : ∀ i (h : i < l.length), ArgsP P W (s i) l[i].args) : ArgsP P W (.slice a l.length c) l

theorem ArgsP.args {P : Nat → Prop} {W : World} {sl : Value} {l : List T} (h : ArgsP P W sl l) : ArgsAt W sl l := by
  induction h with
  | mk a c l s hc hm at0 sub ih =>
    refine .mk a c l s hc hm (fun h0 => ?_) ih
    obtain ⟨b, o, _, hlt, rfl, hcell⟩ := at0 h0
    exact ⟨b, o, hlt, rfl, hcell⟩

theorem ArgsP.keep {P P' : Nat → Prop} {W W' : World} {sl : Value} {l : List T} (h : ArgsP P W sl l) (hs : W.heap.size ≤ W'.heap.size) (hk : ∀ k, P k → k < W.heap.size → P' k ∧ W'.heap[k]? = W.heap[k]?) : ArgsP P' W' sl l := by
  induction h with
  | mk a c l s hc hm at0 sub ih =>
    refine .mk a c l s hc hm (fun h0 => ?_) ih
    obtain ⟨b, o, hn, hlt, rfl, hcell⟩ := at0 h0
    obtain ⟨hp, e⟩ := hk b hn hlt
    refine ⟨b, o, hp, Nat.lt_of_lt_of_le hlt hs, rfl, fun i hi => ?_⟩
    obtain ⟨h1, h2, h3⟩ := hcell i hi
    exact ⟨(World.cell?_of_block (a := ⟨b, _, none⟩) e).trans h1, (World.cell?_of_block (a := ⟨b, _, none⟩) e).trans h2, (World.cell?_of_block (a := ⟨b, _, none⟩) e).trans h3⟩

theorem ArgsAt.belowP {W : World} {sl : Value} {l : List T} (h : ArgsAt W sl l) : ArgsP (fun b => b < W.heap.size) W sl l := by
  induction h with
  | mk a c l s hc hm at0 sub ih =>
    refine .mk a c l s hc hm (fun h0 => ?_) ih
    obtain ⟨b, o, hlt, rfl, hcell⟩ := at0 h0
    exact ⟨b, o, hlt, hlt, rfl, hcell⟩

theorem ArgsP.nil (P : Nat → Prop) (W : World) : ArgsP P W (.slice none 0 0) [] :=
  .mk none 0 [] (fun _ => .slice none 0 0) (Nat.le_refl _) (by decide) (fun h => absurd h (by simp)) (fun i h => absurd h (by simp))

theorem ArgsP.slice {P : Nat → Prop} {W : World} {sl : Value} {l : List T} (h : ArgsP P W sl l) : ∃ a c, sl = .slice a l.length c := by
  cases h with
  | mk a c l s hc hm at0 sub => exact ⟨a, c, rfl⟩

theorem img_first {l : List Bd} {n : Int} {i : Nat} (hi : i < l.length) (h : ∀ j (hj : j < l.length), j < i → l[j].1 ≠ n) (e : l[i].1 = n) : img l n = l[i].2 := by
  have h3 : l = l.take i ++ l[i] :: l.drop (i + 1) := by rw [List.getElem_cons_drop, List.take_append_drop]
  have h4 : (l.take i).find? (fun b => decide (b.1 = n)) = none := List.find?_eq_none.2 (by
    intro b hb
    obtain ⟨j, hj, rfl⟩ := List.mem_iff_getElem.1 hb
    have hj' : j < i ∧ j < l.length := by simp at hj; omega
    rw [List.getElem_take]
    simpa using h j hj'.2 hj'.1)
  have h5 := congrArg (List.find? (fun b => decide (b.1 = n))) h3
  rw [List.find?_append, h4, Option.none_or, List.find?_cons_of_pos (by simpa using e)] at h5
  unfold img
  rw [h5]
  rfl

set_option maxRecDepth 100000 in
set_option maxHeartbeats 2000000 in
theorem of_any (W0 : World) (l : List Bd) (n : Int) (v : Value) (hl : BindsAt W0 v l) (w : World) (hw : Below W0.heap.size W0 w) :
    Calls Try.prog 61 #[v, .int .i64 n] w fun e w' => ∃ sl, e = .returned (tval (img l n) sl) ∧ ArgsAt W0 sl (img l n).args ∧ Below w.heap.size w w' := by
  have hlen := hl.len
  obtain ⟨a, c, rfl⟩ := hl.slice
  have HL : Hid (BindsAt W0 (.slice a l.length c) l) := hl
  have hz : (w.alloc (.cells #[.int .i64 0, .string ⟨#[]⟩, .slice none 0 0] 25)).heap[w.heap.size]? = some (.cells #[.int .i64 0, .string ⟨#[]⟩, .slice none 0 0] 25 (0, 0)) := (MapKept.heap_alloc w _).1
  clear hl
  go_enter Try.func61, Try.ntmps61
  go_wp2
  go_loopw [5] (fun vi wr => ∃ i : Nat, vi = .int .i64 i ∧ i ≤ l.length ∧ (∀ j (hj : j < l.length), j < i → l[j].1 ≠ n) ∧ wr = w.alloc (.cells #[.int .i64 0, .string ⟨#[]⟩, .slice none 0 0] 25)) (fun vi _ => l.length - (intOf vi).toNat)
  case atStart => exact ⟨0, rfl, Nat.zero_le _, fun j _ h => absurd h (by omega), rfl⟩
  case round =>
    obtain ⟨i, rfl, hi, hno, hwr⟩ := hrel
    have hb0 : Below w.heap.size w wr := by rw [hwr]; exact below_box w _
    have hzr : wr.heap[w.heap.size]? = some (.cells #[.int .i64 0, .string ⟨#[]⟩, .slice none 0 0] 25 (0, 0)) := by rw [hwr]; exact hz
    obtain ⟨⟨z0, z1, z2⟩, y0, y1, y2⟩ := box_facts hzr
    by_cases hlt : i < l.length
    · obtain ⟨b, o, s, e', hB0⟩ := HL.out.nth hlt
      cases e'
      have hB := hB0.keep (hw.trans (hb0.mono hw.size))
      have HI : Hid (l[i].1 = n → img l n = l[i].2) := img_first hlt hno
      have HN : Hid (l[i].1 ≠ n → ∀ j (hj : j < l.length), j < i + 1 → l[j].1 ≠ n) := fun hne j hj hji => by
        by_cases e : j = i
        · subst e; exact hne
        · exact hno j hj (by omega)
      obtain ⟨x, hx⟩ : ∃ x, l[i] = x := ⟨_, rfl⟩
      rw [hx] at hB hB0 HI HN
      obtain ⟨sa, sc, rfl, _, _⟩ := hB.sub.slice
      obtain ⟨g0, g1, g2, g3⟩ : wr.cell? ⟨b, o + i * 4, none⟩ = some (.int .i64 x.1) ∧ wr.cell? ⟨b, o + i * 4 + 1, none⟩ = some (.int .i64 x.2.v) ∧ wr.cell? ⟨b, o + i * 4 + 2, none⟩ = some (.string x.2.fn) ∧ wr.cell? ⟨b, o + i * 4 + 3, none⟩ = some (.slice sa x.2.args.length sc) := ⟨hB.c0, hB.c1, hB.c2, hB.c3⟩
      have HA : Hid (ArgsAt W0 (.slice sa x.2.args.length sc) x.2.args ∧ Below w.heap.size w wr ∧ wr = w.alloc (.cells #[.int .i64 0, .string ⟨#[]⟩, .slice none 0 0] 25)) := ⟨hB0.sub, hb0, hwr⟩
      clear hB hB0 hx hb0 hno hwr hzr hz
      by_cases he : x.1 = n
      · have hd : (x.1 == n) = true := decide_eq_true he
        have HE : Hid (img l n = x.2) := HI.out he
        clear he HI HN
        go_wp2
        refine bodyPost_ret (v := tval x.2 (.slice sa x.2.args.length sc)) (by simp [results, Try.results61, go_sem, *]) rfl ⟨_, by rw [HE], by rw [HE]; exact HA.out.1, ?_⟩
        exact set3_below HA.out.2.1 _ 0 _ _ _ (Nat.le_refl _)
      · have hd : (x.1 == n) = false := decide_eq_false he
        have HE : Hid (∀ j (hj : j < l.length), j < i + 1 → l[j].1 ≠ n) := HN.out he
        clear he HI HN
        go_wp2
        go_roundw
        case rel => exact ⟨i + 1, by go_num, by omega, HE, HA.out.2.2⟩
        case measure => simp [intOf]; omega
    · have HE : Hid (img l n = var n) := img_no fun k hk => hno k hk (by omega)
      have HB : Hid (Below w.heap.size w wr) := hb0
      clear hno hwr hzr hz hb0
      go_wp2
      refine bodyPost_ret (v := tval (var n) (.slice none 0 0)) (by simp [results, Try.results61, go_sem, *, var, T.v, T.fn]) rfl ⟨_, by rw [HE], by rw [HE]; exact (ArgsFr.nil 0 _).args, ?_⟩
      exact set3_below HB.out _ 0 _ _ _ (Nat.le_refl _)

end Go.Proofs.Ythinbkpjggihdaa
