/-
  Small; what Apply of the document gives; sizes.
-/
import Derived.Test.YtcnodgjalkcgiaaTA
import Derived.Test.YtcnodgjalkcgiaaKW
import Derived.Test.YtcnodgjalkcgiaaKZ
namespace Go.Proofs.Ytcnodgjalkcgiaa
open Go.RowKit Go.Maps

/-- Are all terms small? -/
def smallB (l : List T) : Bool := l.all (fun t => !decide (100 < wrap64 t.size))

set_option maxHeartbeats 1000000 in
theorem small_any (l : List T) (v : Value) (w : World) (hl : ArgsAt w v l) :
    Calls Try.prog 19 #[v] w fun e w' => e = .returned (.bool (smallB l)) ∧ Below w.heap.size w w' := by
  obtain ⟨a, c, rfl, hc, hm⟩ := hl.slice
  have HL : Hid (ArgsAt w (.slice a l.length c) l) := hl
  clear hl
  go_enter Try.func19, Try.ntmps19
  go_wp2
  go_loopw [3] (fun vi wr => ∃ i : Nat, vi = .int .i64 i ∧ i ≤ l.length ∧ Hid (∀ j (hj : j < l.length), j < i → wrap64 l[j].size ≤ 100) ∧ Below w.heap.size w wr) (fun vi _ => l.length - (intOf vi).toNat)
  case atStart => exact ⟨0, rfl, Nat.zero_le _, fun j _ hj => absurd hj (by omega), Below.refl _ _⟩
  case round =>
    obtain ⟨i, rfl, hi, HA, hb⟩ := hrel
    have haw := ArgsAt.keep hb (Nat.le_refl _) HL.out
    by_cases hlt : i < l.length
    · obtain ⟨b, o, s, rfl, hbl, c0, c1, c2, hs⟩ := haw.nth hlt
      have hcall := rsize_any l[i] s wr hs
      have HN : Hid (wrap64 l[i].size ≤ 100 → ∀ j (hj : j < l.length), j < i + 1 → wrap64 l[j].size ≤ 100) := fun h j hj hji => by
        by_cases ej : j = i
        · subst ej; exact h
        · exact HA.out j hj (by omega)
      have HF : Hid (100 < wrap64 l[i].size → smallB l = false) := fun h => by
        unfold smallB
        rw [List.all_eq_false]
        exact ⟨l[i], List.getElem_mem hlt, by simp [h]⟩
      obtain ⟨q, hq⟩ : ∃ q, wrap64 l[i].size = q := ⟨_, rfl⟩
      rw [hq] at hcall HN HF
      clear hq haw
      by_cases h1 : 100 < q
      · have e1 : decide (100 < q) = true := decide_eq_true h1
        have HV : Hid (smallB l = false) := HF.out h1
        clear HN HF
        go_wp2_with (first | (go_at_call 40; refine hcall.mono ?_; rintro e w' ⟨rfl, hb'⟩))
        go_ret
        exact ⟨ret_bool HV.out.symm, hb.trans (hb'.mono hb.size)⟩
      · have e1 : decide (100 < q) = false := decide_eq_false h1
        have HN2 : Hid (∀ j (hj : j < l.length), j < i + 1 → wrap64 l[j].size ≤ 100) := HN.out (by omega)
        clear HN HF
        go_wp2_with (first | (go_at_call 40; refine hcall.mono ?_; rintro e w' ⟨rfl, hb'⟩))
        go_roundw
        case rel => exact ⟨i + 1, by go_num, by omega, HN2, hb.trans (hb'.mono hb.size)⟩
        case measure => simp [intOf]; omega
    · have HV : Hid (smallB l = true) := by
        show smallB l = true
        unfold smallB
        rw [List.all_eq_true]
        intro t ht
        obtain ⟨j, hj, rfl⟩ := List.getElem_of_mem ht
        have := HA.out j hj (by omega)
        simpa using this
      go_wp2
      go_ret
      exact ⟨ret_bool HV.out.symm, hb⟩

theorem small_of {t : T} {l : List T} (h : smallB l = true) (ht : t ∈ l) (hz : t.size ≤ 1048576) : t.size ≤ 100 := by
  unfold smallB at h
  have h1 := List.all_eq_true.1 h t ht
  have h2 := size_pos t
  have h3 : ¬ 100 < wrap64 t.size := by simpa using h1
  rw [wrap_small (by omega) (by omega)] at h3
  omega

theorem app_size (σ : Int → T) (hσ : ∀ n, (σ n).size ≤ 100) (t : T) : (t.app σ).size ≤ 100 * t.size := by
  induction t using T.ind with
  | _ t ih =>
    rw [t.app_eq]
    have hp : ∀ l : List T, (∀ a ∈ l, a ∈ t.args) → ((l.map (T.app σ)).map T.size).sum ≤ 100 * (l.map T.size).sum := by
      intro l
      induction l with
      | nil => intro _; simp
      | cons a r ihl =>
        intro hl
        have h1 := ih a (hl a (by simp))
        have h2 := ihl (fun b hb => hl b (by simp [hb]))
        simp only [List.map_cons, List.sum_cons]
        omega
    split
    · have := hσ t.v
      have := size_pos t
      omega
    · rw [T.size_eq, t.size_eq]
      have := hp t.args (fun _ h => h)
      show 1 + ((t.args.map (T.app σ)).map T.size).sum ≤ _
      omega
theorem img_size {l : List Bd} (h : ∀ b ∈ l, b.2.size ≤ 100) (n : Int) : (img l n).size ≤ 100 := by
  unfold img
  cases hf : l.find? (fun b => decide (b.1 = n)) with
  | none =>
    show (var n).size ≤ 100
    rw [T.size_eq]
    simp [var, T.args]
  | some b => exact h b (List.mem_of_find?_eq_some hf)

/-- What Apply answers, told shortly. -/
theorem apply_gen (l : List Bd) (hl : isSub l = true) (x : T) (v sx : Value) (w : World) (hb : BindsAt w v l) (ha : ArgsAt w sx x.args) :
    Calls Try.prog 20 #[v, tval x sx] w fun e W' => ∃ r pa pc k, e = .returned (.tuple #[tval r (.slice pa r.args.length pc), .int .i64 k]) ∧ Hid (ArgsAt W' (.slice pa r.args.length pc) r.args ∧ Below w.heap.size w W' ∧ (k = 0 → x.rightW = 0 ∧ r = x.app (img l) ∧ r.rightW = 0)) := by
  by_cases hx : x.rightW = 0
  · refine (rapply_ok l x hl hx v sx w hb ha).mono fun e W' ⟨r, s5, he, hr, hA, hB⟩ => ?_
    obtain ⟨pa, pc, rfl, _⟩ := hA.slice
    refine ⟨r, pa, pc, _, he, hA, hB, fun hk => ?_⟩
    rw [if_pos hk] at hr
    exact ⟨hx, hr, by rw [hr]; exact hk⟩
  · refine (rapply_arg l x (.inr hx) v sx w hb ha).mono fun e W' ⟨he, hB⟩ => ?_
    exact ⟨zt, none, 0, 1, he, nilArgs W', hB, fun h => by omega⟩

/-- What the law asks of the answers. -/
theorem keeps_true {g : Sg} {l : List Bd} {x y r s : T} {j k : Int} (h1 : j = 0 → x.rightW = 0 ∧ r = x.app (img l) ∧ r.rightW = 0) (h2 : k = 0 → y.rightW = 0 ∧ s = y.app (img l) ∧ s.rightW = 0) (hj : j = 0) (hk : k = 0) (h : ccmp g x y = 1) : ccmp g r s = 1 := by
  obtain ⟨a1, a2, a3⟩ := h1 hj
  obtain ⟨b1, b2, b3⟩ := h2 hk
  obtain ⟨c1, _, _, c4⟩ := ccmp_one h
  refine ccmp_mk c1 a3 b3 ?_
  rw [a2, b2]
  exact gr_app g (img l) x y (right_shape a1) (right_shape b1) c4

end Go.Proofs.Ytcnodgjalkcgiaa
