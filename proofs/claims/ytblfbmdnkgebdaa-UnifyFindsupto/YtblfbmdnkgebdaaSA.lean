/-
  Binds in memory; subst.isVar and subst.Right.
-/
import Derived.Test.YtblfbmdnkgebdaaL
import Derived.Test.YtblfbmdnkgebdaaD
namespace Go.Proofs.Ytblfbmdnkgebdaa
open Go.RowKit

/-- A bind: a variable's number, and what stands for it. -/
abbrev Bd := Int × T
abbrev bval (b : Bd) (sl : Value) : Value := .agg #[.int .i64 b.1, .int .i64 b.2.v, .string b.2.fn, sl]
abbrev bbox (b : Bd) (sl : Value) : Obj := .cells #[.int .i64 b.1, .int .i64 b.2.v, .string b.2.fn, sl] 35

/-- What is read of one bind. -/
structure BindAt (W : World) (b o : Nat) (x : Bd) (s : Value) : Prop where
  lt : b < W.heap.size
  c0 : W.cell? ⟨b, o, none⟩ = some (.int .i64 x.1)
  c1 : W.cell? ⟨b, o + 1, none⟩ = some (.int .i64 x.2.v)
  c2 : W.cell? ⟨b, o + 2, none⟩ = some (.string x.2.fn)
  c3 : W.cell? ⟨b, o + 3, none⟩ = some s
  sub : ArgsAt W s x.2.args

theorem BindAt.keep {W W' : World} {b o : Nat} {x : Bd} {s : Value} (h : BindAt W b o x s) (hb : Below W.heap.size W W') : BindAt W' b o x s :=
  ⟨Nat.lt_of_lt_of_le h.lt hb.size, kc hb h.lt h.c0, kc hb h.lt h.c1, kc hb h.lt h.c2, kc hb h.lt h.c3, ArgsAt.keep hb (Nat.le_refl _) h.sub⟩

/-- A slice of binds, as it lies in memory. -/
def BindsAt (W : World) (v : Value) (l : List Bd) : Prop :=
  ∃ a c, v = .slice a l.length c ∧ l.length ≤ c ∧ c ≤ 9223372036854775807 ∧ (0 < l.length → ∃ b o, a = some ⟨b, o, none⟩ ∧ ∀ i (h : i < l.length), ∃ s, BindAt W b (o + i * 4) l[i] s)

theorem BindsAt.keep {W W' : World} {v : Value} {l : List Bd} (h : BindsAt W v l) (hb : Below W.heap.size W W') : BindsAt W' v l := by
  obtain ⟨a, c, rfl, h1, h2, h3⟩ := h
  refine ⟨a, c, rfl, h1, h2, fun h0 => ?_⟩
  obtain ⟨b, o, rfl, h4⟩ := h3 h0
  exact ⟨b, o, rfl, fun i hi => by obtain ⟨s, hs⟩ := h4 i hi; exact ⟨s, hs.keep hb⟩⟩

theorem BindsAt.slice {W : World} {v : Value} {l : List Bd} (h : BindsAt W v l) : ∃ a c, v = .slice a l.length c := by
  obtain ⟨a, c, rfl, _⟩ := h
  exact ⟨a, c, rfl⟩

theorem BindsAt.nth {W : World} {a : Option Addr} {c n : Nat} {l : List Bd} (h : BindsAt W (.slice a n c) l) {i : Nat} (hi : i < l.length) : ∃ b o s, a = some ⟨b, o, none⟩ ∧ BindAt W b (o + i * 4) l[i] s := by
  obtain ⟨a', c', e, h1, h2, h3⟩ := h
  cases e
  obtain ⟨b, o, rfl, h4⟩ := h3 (by omega)
  obtain ⟨s, hs⟩ := h4 i hi
  exact ⟨b, o, s, rfl, hs⟩

theorem BindsAt.len {W : World} {v : Value} {l : List Bd} (h : BindsAt W v l) : l.length ≤ 9223372036854775807 := by
  obtain ⟨a, c, rfl, h1, h2, _⟩ := h
  omega

/-- Is the bind the variable itself? -/
def own1 (x : Bd) : Bool := decide (x.2.fn.size = 0) && decide (x.2.v = x.1)
/-- May the bind stand behind one of that number? -/
def okb (last : Int) (x : Bd) : Bool := decide (last < x.1) && decide (x.1 < 1000000) && !own1 x && decide (x.2.rightW = 0)
/-- The number ahead of place j. -/
def prv (l : List Bd) : Nat → Int
  | 0 => -1
  | k + 1 => (l[k]?.map (·.1)).getD 0
/-- Is it a substitution? -/
def IsSub (l : List Bd) : Prop := l.length ≤ 4000 ∧ ∀ j (h : j < l.length), okb (prv l j) l[j] = true
open Classical in
noncomputable def isSub (l : List Bd) : Bool := decide (IsSub l)
theorem isSub_iff {l : List Bd} : isSub l = true ↔ IsSub l := by simp [isSub]
theorem isSub_false {l : List Bd} : isSub l = false ↔ ¬ IsSub l := by simp [isSub]
/-- What Right answers. -/
noncomputable def subW (l : List Bd) : Int := if isSub l then 0 else 1
theorem subW_t {l : List Bd} (h : isSub l = true) : subW l = 0 := by unfold subW; rw [h]; rfl
theorem subW_f {l : List Bd} (h : isSub l = false) : subW l = 1 := by unfold subW; rw [h]; rfl
theorem prv_succ (l : List Bd) (j : Nat) (h : j < l.length) : prv l (j + 1) = l[j].1 := by simp [prv, h]

theorem okb_false {last : Int} {x : Bd} (h : x.1 ≤ last ∨ 1000000 ≤ x.1 ∨ own1 x = true ∨ x.2.rightW ≠ 0) : okb last x = false := by
  unfold okb
  rcases h with h | h | h | h
  · rw [decide_eq_false (by omega : ¬ last < x.1)]; rfl
  · rw [decide_eq_false (by omega : ¬ x.1 < 1000000)]; simp
  · rw [h]; simp
  · rw [decide_eq_false h]; simp

theorem okb_true {last : Int} {x : Bd} (h1 : last < x.1) (h2 : x.1 < 1000000) (h3 : own1 x = false) (h4 : x.2.rightW = 0) : okb last x = true := by
  unfold okb
  simp [h1, h2, h3, h4]

theorem not_sub {l : List Bd} {j : Nat} (h : j < l.length) (hb : okb (prv l j) l[j] = false) : isSub l = false := by
  refine isSub_false.2 fun hs => ?_
  rw [hs.2 j h] at hb
  cases hb

set_option maxHeartbeats 400000 in
theorem sisVar_any (t : T) (n : Int) (sl : Value) (w : World) (hs : ∃ a n c, sl = .slice a n c) :
    Calls Try.prog 47 #[tval t sl, .int .i64 n] w fun e w' => e = .returned (.bool (decide (t.fn.size = 0) && decide (t.v = n))) ∧ w' = w.alloc (tbox t sl) := by
  obtain ⟨a, m, c, rfl⟩ := hs
  obtain ⟨t0, t1, t2⟩ := tbox_cells w t (.slice a m c)
  by_cases h0 : t.fn.size = 0
  · have hdd : t.fn.toList.isEmpty = true := by rw [ba_isEmpty]; simp [h0]
    have hd : Hid (decide (t.fn.size = 0) = true) := decide_eq_true h0
    clear h0
    go_enter Try.func47, Try.ntmps47
    go_wp2
    go_ret
    exact ⟨ret_bool (by rw [hd]; rfl), rfl⟩
  · have hdd : t.fn.toList.isEmpty = false := by rw [ba_isEmpty]; exact decide_eq_false h0
    have hd : Hid (decide (t.fn.size = 0) = false) := decide_eq_false h0
    clear h0
    go_enter Try.func47, Try.ntmps47
    go_wp2
    go_ret
    exact ⟨ret_bool (by rw [hd]; rfl), rfl⟩

theorem bbox_cells (w : World) (x : Bd) (s : Value) : (w.alloc (bbox x s)).cell? ⟨w.heap.size, 0, none⟩ = some (.int .i64 x.1) ∧ (w.alloc (bbox x s)).cell? ⟨w.heap.size, 1, none⟩ = some (.int .i64 x.2.v) ∧ (w.alloc (bbox x s)).cell? ⟨w.heap.size, 2, none⟩ = some (.string x.2.fn) ∧ (w.alloc (bbox x s)).cell? ⟨w.heap.size, 3, none⟩ = some s := by
  refine ⟨?_, ?_, ?_, ?_⟩ <;> rw [World.cell?_alloc_new] <;> rfl

set_option maxRecDepth 100000 in
set_option maxHeartbeats 4000000 in
/-- subst.Right. -/
theorem sright_any (l : List Bd) (v : Value) (w : World) (hl : BindsAt w v l) (hS : ∀ x ∈ l, Short x.2) :
    Calls Try.prog 19 #[v] w fun e w' => e = .returned (.int .i64 (subW l)) ∧ Below w.heap.size w w' := by
  obtain ⟨a, c, rfl⟩ := hl.slice
  have hlen := hl.len
  have HL : Hid (BindsAt w (.slice a l.length c) l) := hl
  clear hl
  by_cases hbig : 4000 < l.length
  · have Hf : Hid (subW l = 1) := subW_f <| isSub_false.2 fun h => by have := h.1; omega
    go_enter Try.func19, Try.ntmps19
    go_wp2
    go_ret
    exact ⟨ret_i64 Hf.symm, Below.refl _ _⟩
  · go_enter Try.func19, Try.ntmps19
    go_wp2
    go_loopw [3, 11] (fun vl vi wr => ∃ i : Nat, vi = .int .i64 i ∧ i ≤ l.length ∧ vl = .int .i64 (prv l i) ∧ (∀ j (h : j < l.length), j < i → okb (prv l j) l[j] = true) ∧ Below w.heap.size w wr) (fun _ vi _ => l.length - (intOf vi).toNat)
    case atStart => exact ⟨0, rfl, Nat.zero_le _, rfl, fun j _ h => absurd h (by omega), Below.refl _ _⟩
    case round =>
      obtain ⟨i, rfl, hi, rfl, hok, hb⟩ := hrel
      by_cases hlt : i < l.length
      · obtain ⟨b, o, s, rfl, hB0⟩ := HL.out.nth hlt
        have hB := hB0.keep hb
        obtain ⟨k0, k1, k2, k3⟩ := bbox_cells wr l[i] s
        obtain ⟨sa, sc, hsl, _, _⟩ := hB.sub.slice
        have hb1 := below_box wr (bbox l[i] s)
        have hshort := hS l[i] (List.getElem_mem hlt)
        have hv := sisVar_any l[i].2 l[i].1 s (wr.alloc (bbox l[i] s)) ⟨_, _, _, hsl⟩
        have hr : ∀ W, Below (wr.alloc (bbox l[i] s)).heap.size (wr.alloc (bbox l[i] s)) W → Calls Try.prog 24 #[tval l[i].2 s] W fun e w' => e = .returned (.int .i64 l[i].2.rightW) ∧ Below W.heap.size W w' := fun W hW => tright_any l[i].2 s W (ArgsAt.keep hW (Nat.le_refl _) (ArgsAt.keep hb1 (Nat.le_refl _) hB.sub)) hshort
        have hb2 := below_box (wr.alloc (bbox l[i] s)) (tbox l[i].2 s)
        have hr2 := hr _ hb2
        have hkk : ∀ n : Nat, (wr.alloc (bbox l[i] s)).cell? ⟨wr.heap.size, n, none⟩ = ((wr.alloc (bbox l[i] s)).alloc (tbox l[i].2 s)).cell? ⟨wr.heap.size, n, none⟩ := fun n => (hb2.cell (p := ⟨wr.heap.size, n, none⟩) (by simp)).symm
        have m0 := (hkk 0).symm.trans k0
        have m1 := (hkk 1).symm.trans k1
        have m2 := (hkk 2).symm.trans k2
        have m3 := (hkk 3).symm.trans k3
        have HB : Hid (Below w.heap.size w ((wr.alloc (bbox l[i] s)).alloc (tbox l[i].2 s))) := hb.trans ((hb1.mono hb.size).trans (hb2.mono (by have := hb.size; simp; omega)))
        have HB1 : Hid (Below w.heap.size w (wr.alloc (bbox l[i] s))) := hb.trans (hb1.mono hb.size)
        have hn : Hid (okb (prv l i) l[i] = false → isSub l = false) := not_sub hlt
        have hps : Hid (prv l (i + 1) = l[i].1) := prv_succ l i hlt
        have HO : Hid (∀ j (h : j < l.length), j < i → okb (prv l j) l[j] = true) := hok
        obtain ⟨g0, g1, g2, g3⟩ : wr.cell? ⟨b, o + i * 4, none⟩ = some (.int .i64 l[i].1) ∧ wr.cell? ⟨b, o + i * 4 + 1, none⟩ = some (.int .i64 l[i].2.v) ∧ wr.cell? ⟨b, o + i * 4 + 2, none⟩ = some (.string l[i].2.fn) ∧ wr.cell? ⟨b, o + i * 4 + 3, none⟩ = some s := ⟨hB.c0, hB.c1, hB.c2, hB.c3⟩
        subst hsl
        clear hB hB0 hr hkk hb hb1 hb2 hok
        by_cases h1 : l[i].1 ≤ prv l i
        · have Hf : Hid (subW l = 1) := subW_f <| hn.out (okb_false (.inl h1))
          go_wp2
          go_ret
          exact ⟨ret_i64 Hf.symm, HB1⟩
        · by_cases h2 : 1000000 ≤ l[i].1
          · have Hf : Hid (subW l = 1) := subW_f <| hn.out (okb_false (.inr (.inl h2)))
            go_wp2
            go_ret
            exact ⟨ret_i64 Hf.symm, HB1⟩
          · have ho : own1 l[i] = (decide (l[i].2.fn.size = 0) && decide (l[i].2.v = l[i].1)) := rfl
            rw [← ho] at hv
            cases h3 : own1 l[i]
            · by_cases h4 : l[i].2.rightW = 0
              · have Hk : Hid (okb (prv l i) l[i] = true) := okb_true (by omega) (by omega) h3 h4
                rw [h3] at hv
                rw [h4] at hr2
                clear h3 h4 ho
                go_wp2_with (first
                  | (go_at_call 47; refine hv.mono ?_; rintro e w2 ⟨rfl, rfl⟩)
                  | (go_at_call 24; refine hr2.mono ?_; rintro e w3 ⟨rfl, hb3⟩; have q0 := kc hb3 (by simp; omega) m0))
                go_roundw
                case rel => exact ⟨i + 1, by go_num, by omega, by rw [hps], fun j h hj => by
                  by_cases e : j = i
                  · subst e; exact Hk
                  · exact HO j h (by omega), HB.out.trans (hb3.mono (by have := HB.out.size; omega))⟩
                case measure => simp [intOf]; omega
              · have Hf : Hid (subW l = 1) := subW_f <| hn.out (okb_false (.inr (.inr (.inr h4))))
                rw [h3] at hv
                have hd4 : decide (l[i].2.rightW = 0) = false := decide_eq_false h4
                obtain ⟨rr, hrr⟩ : ∃ rr, l[i].2.rightW = rr := ⟨_, rfl⟩
                rw [hrr] at hr2 hd4 h4
                clear h3 ho hrr
                go_wp2_with (first
                  | (go_at_call 47; refine hv.mono ?_; rintro e w2 ⟨rfl, rfl⟩)
                  | (go_at_call 24; refine hr2.mono ?_; rintro e w3 ⟨rfl, hb3⟩))
                go_ret
                exact ⟨ret_i64 Hf.symm, HB.out.trans (hb3.mono (by have := HB.out.size; omega))⟩
            · have Hf : Hid (subW l = 1) := subW_f <| hn.out (okb_false (.inr (.inr (.inl h3))))
              rw [h3] at hv
              clear h3 ho
              go_wp2_with (first
                | (go_at_call 47; refine hv.mono ?_; rintro e w2 ⟨rfl, rfl⟩))
              go_ret
              exact ⟨ret_i64 Hf.symm, HB.out⟩
      · have Hf : Hid (subW l = 0) := subW_t <| isSub_iff.2 ⟨by omega, fun j h => hok j h (by omega)⟩
        go_wp2
        go_ret
        exact ⟨ret_i64 Hf.symm, hb⟩

end Go.Proofs.Ytblfbmdnkgebdaa
