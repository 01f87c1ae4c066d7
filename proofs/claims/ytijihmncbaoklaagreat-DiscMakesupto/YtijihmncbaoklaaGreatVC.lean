/-
  Hits in a row, and their sort.
-/
import Derived.Test.YtijihmncbaoklaaGreatVA
import Derived.Test.YtijihmncbaoklaaGreatShelfB
import Derived.Shelf.SlSortCmp.InsertionK
namespace Go.Proofs.YtijihmncbaoklaaGreat
open Go.RowKit Go.Maps Go.Sort Go.Lib

/-- A hit: its number, and where its binds lie. -/
abbrev HE := Int × Option Addr × Nat × Nat
def HE.val (x : HE) : Value := .slice x.2.1 x.2.2.1 x.2.2.2
/-- Its two cells. -/
def encH (x : HE) : List Value := [.int .i64 x.1, .slice x.2.1 x.2.2.1 x.2.2.2]
def flH (l : List HE) : List Value := l.flatMap encH
theorem flH_len : ∀ l : List HE, (flH l).length = l.length * 2
  | [] => rfl
  | x :: r => by
    have := flH_len r
    have e : flH (x :: r) = encH x ++ flH r := rfl
    rw [e, List.length_append, this]
    simp [encH]
    omega
theorem flH_snoc (l : List HE) (x : HE) : flH (l ++ [x]) = flH l ++ encH x := by simp [flH]
theorem flH_get : ∀ (l : List HE) (i : Nat) (h : i < l.length), (flH l)[i * 2]? = some (.int .i64 l[i].1) ∧ (flH l)[i * 2 + 1]? = some (.slice l[i].2.1 l[i].2.2.1 l[i].2.2.2)
  | [], i, h => by simp at h
  | x :: r, 0, _ => ⟨rfl, rfl⟩
  | x :: r, i + 1, h => by
    have := flH_get r i (by simpa using h)
    have e : flH (x :: r) = .int .i64 x.1 :: .slice x.2.1 x.2.2.1 x.2.2.2 :: flH r := rfl
    rw [e, show (i + 1) * 2 = i * 2 + 2 by omega]
    simpa using this

section
variable [Inhabited HE]
theorem flatK_encH (d : Array HE) : flatK encH 2 d = (flH d.toList).toArray := by
  refine ext_get! (by simp [flH_len]) fun t ht => ?_
  have ht' : t < d.size * 2 := by simpa using ht
  rw [get_flatK encH 2 d t ht']
  have hi : t / 2 < d.size := by omega
  obtain ⟨f0, f1⟩ := flH_get d.toList (t / 2) (by simpa using hi)
  have hx : d.toList[t / 2]'(by simpa using hi) = d[t / 2]! := by simp [hi]
  rw [hx] at f0 f1
  obtain ⟨x, hd⟩ : ∃ x, d[t / 2]! = x := ⟨_, rfl⟩
  rw [hd] at f0 f1 ⊢
  have hg : ∀ v, (flH d.toList)[t]? = some v → (flH d.toList).toArray[t]! = v := fun v h => by simp [Array.getElem!_eq_getD, Array.getD_eq_getD_getElem?, h]
  have hr : t = t / 2 * 2 ∧ t % 2 = 0 ∨ t = t / 2 * 2 + 1 ∧ t % 2 = 1 := by omega
  rcases hr with ⟨h1, h2⟩ | ⟨h1, h2⟩
  · rw [← h1] at f0; rw [hg _ f0, h2]; rfl
  · rw [← h1] at f1; rw [hg _ f1, h2]; rfl

theorem rowH_holds {W : World} {base g cap n : Nat} {d : Array HE} (h : W.ownsRow base 57 2 (.slice (some ⟨g, 0, none⟩) n cap) n (flH d.toList)) : HoldsK encH 2 W g 0 d ∧ g < W.heap.size := by
  have hc := h.cells rfl
  rcases h.2 with ⟨e, _⟩ | ⟨g', cap', cur, e, hb, hg, hn, hm, hsz, ht⟩
  · cases e
  · cases e
    refine ⟨fun j hj => ?_, (Array.getElem?_eq_some_iff.1 hg).1⟩
    rw [flatK_encH] at hj ⊢
    have hj' : j < (flH d.toList).length := by simpa using hj
    have h1 := hc j _ (List.getElem?_eq_getElem hj')
    have ea : (⟨g, 0, none⟩ : Addr).add j = ⟨g, j, none⟩ := by unfold Addr.add; split <;> simp_all
    rw [ea] at h1
    rw [Nat.zero_add]
    refine ⟨?_, by simp [World.frozen?, hg]⟩
    rw [h1]
    simp [hj']

theorem sortH_row {W : World} {base g cap n : Nat} {d d' : Array HE} (h : W.ownsRow base 57 2 (.slice (some ⟨g, 0, none⟩) n cap) n (flH d.toList)) (hs : d'.size = d.size) (m : Nat) (os : Array Obj) :
    (sortWorldK encH 2 W g 0 m d' os).ownsRow base 57 2 (.slice (some ⟨g, 0, none⟩) n cap) n (flH d'.toList) ∧ W.grownBy (sortWorldK encH 2 W g 0 m d' os) (some g) := by
  have hlen : (flH d.toList).length = n * 2 := h.1
  have hlen' : (flH d'.toList).length = n * 2 := by rw [flH_len] at hlen ⊢; simp at hlen ⊢; omega
  rcases h.2 with ⟨e, _⟩ | ⟨g', cap', cur, e, hb, hg, hn, hm, hsz, ht⟩
  · cases e
  · cases e
    have hlt : g < W.heap.size := (Array.getElem?_eq_some_iff.1 hg).1
    have hsz2 : (putRowK encH 2 (Sort.ahead W m) g 0 d').heap.size = W.heap.size := by unfold putRowK putRow mapBlock; simp [Sort.ahead]
    have hk : ∀ k, k < W.heap.size → (sortWorldK encH 2 W g 0 m d' os).heap[k]? = (putRowK encH 2 (Sort.ahead W m) g 0 d').heap[k]? := fun k hk => by
      unfold sortWorldK grow
      exact Array.getElem?_append_left (by rw [hsz2]; exact hk)
    have ho : ∀ k, k < W.heap.size → k ≠ g → (sortWorldK encH 2 W g 0 m d' os).heap[k]? = W.heap[k]? := fun k h1 h2 => by
      rw [hk k h1]
      unfold putRowK putRow mapBlock
      simp only [Array.getElem?_modify]
      rw [if_neg (Ne.symm h2)]
      rfl
    have hgg : (sortWorldK encH 2 W g 0 m d' os).heap[g]? = some (.cells (putCells id 0 (flatK encH 2 d') cur) 57 (0, 0)) := by
      rw [hk g hlt]
      unfold putRowK putRow mapBlock
      simp only [Array.getElem?_modify, if_true]
      have : (Sort.ahead W m).heap[g]? = W.heap[g]? := rfl
      rw [this, hg]
      rfl
    refine ⟨⟨hlen', .inr ⟨g, cap, _, rfl, hb, hgg, hn, hm, by unfold putCells; simp [hsz], ?_⟩⟩, ⟨rfl, rfl, rfl, ?_, fun k h1 h2 => ho k h1 (fun e => h2 (by rw [e]))⟩⟩
    · have hn4 : n * 2 ≤ cur.size := by rw [hsz]; omega
      refine List.ext_getElem? fun k => ?_
      by_cases hk4 : k < n * 2
      · rw [List.getElem?_take, if_pos hk4, flatK_encH]
        unfold putCells
        have hz : k < 0 + (flH d'.toList).length := by omega
        simp only [Array.getElem?_toList, Array.getElem?_mapIdx, List.size_toArray, Nat.zero_le, true_and, hz, if_true, Nat.sub_zero]
        rw [Array.getElem?_eq_getElem (by omega), Option.map_some, List.getElem?_eq_getElem (by omega)]
        simp [show k < (flH d'.toList).length by omega]
      · rw [List.getElem?_eq_none (by simp; omega), List.getElem?_eq_none (by omega)]
    · unfold sortWorldK grow
      show W.heap.size ≤ ((putRowK encH 2 (Sort.ahead W m) g 0 d').heap ++ os).size
      rw [Array.size_append, hsz2]
      omega
end

/-- The order of two hits. -/
def cmpH (x y : HE) : Int := Lib.compareInt x.1 y.1

theorem ltH (x y : HE) : ltOf cmpH x y = decide (x.1 < y.1) := by
  unfold ltOf cmpH Lib.compareInt
  by_cases h1 : x.1 < y.1
  · simp [h1]
  · by_cases h2 : y.1 < x.1 <;> simp [h1, h2]

theorem swoH : SWO (ltOf cmpH) where
  irrefl x := by rw [ltH]; simp
  trans x y z h1 h2 := by rw [ltH] at *; simp at *; omega
  ntrans x y z h1 h2 := by rw [ltH] at *; simp at *; omega

set_option maxHeartbeats 400000 in
theorem nan_any (x : Int) (w : World) : Calls Tryz.prog 65 #[.int .i64 x] w fun e w' => e = .returned (.bool false) ∧ w' = w := by
  go_enter Tryz.func65, Tryz.ntmps65
  go_wp2
  go_ret
  exact ⟨ret_bool (by simp), rfl⟩

set_option maxHeartbeats 400000 in
theorem cmpInt_any (x y : Int) (w : World) :
    Calls Tryz.prog 39 #[.int .i64 x, .int .i64 y] w fun e w' => e = .returned (.int .i64 (Lib.compareInt x y)) ∧ w' = w := by
  go_enter Tryz.func39, Tryz.ntmps39
  go_wp2_with (go_at_call 65; refine (nan_any _ _).mono ?_; rintro e w' ⟨rfl, rfl⟩)
  all_goals go_ret
  all_goals refine ⟨ret_i64 ?_, rfl⟩
  all_goals (unfold Lib.compareInt; split <;> (try split) <;> omega)

set_option maxHeartbeats 1000000 in
theorem hcmp_grow (x y : HE) (W : World) : Calls Tryz.prog 38 #[.agg (encH x).toArray, .agg (encH y).toArray] W fun e w' => e = .returned (.int .i64 (cmpH x y)) ∧ ∃ q os', w' = grow (W.drewN q) os' := by
  obtain ⟨x, xa, xn, xc⟩ := x
  obtain ⟨y, ya, yn, yc⟩ := y
  have z1 : ((W.alloc (.cells #[.int .i64 x, .slice xa xn xc] 57)).alloc (.cells #[.int .i64 y, .slice ya yn yc] 57)).heap[W.heap.size]? = some (.cells #[.int .i64 x, .slice xa xn xc] 57 (0, 0)) := by
    rw [Below.heap_alloc _ _ _ (by simp)]
    exact (MapKept.heap_alloc _ _).1
  have z2 : ((W.alloc (.cells #[.int .i64 x, .slice xa xn xc] 57)).alloc (.cells #[.int .i64 y, .slice ya yn yc] 57)).heap[W.heap.size + 1]? = some (.cells #[.int .i64 y, .slice ya yn yc] 57 (0, 0)) := by
    have := (MapKept.heap_alloc (W.alloc (.cells #[.int .i64 x, .slice xa xn xc] 57)) (.cells #[.int .i64 y, .slice ya yn yc] 57)).1
    rwa [World.size_alloc] at this
  have c1 := cell_store (vs := [_, _]) (i := 0) z1 rfl
  have c2 := cell_store (vs := [_, _]) (i := 0) z2 rfl
  clear z1 z2
  have hc : Lib.compareInt x y = cmpH (x, xa, xn, xc) (y, ya, yn, yc) := rfl
  obtain ⟨q, hq⟩ : ∃ q, cmpH (x, xa, xn, xc) (y, ya, yn, yc) = q := ⟨_, rfl⟩
  rw [hq] at hc ⊢
  show Calls Tryz.prog 38 #[.agg #[.int .i64 x, .slice xa xn xc], .agg #[.int .i64 y, .slice ya yn yc]] W _
  go_enter Tryz.func38, Tryz.ntmps38
  go_wp2_with (go_at_call 39; refine (cmpInt_any _ _ _).mono ?_; rintro e w' ⟨rfl, rfl⟩)
  go_ret
  exact ⟨rfl, 0, _, by rw [alloc_eq_grow, alloc_eq_grow, grow_grow]; rfl⟩

theorem cmpLaysH [Inhabited HE] (blk off size : Nat) (w : World) : CmpLays Tryz.prog 38 #[] encH 2 cmpH blk off size w := fun _ _ _ _ x y => hcmp_grow x y _

theorem eg24 : ∀ args w, (callFunc 38 args).run Tryz.prog w = .ok (.enter 38 args) w := enters_of Tryz.func38 (by kernel_rfl) rfl

/-- None behind has a smaller number. -/
def SortedH (es : List HE) : Prop := ∀ i j (hj : j < es.length) (hij : i < j), es[i].1 ≤ es[j].1

theorem encH_one (x : HE) : ∀ v ∈ encH x, v.oneCell' = true := by
  intro v hv
  unfold encH at hv
  simp only [List.mem_cons, List.not_mem_nil, or_false] at hv
  rcases hv with rfl | rfl <;> rfl

/-- What the sort leaves. -/
def SrtP (es : List HE) (v : Value) (base : Nat) (W : World) (e : Ending) (W' : World) : Prop :=
  e = .returned (.tuple #[]) ∧ ∃ es' : List HE, es'.Perm es ∧ SortedH es' ∧ W'.ownsRow base 57 2 v es.length (flH es') ∧ W.grownBy W' v.ownBlock

theorem sortH_own (es : List HE) (v : Value) (base : Nat) (W : World) (h : W.ownsRow base 57 2 v es.length (flH es)) (hn : es.length ≤ 100000) (h0 : 0 < es.length) :
    Calls Tryz.prog 37 #[v, .func (.func 38) #[] #[]] W (SrtP es v base W) := by
  haveI : Inhabited HE := ⟨(0, none, 0, 0)⟩
  obtain ⟨n, hlen⟩ : ∃ n, es.length = n := ⟨_, rfl⟩
  unfold SrtP
  rw [hlen] at h hn h0 ⊢
  rcases h.2 with ⟨rfl, h1⟩ | ⟨g, cap, cur, rfl, _, _, _, _, _, _⟩
  · omega
  · have hd : es.toArray.toList = es := by simp
    have h' : W.ownsRow base 57 2 (.slice (some ⟨g, 0, none⟩) n cap) n (flH es.toArray.toList) := by rw [hd]; exact h
    obtain ⟨hH, hlt⟩ := rowH_holds h'
    have hs : es.toArray.size = n := by simpa using hlen
    have hcon := AnyQ.slices_SortFunc Tryz.sortL 2 Tryz.isAgg57 Tryz.sizeOf57 encH (fun _ => rfl) encH_one cmpH swoH 38 #[] g 0 cap es.toArray W eg24 (cmpLaysH g 0 _ W) hH hlt (by omega)
    rw [hs] at hcon
    refine Calls.mono (P := Tryz.prog) hcon fun e W' ⟨he, d', m, os, hp, hso, hw⟩ => ?_
    subst hw
    have hsz : d'.size = es.toArray.size := hp.1
    obtain ⟨hr1, hr2⟩ := sortH_row h' hsz m os
    refine ⟨he, d'.toList, ?_, ?_, hr1, hr2⟩
    · have := hp.2.2
      rw [← hs, Array.extract_size] at this
      have e2 : d'.extract 0 es.toArray.size = d' := by rw [← hsz, Array.extract_size]
      rw [e2] at this
      simpa using this
    · intro i j hj hij
      have hj' : j < d'.size := by simpa using hj
      have := hso i j (Nat.zero_le _) hij (by omega)
      rw [ltH] at this
      have h3 := of_decide_eq_false this
      rw [getElem!_pos d' j hj', getElem!_pos d' i (by omega)] at h3
      simp only [Array.getElem_toList]
      omega

end Go.Proofs.YtijihmncbaoklaaGreat
