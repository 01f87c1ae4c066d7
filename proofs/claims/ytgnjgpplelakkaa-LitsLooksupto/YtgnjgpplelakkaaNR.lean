import Derived.Test.YtgnjgpplelakkaaUC
import Derived.Lib.SlicesCompact
import Derived.Ground.Names2Prog
import Derived.Shelf.Slices.CompactI
import Derived.Shelf.Slices.In.SortNone
import Derived.Test.YtgnjgpplelakkaaProg
import Derived.Sort.OwnSortedInts
import Derived.Lib.OwnBridge
import Derived.Test.YtgnjgpplelakkaaL

/-
  Numbers sorted and freed of doubles, plain mathematics; the law's Ints.
-/
namespace Go.Proofs.Ytgnjgpplelakkaa
open Go.RowKit

/-- The numbers of the parts that are variables. -/
def pvs (l : List Part) : List Int := (l.filter (fun q => q.2.isVar)).map (fun q => q.2.v)
theorem pvs_snoc (l : List Part) (q : Part) : pvs (l ++ [q]) = pvs l ++ (if q.2.isVar then [q.2.v] else []) := by
  unfold pvs
  rw [List.filter_append, List.map_append]
  cases h : q.2.isVar <;> simp [h]
theorem pvs_append (l m : List Part) : pvs (l ++ m) = pvs l ++ pvs m := by simp [pvs]
theorem pvs_len (l : List Part) : (pvs l).length ≤ l.length := by
  unfold pvs
  rw [List.length_map]
  exact List.length_filter_le _ _

theorem vs_parts (t : T) : ∀ pl, pvs (t.parts pl) = t.vs := by
  induction t using T.ind with
  | _ t ih =>
    intro pl
    have h : ∀ (l : List T) (i : Nat), (∀ a ∈ l, a ∈ t.args) → pvs (T.parts.kids l pl i) = (l.map T.vs).flatten := by
      intro l
      induction l with
      | nil => intro i _; rfl
      | cons a r ihl =>
        intro i hm
        have h1 := ih a (hm a (by simp)) (pl ++ [(i : Int)])
        have h2 := ihl (i + 1) (fun b hb => hm b (by simp [hb]))
        simp only [T.parts.kids, List.map_cons, List.flatten_cons]
        rw [pvs_append, h1, h2]
    rw [t.parts_eq, t.vs_eq, ← h t.args 0 (fun _ h => h)]
    have e : pvs ((pl, t) :: T.parts.kids t.args pl 0) = pvs [(pl, t)] ++ pvs (T.parts.kids t.args pl 0) := pvs_append [(pl, t)] _
    rw [e]
    congr 1
    have e3 : pvs [(pl, t)] = if t.isVar then [t.v] else [] := pvs_snoc [] (pl, t)
    rw [e3]
    unfold T.isVar
    by_cases h0 : t.fn.size = 0
    · rw [if_pos (decide_eq_true h0), if_pos h0]
    · rw [if_neg (by rw [decide_eq_false h0]; simp), if_neg h0]

/-- Of a list that never falls Compact makes one that rises. -/
theorem upto_rise (d : Array Int) (hd : ∀ i j, i < j → j < d.size → d[i]! ≤ d[j]!) : ∀ m, m + 1 ≤ d.size →
    Rise (Lib.compactUpTo d (m + 1)) ∧ (∀ z, z ∈ Lib.compactUpTo d (m + 1) ↔ ∃ j, j < m + 1 ∧ d[j]! = z) := by
  intro m
  induction m with
  | zero =>
    intro _
    have e : Lib.compactUpTo d 1 = [d[0]!] := by
      rw [Lib.compactUpTo_succ]
      simp [Lib.compactUpTo, Lib.keeps]
    rw [e]
    refine ⟨by simp, fun z => ?_⟩
    simp only [List.mem_singleton]
    refine ⟨fun h => ⟨0, by omega, h.symm⟩, fun ⟨j, hj, hz⟩ => ?_⟩
    have : j = 0 := by omega
    subst this
    exact hz.symm
  | succ m ih =>
    intro hm
    obtain ⟨h1, h2⟩ := ih (by omega)
    rw [Lib.compactUpTo_succ]
    have hle := hd m (m + 1) (by omega) (by omega)
    have hall : ∀ z ∈ Lib.compactUpTo d (m + 1), z ≤ d[m]! := by
      intro z hz
      obtain ⟨j, hj, rfl⟩ := (h2 z).1 hz
      by_cases e : j = m
      · subst e; exact Int.le_refl _
      · exact hd j m (by omega) (by omega)
    by_cases hk : d[m + 1]! = d[m]!
    · have hkk : Lib.keeps d (m + 1) = false := by simp [Lib.keeps, hk]
      rw [hkk]
      simp only [Bool.false_eq_true, if_false, List.append_nil]
      refine ⟨h1, fun z => (h2 z).trans ⟨fun ⟨j, hj, hz⟩ => ⟨j, by omega, hz⟩, fun ⟨j, hj, hz⟩ => ?_⟩⟩
      by_cases e : j = m + 1
      · subst e; exact ⟨m, by omega, by rw [← hk]; exact hz⟩
      · exact ⟨j, by omega, hz⟩
    · have hkk : Lib.keeps d (m + 1) = true := by simp [Lib.keeps, hk]
      rw [hkk]
      simp only [if_true]
      refine ⟨rise_snoc h1 (fun o ho => by have := hall o ho; omega), fun z => ?_⟩
      simp only [List.mem_append, List.mem_singleton]
      rw [h2 z]
      constructor
      · rintro (⟨j, hj, hz⟩ | hz)
        · exact ⟨j, by omega, hz⟩
        · exact ⟨m + 1, by omega, hz.symm⟩
      · rintro ⟨j, hj, hz⟩
        by_cases e : j = m + 1
        · subst e; exact .inr hz.symm
        · exact .inl ⟨j, by omega, hz⟩

/-- Sorting and taking the doubles away makes what the document's way makes. -/
theorem sorted_same (l : List Int) : Lib.compact (l.mergeSort fun x y => decide (x ≤ y)) = l.foldl wth [] := by
  obtain ⟨k1, k2⟩ := wths_rise l [] List.Pairwise.nil
  have hp : (l.mergeSort fun x y => decide (x ≤ y)).Pairwise (fun a b => decide (a ≤ b) = true) :=
    List.pairwise_mergeSort (fun a b c h1 h2 => by simp at *; omega) (fun a b => by simp; omega) l
  have hperm := List.mergeSort_perm l (fun x y => decide (x ≤ y))
  obtain ⟨d, hd⟩ : ∃ d, l.mergeSort (fun x y => decide (x ≤ y)) = d := ⟨_, rfl⟩
  rw [hd] at hp hperm ⊢
  clear hd
  by_cases h0 : d.length = 0
  · have e : d = [] := List.eq_nil_of_length_eq_zero h0
    subst e
    have e2 : l = [] := by
      have := hperm.length_eq
      exact List.eq_nil_of_length_eq_zero this.symm
    subst e2
    rfl
  · obtain ⟨g1, g2⟩ := upto_rise d.toArray (fun i j hij hj => by
      have hj' : j < d.length := by simpa using hj
      have := List.pairwise_iff_getElem.1 hp i j (by omega) hj' hij
      have hi' : i < d.length := by omega
      simpa [hi', hj'] using this) (d.length - 1) (by simp; omega)
    have e1 : d.length - 1 + 1 = d.length := by omega
    rw [e1] at g1 g2
    refine rise_eq _ _ g1 k1 fun z => ?_
    rw [k2 z, show (z ∈ Lib.compact d ↔ _) from g2 z, ← hperm.mem_iff]
    simp only [List.not_mem_nil, false_or]
    constructor
    · rintro ⟨j, hj, rfl⟩
      simp [hj]
    · intro hz
      obtain ⟨j, hj, e⟩ := List.mem_iff_getElem.1 hz
      exact ⟨j, hj, by simp [hj, e]⟩


set_option maxHeartbeats 1000000 in
theorem ints_any (b1 b2 : Nat) (v1 v2 : Value) (k : Nat) (xs : List Int) (w : World) (h1 : w.ownsRow b1 3 1 v1 k (xs.map (Value.int .i64))) (h2 : w.ownsRow b2 3 1 v2 k (xs.map (Value.int .i64))) (hl : k ≤ 1048576) : Calls Try.prog 12 #[v1, v2] w fun e w' => e = .returned (.bool true) ∧ Below w.heap.size w w' := by
  have hk : xs.length = k := by simpa using h1.1
  subst hk
  obtain ⟨p1, d1, rfl⟩ := row_form h1
  obtain ⟨p2, d2, rfl⟩ := row_form h2
  have H1 : Hid (w.ownsRow b1 3 1 (.slice p1 xs.length d1) xs.length (xs.map (Value.int .i64))) := h1
  have H2 : Hid (w.ownsRow b2 3 1 (.slice p2 xs.length d2) xs.length (xs.map (Value.int .i64))) := h2
  clear h1 h2
  go_enter Try.func12, Try.ntmps12
  go_wp2
  go_loopw [5] (fun ii wr => ∃ i : Nat, ii = .int .i64 i ∧ i ≤ xs.length ∧ Below w.heap.size w wr) (fun ii _ => xs.length - (intOf ii).toNat)
  case atStart => exact ⟨0, rfl, Nat.zero_le _, Below.refl _ _⟩
  case round =>
    obtain ⟨i, rfl, hi, hwr⟩ := hrel
    by_cases hlt : i < xs.length
    · obtain ⟨g1, rfl, l1, _, k1⟩ := row_get H1.out hlt
      obtain ⟨g2, rfl, l2, _, k2⟩ := row_get H2.out hlt
      have c1 := (hwr.cell (p := ⟨g1, i, none⟩) l1).trans k1
      have c2 := (hwr.cell (p := ⟨g2, i, none⟩) l2).trans k2
      obtain ⟨x, hx⟩ : ∃ x, xs[i] = x := ⟨_, rfl⟩
      rw [hx] at c1 c2
      have HW : Hid (Below w.heap.size w wr) := hwr
      clear hx k1 k2 l1 l2 hwr
      go_wp2
      go_quiet (fail)
      go_wp2
      go_roundw
      case rel => exact ⟨i + 1, by go_num, by omega, HW.out.trans ⟨rfl, rfl, rfl, Nat.le_refl _, fun _ _ => rfl⟩⟩
      case measure => simp [intOf]; omega
    · go_wp2
      go_ret
      exact ⟨rfl, hwr⟩

end Go.Proofs.Ytgnjgpplelakkaa

/-
  slices.Sort and slices.Compact at ints: the library's contracts at this program.
-/
namespace Go.Proofs.Ytgnjgpplelakkaa
open Go.Shelf
def Try.laysNm220_ren : Go.Shelf.Ren := ⟨fun | 20 => 43 | n => n, fun | 22 => 33 | 3 => 3 | 4 => 4 | 0 => 0 | n => n, fun | n => n⟩
theorem Try.laysNm220 : Go.Proofs.Lays2.n20 Try.prog Try.laysNm220_ren := {
  mixed := by kernel_rfl
  f20 := Try.func43.trans (congrArg some (by kernel_rfl))
  t0 := Try.underlying0
  a0 := Try.isAgg0
  z0 := Try.sizeOf0
  v0 := Try.zeroValue0
  t3 := Try.underlying3
  a3 := Try.isAgg3
  z3 := Try.sizeOf3
  v3 := Try.zeroValue3
  t4 := Try.underlying4
  a4 := Try.isAgg4
  z4 := Try.sizeOf4
  v4 := Try.zeroValue4
  t22 := Try.underlying33
  a22 := Try.isAgg33
  z22 := Try.sizeOf33
  v22 := Try.zeroValue33
  i3 := by kernel_rfl }
open Go.RowKit Go.Lib Go.Sort in
theorem Try.slices_Compact_int_arr (blk off cap : Nat) (d : Array Int) (w : World) (hH : Holds encI w blk off d) (hsz : d.size ≤ 9223372036854775807) (hcap : d.size ≤ cap) :
    Calls Try.prog 43 #[.slice (some ⟨blk, off, none⟩) d.size cap] w fun e w' => e = .returned (.slice (some ⟨blk, off, none⟩) (compactUpTo d d.size).length cap) ∧ ∃ q, w' = putRow encI (Sort.ahead w q) blk off (compactUpTo d d.size ++ List.replicate (d.size - (compactUpTo d d.size).length) 0).toArray := Any.slices_Compact_int_arr Try.laysNm220 blk off cap d w hH hsz hcap
open Go.RowKit Go.Lib Go.Sort in
theorem Try.slices_Compact_int (blk off cap : Nat) (zs : List Int) (w : World) (hH : Holds (Value.int .i64) w blk off zs.toArray) (hsz : zs.length ≤ 9223372036854775807) (hcap : zs.length ≤ cap) :
    Calls Try.prog 43 #[.slice (some ⟨blk, off, none⟩) zs.length cap] w fun e w' => e = .returned (.slice (some ⟨blk, off, none⟩) (Lib.compact zs).length cap) ∧ ∃ q, w' = putRow (Value.int .i64) (Sort.ahead w q) blk off (Lib.compact zs ++ List.replicate (zs.length - (Lib.compact zs).length) 0).toArray := Any.slices_Compact_int Try.laysNm220 blk off cap zs w hH hsz hcap
open Go.RowKit Go.Lib Go.Sort in
theorem Try.slices_Compact_int_empty (a : Option Addr) (cap : Nat) (w : World) :
    Calls Try.prog 43 #[.slice a 0 cap] w fun e w' => e = .returned (.slice a 0 cap) ∧ w' = w := Any.slices_Compact_int_empty Try.laysNm220 a cap w
def Try.lays189_ren : Go.Shelf.Ren := ⟨fun | 189 => 42 | 125 => 76 | 257 => 75 | 128 => 106 | 129 => 107 | 294 => 97 | 295 => 98 | 296 => 99 | 297 => 100 | 298 => 101 | 299 => 102 | 216 => 103 | 300 => 104 | 301 => 105 | 328 => 117 | 329 => 118 | 330 => 119 | 331 => 120 | 332 => 121 | 215 => 112 | 343 => 127 | n => n, fun | 28 => 33 | 3 => 3 | 46 => 82 | 0 => 0 | 51 => 114 | 53 => 116 | 4 => 4 | 183 => 107 | 182 => 106 | 131 => 90 | 5 => 5 | 9 => 9 | 218 => 123 | 222 => 127 | 228 => 132 | 229 => 133 | n => n, fun | n => n⟩
theorem Try.lays189 : Go.Proofs.Lays.n189 Try.prog Try.lays189_ren := {
  mixed := by kernel_rfl
  f125 := Try.func76.trans (congrArg some (by kernel_rfl))
  f128 := Try.func106.trans (congrArg some (by kernel_rfl))
  f129 := Try.func107.trans (congrArg some (by kernel_rfl))
  f189 := Try.func42.trans (congrArg some (by kernel_rfl))
  f215 := Try.func112.trans (congrArg some (by kernel_rfl))
  f216 := Try.func103.trans (congrArg some (by kernel_rfl))
  f257 := Try.func75.trans (congrArg some (by kernel_rfl))
  f294 := Try.func97.trans (congrArg some (by kernel_rfl))
  f295 := Try.func98.trans (congrArg some (by kernel_rfl))
  f296 := Try.func99.trans (congrArg some (by kernel_rfl))
  f297 := Try.func100.trans (congrArg some (by kernel_rfl))
  f298 := Try.func101.trans (congrArg some (by kernel_rfl))
  f299 := Try.func102.trans (congrArg some (by kernel_rfl))
  f300 := Try.func104.trans (congrArg some (by kernel_rfl))
  f301 := Try.func105.trans (congrArg some (by kernel_rfl))
  f328 := Try.func117.trans (congrArg some (by kernel_rfl))
  f329 := Try.func118.trans (congrArg some (by kernel_rfl))
  f330 := Try.func119.trans (congrArg some (by kernel_rfl))
  f331 := Try.func120.trans (congrArg some (by kernel_rfl))
  f332 := Try.func121.trans (congrArg some (by kernel_rfl))
  f343 := Try.func127.trans (congrArg some (by kernel_rfl))
  t0 := Try.underlying0
  a0 := Try.isAgg0
  z0 := Try.sizeOf0
  v0 := Try.zeroValue0
  t3 := Try.underlying3
  a3 := Try.isAgg3
  z3 := Try.sizeOf3
  v3 := Try.zeroValue3
  t4 := Try.underlying4
  a4 := Try.isAgg4
  z4 := Try.sizeOf4
  v4 := Try.zeroValue4
  t5 := Try.underlying5
  a5 := Try.isAgg5
  z5 := Try.sizeOf5
  v5 := Try.zeroValue5
  t9 := Try.underlying9
  a9 := Try.isAgg9
  z9 := Try.sizeOf9
  v9 := Try.zeroValue9
  t28 := Try.underlying33
  a28 := Try.isAgg33
  z28 := Try.sizeOf33
  v28 := Try.zeroValue33
  t46 := Try.underlying82
  a46 := Try.isAgg82
  z46 := Try.sizeOf82
  v46 := Try.zeroValue82
  t51 := Try.underlying114
  a51 := Try.isAgg114
  z51 := Try.sizeOf114
  v51 := Try.zeroValue114
  t53 := Try.underlying116
  a53 := Try.isAgg116
  z53 := Try.sizeOf116
  v53 := Try.zeroValue116
  t131 := Try.underlying90
  a131 := Try.isAgg90
  z131 := Try.sizeOf90
  v131 := Try.zeroValue90
  t182 := Try.underlying106
  a182 := Try.isAgg106
  z182 := Try.sizeOf106
  v182 := Try.zeroValue106
  t183 := Try.underlying107
  a183 := Try.isAgg107
  z183 := Try.sizeOf107
  v183 := Try.zeroValue107
  t218 := Try.underlying123
  a218 := Try.isAgg123
  z218 := Try.sizeOf123
  v218 := Try.zeroValue123
  t222 := Try.underlying127
  a222 := Try.isAgg127
  z222 := Try.sizeOf127
  v222 := Try.zeroValue127
  t228 := Try.underlying132
  a228 := Try.isAgg132
  z228 := Try.sizeOf132
  v228 := Try.zeroValue132
  t229 := Try.underlying133
  a229 := Try.isAgg133
  z229 := Try.sizeOf133
  v229 := Try.zeroValue133 }
open Go.RowKit Go.Sort in
theorem Try.slices_Sort_int_none (p : Option Addr) (cap : Nat) (w : World) :
    Calls Try.prog 42 #[.slice p 0 cap] w fun e w' => e = .returned (.tuple #[]) ∧ w' = w := Any.slices_Sort_int_none Try.lays189 p cap w
open Go.RowKit Go.Sort in
theorem Try.slices_Sort_int (blk off cap : Nat) (zs : List Int) (w : World) (hH : Holds (Value.int .i64) w blk off zs.toArray) (hblk : blk < w.heap.size) (hsz : zs.length < 4611686018427387904) :
    Calls Try.prog 42 #[.slice (some ⟨blk, off, none⟩) zs.length cap] w fun e w' =>
      e = .returned (.tuple #[]) ∧ ∃ n os, w' = grow (putRow (Value.int .i64) (Sort.ahead w n) blk off (zs.mergeSort fun x y => decide (x ≤ y)).toArray) os :=
  calls_of_every_depth fun D => AnyS.slices_Sort_int_in Try.lays189 D blk off cap zs w hH hblk hsz

end Go.Proofs.Ytgnjgpplelakkaa

/-
  term.Vars.
-/
namespace Go.Proofs.Ytgnjgpplelakkaa
open Go.RowKit Go.Shelf Go.Sort

theorem sort_own (base : Nat) (v : Value) (k : Nat) (xs : List Int) (w : World) (h : w.ownsRow base 3 1 v k (xs.map (Value.int .i64))) (hk : k ≤ 1048576) :
    Calls Try.prog 42 #[v] w fun e w' => e = .returned (.tuple #[]) ∧ w'.ownsRow base 3 1 v k ((xs.mergeSort fun x y => decide (x ≤ y)).map (Value.int .i64)) ∧ w.grownBy w' v.ownBlock := by
  have hl : xs.length = k := by simpa using h.1
  subst hl
  rcases h.2 with ⟨rfl, h0⟩ | ⟨g, cap, cur, rfl, hb, hg, hn, hm, hs, ht⟩
  · have e : xs = [] := List.eq_nil_of_length_eq_zero h0
    subst e
    refine (Try.slices_Sort_int_none none 0 w).mono ?_
    rintro e w' ⟨he, rfl⟩
    exact ⟨he, by simpa using h, ⟨rfl, rfl, rfl, Nat.le_refl _, fun _ _ _ => rfl⟩⟩
  · have hlt : g < w.heap.size := (Array.getElem?_eq_some_iff.1 hg).1
    have hH : Holds (Value.int .i64) w g 0 xs.toArray := holds_of_blockI hg (by simpa using ht)
    refine (Try.slices_Sort_int g 0 cap xs w hH hlt (by omega)).mono ?_
    rintro e w' ⟨he, n, os, rfl⟩
    exact ⟨he, ownsRow_sortedI (List.length_mergeSort xs) hb hg hn hm hs, grownBy_sortedI _⟩

theorem grownBy_put {w : World} {g n : Nat} (d : Array Int) : w.grownBy (putRow (Value.int .i64) (Sort.ahead w n) g 0 d) (some g) := by
  refine ⟨rfl, rfl, rfl, by simp [putRow, mapBlock, Sort.ahead], fun k hk hne => ?_⟩
  have : g ≠ k := fun e => hne (by rw [e])
  simp [putRow, mapBlock, Sort.ahead, Array.getElem?_modify, this]

theorem compact_own (base : Nat) (v : Value) (k : Nat) (xs : List Int) (w : World) (h : w.ownsRow base 3 1 v k (xs.map (Value.int .i64))) (hk : k ≤ 1048576) :
    Calls Try.prog 43 #[v] w fun e w' => ∃ v' k', e = .returned v' ∧ w'.ownsRow base 3 1 v' k' ((Lib.compact xs).map (Value.int .i64)) ∧ w.grownBy w' v.ownBlock := by
  have hl : xs.length = k := by simpa using h.1
  subst hl
  rcases h.2 with ⟨rfl, h0⟩ | ⟨g, cap, cur, rfl, hb, hg, hn, hm, hs, ht⟩
  · have e : xs = [] := List.eq_nil_of_length_eq_zero h0
    subst e
    refine (Try.slices_Compact_int_empty none 0 w).mono ?_
    rintro e w' ⟨he, rfl⟩
    exact ⟨_, 0, he, by simpa [Lib.compact, Lib.compactUpTo] using h, ⟨rfl, rfl, rfl, Nat.le_refl _, fun _ _ _ => rfl⟩⟩
  · have hH : Holds (Value.int .i64) w g 0 xs.toArray := holds_of_blockI hg (by simpa using ht)
    have hle := Lib.compact_length_le xs
    refine (Try.slices_Compact_int g 0 cap xs w hH (by omega) (by omega)).mono ?_
    rintro e w' ⟨he, q, rfl⟩
    have hc := Lib.ownsRow_putRow (q := q) (k := (Lib.compact xs).length) (ys := Lib.compact xs ++ List.replicate (xs.length - (Lib.compact xs).length) 0) h (by simp; omega) (by omega)
    rw [List.take_left] at hc
    exact ⟨_, _, he, hc, grownBy_put _⟩

end Go.Proofs.Ytgnjgpplelakkaa

/-
  term.Vars.
-/
namespace Go.Proofs.Ytgnjgpplelakkaa
open Go.RowKit Go.Shelf

attribute [local go_sem] Oper.semAt_some

/-- What a loop over the parts collects in a list whose slice lies in one box. -/
structure RInv (w : World) (B : Nat) (ty e : TypeId) (rel : List Part → List Value → Prop) (E : List Nat) (pre : List Part) (v : Value) (cs : List Value) (W : World) : Prop where
  box : Boxed W B ty v
  row : W.ownsRow w.heap.size e 1 v cs.length cs
  say : rel pre cs
  out : B ∉ E
  mine : ∀ g, v.ownBlock = some g → g ∉ E
  low : ∀ r ∈ E, w.heap.size ≤ r ∧ r < W.heap.size
  bel : Below w.heap.size w W

abbrev RInvE (w : World) (B : Nat) (ty e : TypeId) (rel : List Part → List Value → Prop) (E : List Nat) (pre : List Part) (W : World) : Prop := ∃ v cs, RInv w B ty e rel E pre v cs W

section
variable {w : World} {B : Nat} {ty e : TypeId} {rel : List Part → List Value → Prop}

theorem RInv.abide : Abide (RInvE w B ty e rel) := by
  rintro E E' s W W' row ⟨v, cs, h⟩ hg hr hE
  have hlt := h.box.lt
  refine ⟨v, cs, h.box.kept hg (fun e => h.out (hr B e.symm)), h.row.kept hg ?_, h.say, fun hb => ?_, fun g hgv hge => ?_, fun r hr' => ?_, h.bel.trans ⟨hg.os, hg.tape, hg.output, hg.size, fun k hk => hg.block k (Nat.lt_of_lt_of_le hk h.bel.size) (fun e => by have := h.low k (hr k e.symm); omega)⟩⟩
  · cases ho : v.ownBlock with
    | none => exact .inl rfl
    | some g => exact .inr fun e => h.mine g ho (hr g e.symm)
  · rcases hE B hb with hb | hb
    · exact h.out hb
    · omega
  · have := (h.row.lt g hgv).2
    rcases hE g hge with h' | h'
    · exact h.mine g hgv h'
    · omega
  · rcases hE r hr' with h' | h'
    · exact ⟨(h.low r h').1, Nat.lt_of_lt_of_le (h.low r h').2 hg.size⟩
    · exact ⟨Nat.le_trans h.bel.size h'.1, h'.2⟩

variable {E : List Nat} {pre : List Part} {v : Value} {cs : List Value} {W W' : World}

theorem RInv.grow (h : RInv w B ty e rel E pre v cs W) (hb : Below W.heap.size W W') : Kept w.heap.size E W W' ∧ RInv w B ty e rel E pre v cs W' := by
  have hg : W.grownBy W' none := ⟨hb.os, hb.tape, hb.output, hb.size, fun k hk _ => hb.block k hk⟩
  exact ⟨⟨hb.mono h.bel.size, fun r hr => hb.block r (h.low r hr).2⟩, ⟨(hb.block B h.box.lt).trans h.box, h.row.kept hg (by cases v.ownBlock <;> simp), h.say, h.out, h.mine, fun r hr => ⟨(h.low r hr).1, Nat.lt_of_lt_of_le (h.low r hr).2 hb.size⟩, h.bel.trans (hb.mono h.bel.size)⟩⟩

/-- Behind an append and the store of what it gave. -/
theorem RInv.push (h : RInv w B ty e rel E pre v cs W) (hte : ty ≠ e) (hB : w.heap.size ≤ B) (x : Value) (v' : Value) (w1 : World) (hown : w1.ownsRow w.heap.size e 1 v' (cs.length + 1) (cs ++ [x])) (hg : W.grownBy w1 v.ownBlock) (hat : v'.ownBlock = v.ownBlock ∨ v'.ownBlock = some W.heap.size) (pre' : List Part) (hs : rel pre' (cs ++ [x])) :
    (w1.cell? ⟨B, 0, none⟩ = some v ∧ w1.frozen? ⟨B, 0, none⟩ = false) ∧ Kept w.heap.size E W (w1.setCell ⟨B, 0, none⟩ v') ∧ RInv w B ty e rel E pre' v' (cs ++ [x]) (w1.setCell ⟨B, 0, none⟩ v') := by
  have hnb := h.box.not_row hte h.row
  have p1 := h.box.kept hg hnb
  have g2 := grownBy_setCell' w1 B v'
  have b1 : Below w.heap.size W w1 := ⟨hg.os, hg.tape, hg.output, hg.size, fun i hi => hg.block i (Nat.lt_of_lt_of_le hi h.bel.size) fun e => by
    have := (h.row.lt i e.symm).1
    omega⟩
  have b2 : Below w.heap.size w1 (w1.setCell ⟨B, 0, none⟩ v') := (Below.refl _ _).setCell (p := ⟨B, 0, none⟩) hB _
  have hne : v'.ownBlock = none ∨ v'.ownBlock ≠ some B := .inr fun e => p1.not_row hte hown e.symm
  refine ⟨⟨p1.cell, p1.frozen⟩, ⟨b1.trans b2, fun r hr => ?_⟩, ⟨p1.set v', ?_, hs, h.out, fun g hgv hge => ?_, fun r hr => ⟨(h.low r hr).1, ?_⟩, h.bel.trans (b1.trans b2)⟩⟩
  · have hlt := (h.low r hr).2
    have e1 : w1.heap[r]? = W.heap[r]? := hg.block r hlt (fun e => h.mine r e.symm hr)
    exact (g2.block r (Nat.lt_of_lt_of_le hlt hg.size) (fun e => h.out (Option.some.inj e ▸ hr))).trans e1
  · have := hown.kept g2 hne
    rw [List.length_append, List.length_singleton]
    exact this
  · rcases hat with h1 | h1
    · exact h.mine g (h1 ▸ hgv) hge
    · rw [h1] at hgv
      cases hgv
      have := (h.low _ hge).2
      omega
  · have := (h.low r hr).2
    have := hg.size
    have := g2.size
    omega
end

/-- What Vars has collected. -/
def VRel (pre : List Part) (cs : List Value) : Prop := cs = (pvs pre).map (Value.int .i64)

theorem RInv.same {w : World} {B : Nat} {ty e : TypeId} {rel : List Part → List Value → Prop} {E : List Nat} {pre pre' : List Part} {v : Value} {cs : List Value} {W : World} (h : RInv w B ty e rel E pre v cs W) (hs : rel pre' cs) : RInv w B ty e rel E pre' v cs W :=
  ⟨h.box, h.row, hs, h.out, h.mine, h.low, h.bel⟩

theorem row_put {W : World} {b : Nat} {e : TypeId} {s : Nat} {v : Value} {n : Nat} {xs : List Value} {D : Nat} {d : Option (List Deferred)} {o : Obj} (h : W.ownsRow b e s v n xs) (hD : W.heap[D]? = some (.deferred d)) : (W.putObj D o).ownsRow b e s v n xs := by
  refine h.kept (row := some D) ⟨rfl, rfl, rfl, by simp, fun k hk hne => World.putObj_heap_other (fun e => hne (by rw [e]))⟩ ?_
  rcases h.2 with ⟨rfl, _⟩ | ⟨g, cap, cur, rfl, _, hg, _⟩
  · exact .inl rfl
  · refine .inr fun e => ?_
    have e' : some g = some D := e
    cases e'
    rw [hg] at hD
    cases hD

set_option maxRecDepth 100000 in
set_option maxHeartbeats 4000000 in
theorem tvars_any (t : T) (sl : Value) (w : World) (ha : ArgsAt w sl t.args) (hlen : Short t) (hbig : (t.parts []).length ≤ 1048576) :
    Calls Try.prog 41 #[tval t sl] w fun e w' => ∃ v k, e = .returned v ∧ w'.ownsRow w.heap.size 3 1 v k ((t.vs.foldl wth []).map (Value.int .i64)) ∧ Below w.heap.size w w' := by
  refine (callsIn_wide (n := 9)).1 ?_
  obtain ⟨a, c, rfl, hc, hm⟩ := ha.slice
  obtain ⟨W0, hW0⟩ : ∃ W0, ((w.alloc (tbox t (.slice a t.args.length c))).alloc (.cells #[.slice none 0 0] 33)).alloc (tbox t (.slice a t.args.length c)) = W0 := ⟨_, rfl⟩
  have hsz : W0.heap.size = w.heap.size + 3 := by rw [← hW0]; simp
  have hbel : Below w.heap.size w W0 := by rw [← hW0]; exact (((Below.refl _ _).alloc (Nat.le_refl _) _).alloc (by simp) _).alloc (by simp; omega) _
  have hB1 : Boxed W0 (w.heap.size + 1) 33 (.slice none 0 0) := by
    have := (Boxed.new (w.alloc (tbox t (.slice a t.args.length c))) 33 (.slice none 0 0)).alloc (tbox t (.slice a t.args.length c))
    rw [World.size_alloc] at this
    rw [← hW0]
    exact this
  have hB2 : W0.heap[w.heap.size + 1 + 1]? = some (.cells [Value.int .i64 t.v, .string t.fn, .slice a t.args.length c].toArray 26 (0, 0)) := by
    have := (MapKept.heap_alloc ((w.alloc (tbox t (.slice a t.args.length c))).alloc (.cells #[.slice none 0 0] 33)) (tbox t (.slice a t.args.length c))).1
    rw [World.size_alloc, World.size_alloc] at this
    rw [← hW0]
    exact this
  refine callsIn_of_wp_marks Try.func41 rfl trivial ?_ rfl
  simp only [Try.ntmps41, List.size_toArray, List.length_cons, List.length_nil, Nat.reduceAdd, Nat.reduceSub, Array.replicate_succ, Array.replicate_zero, List.push_toArray, List.append_toArray, List.nil_append, List.cons_append]
  gi_wp2_with (refine ⟨trivial, ?_⟩; gi_at_call 70; refine (callsIn_wide.2 (parts_any _ _ _)).mono ?_; rintro e w' ⟨rfl, rfl⟩)
  try rw [hW0]
  clear hW0
  obtain ⟨i0, hi, hz0, hz1, hz2⟩ := info_parts Try.info3
  refine range_ownA (n := W0.heap.size) (w0 := w) (all := t.parts []) (gf := 95) (lb := #[.pointer (some ⟨w.heap.size + 1 + 1, 0, none⟩)]) 9 rfl (enters_of Try.func95 (by kernel_rfl) rfl) rfl
    (fun W hW => iter_any w W0.heap.size (w.heap.size + 1 + 1) t _ W (hbel.trans (hW.mono (by omega))) (by omega) hW.size ((hW.block _ (by omega)).trans hB2) ha hlen)
    (RInvE w (w.heap.size + 1) 33 3 VRel) (fun _ _ _ => False) RInv.abide (fun _ _ _ _ _ _ h => h.elim)
    ⟨_, [], hB1, World.ownsRow_nil _ _ _ _, rfl, by simp, (fun g e => by cases e), by simp, hbel⟩ (by omega) (fun _ _ _ h r hr => by obtain ⟨v, cs, h⟩ := h; exact (h.low r hr).2)
    (fun p x y a' W => ∃ Bx, W.heap[Bx]? = some (.cells [Value.int .i64 p.v, .string p.fn, y].toArray 26 (0, 0)) ∧ a' = { tmps := #[tval t (.slice a t.args.length c), .pointer (some ⟨w.heap.size, 0, none⟩), .slice none 0 0, .pointer (some ⟨w.heap.size + 1, 0, none⟩), undef, .pointer (some ⟨Bx, 0, none⟩), .agg #[.int .i64 t.v, .string t.fn, .slice a t.args.length c], .func (.func 95) #[] #[.pointer (some ⟨w.heap.size + 1 + 1, 0, none⟩)], x, tval p y, undef, undef, undef, undef, undef, undef, undef, undef, undef, undef, undef], defers := [] })
    ?hax ?assign ?body ?done ?stop
  case hax =>
    rintro p x y a' W l r o ⟨Bx, hbx, rfl⟩ hl
    refine ⟨Bx, (World.putObj_heap_other ?_).trans hbx, rfl⟩
    rintro rfl
    rw [hbx] at hl
    cases hl
  case assign =>
    rintro l p pv sl W K ⟨pa, pn, pc, rfl⟩ ⟨sa, sn, sc, rfl⟩ hK
    gi_wp2
    refine hK _ _ (below_box W _) ⟨W.heap.size, (MapKept.heap_alloc W _).1, ?_⟩
    simp
  case body =>
    rintro l E pre pl p pv sl a' W ⟨v, cs, hi1⟩ hl hw hpv hsl ⟨rest, hrest⟩ ⟨Bx, hbx, rfl⟩
    obtain ⟨pa, pc, rfl⟩ := hpv.shape
    obtain ⟨sa, sc, rfl, _, _⟩ := hsl.slice
    have hcs : cs.length < 1048576 := by
      have h1 := congrArg List.length hrest
      have h2 : cs = (pvs pre).map (Value.int .i64) := hi1.say
      have h3 := pvs_len pre
      rw [h2, List.length_map]
      simp at h1
      omega
    have x0 : W.cell? ⟨Bx, 0, none⟩ = some (.int .i64 p.v) := by rw [cell_of_row _ _ _ _ 26 (0, 0) hbx]; rfl
    have x1 : W.cell? ⟨Bx, 1, none⟩ = some (.string p.fn) := by rw [cell_of_row _ _ _ _ 26 (0, 0) hbx]; rfl
    have x2 : W.cell? ⟨Bx, 2, none⟩ = some (.slice sa p.args.length sc) := by rw [cell_of_row _ _ _ _ 26 (0, 0) hbx]; rfl
    have hbl : Bx < W.heap.size := (Array.getElem?_eq_some_iff.1 hbx).1
    have hcall := isVar_any p (.slice sa p.args.length sc) W ⟨_, _, _, rfl⟩
    have hsn := pvs_snoc pre (pl, p)
    have hb1 := below_box W (tbox p (.slice sa p.args.length sc))
    obtain ⟨k1, j1⟩ := hi1.grow hb1
    clear hlen hrest hbx hB1 hB2 hbel ha hsl hpv
    cases hps : p.isVar
    · rw [hps] at hcall
      have Hs : Hid (VRel (pre ++ [(pl, p)]) cs) := by
        show _ = _
        have h2 : cs = (pvs pre).map (Value.int .i64) := hi1.say
        rw [hsn, h2]
        simp [hps]
      clear hps hsn
      have HF : Hid (Kept w.heap.size E W (W.alloc (tbox p (.slice sa p.args.length sc))) ∧ RInvE w (w.heap.size + 1) 33 3 VRel E (pre ++ [(pl, p)]) (W.alloc (tbox p (.slice sa p.args.length sc)))) := ⟨k1, _, _, j1.same Hs⟩
      clear k1 j1 hi1 Hs
      gi_wp2_with (refine ⟨trivial, ?_⟩; gi_at_call 74; refine (CallsIn.inRound l (callsIn_wide.2 hcall)).mono ?_; rintro e w1 ⟨rfl, rfl⟩)
      exact HF
    · rw [hps] at hcall
      have Hs : Hid (VRel (pre ++ [(pl, p)]) (cs ++ [.int .i64 p.v])) := by
        show _ = _
        have h2 : cs = (pvs pre).map (Value.int .i64) := hi1.say
        rw [hsn, h2]
        simp [hps]
      clear hps hsn
      obtain ⟨W1, hW1⟩ : ∃ W1, W.alloc (tbox p (.slice sa p.args.length sc)) = W1 := ⟨_, rfl⟩
      rw [hW1] at hcall hb1 k1 j1
      have y0 := kc hb1 hbl x0
      obtain ⟨k2, j2⟩ := j1.grow (below_box W1 (.cells #[.int .i64 p.v] 3))
      have d0 := j1.box.cell
      obtain ⟨ka, kb, rfl⟩ := row_form hi1.row
      have hrow2 := j2.row
      have hsz2 := j2.bel.size
      obtain ⟨n, hn⟩ : ∃ n, cs.length = n := ⟨_, rfl⟩
      rw [hn] at hcs d0 hrow2
      have fin : ∀ v' w3, w3.ownsRow w.heap.size 3 1 v' (n + 1) (cs ++ [.int .i64 p.v]) → (W1.alloc (.cells #[.int .i64 p.v] 3)).grownBy w3 (Value.slice ka n kb).ownBlock → (v'.ownBlock = (Value.slice ka n kb).ownBlock ∨ v'.ownBlock = some (W1.alloc (.cells #[.int .i64 p.v] 3)).heap.size) →
          (w3.cell? ⟨w.heap.size + 1, 0, none⟩ = some (.slice ka n kb) ∧ w3.frozen? ⟨w.heap.size + 1, 0, none⟩ = false) ∧ Hid (Kept w.heap.size E W (w3.setCell ⟨w.heap.size + 1, 0, none⟩ v') ∧ RInvE w (w.heap.size + 1) 33 3 VRel E (pre ++ [(pl, p)]) (w3.setCell ⟨w.heap.size + 1, 0, none⟩ v')) := by
        intro v' w3 hown hg hat
        rw [← hn] at hown hg hat ⊢
        obtain ⟨hcf, k3, h3⟩ := j2.push (by decide) (by omega) _ v' w3 hown hg hat (pre ++ [(pl, p)]) Hs
        exact ⟨hcf, k1.trans (k2.trans k3), _, _, h3⟩
      clear hW1 k1 k2 j1 j2 hi1 hn hb1 Hs
      gi_wp2_with (first
        | (gi_at_builtin; refine wpListIn_append_own_at _ rfl _ _ 33 rfl w.heap.size 3 i0 (.int .i64 0) 1 8 Try.underlying33 hi hz0 hz1 hz2 rfl (by decide) _ _ _ rfl hrow2 ⟨w1.heap.size, 0, none⟩ 1 1 [.int .i64 p.v] rfl rfl (cell_one_new _ _ _) (by simp [Value.oneCell']) (by unfold maxLen; omega) (by omega) hsz2 ?_; intro v' w3 hown hg _ hat; obtain ⟨⟨f1, f2⟩, HF⟩ := fin v' w3 hown hg hat; obtain ⟨g', cap', rfl⟩ := ownsRow_succ hown; clear hown hg hat)
        | (refine ⟨trivial, ?_⟩; gi_at_call 74; refine (CallsIn.inRound l (callsIn_wide.2 hcall)).mono ?_; rintro e w1 ⟨rfl, rfl⟩))
      exact HF
  case done =>
    rintro D E W hD ⟨v, cs, hi1⟩ hDE hK
    have hsay : cs = (pvs (t.parts [])).map (Value.int .i64) := hi1.say
    rw [vs_parts t []] at hsay
    have hvl : t.vs.length ≤ 1048576 := by
      have := pvs_len (t.parts [])
      rw [vs_parts t []] at this
      omega
    have hrow := hi1.row
    rw [hsay, List.length_map] at hrow
    have hs := sort_own w.heap.size v t.vs.length t.vs W hrow hvl
    have hmid : ∀ W2 : World, W.grownBy W2 v.ownBlock → Boxed W2 (w.heap.size + 1) 33 v ∧ W2.heap[D]? = some (.deferred (some [])) ∧ Below w.heap.size w W2 := by
      intro W2 hg
      refine ⟨hi1.box.kept hg (hi1.box.not_row (by decide) hi1.row), (hg.block D (hi1.low D hDE).2 (fun e => hi1.mine D e.symm hDE)).trans hK, hi1.bel.trans ⟨hg.os, hg.tape, hg.output, hg.size, fun k hk => hg.block k (Nat.lt_of_lt_of_le hk hi1.bel.size) (fun e => by have := (hi1.row.lt k e.symm).1; omega)⟩⟩
    have hc0 := hi1.box.cell
    have hcp : ∀ W2 : World, W2.ownsRow w.heap.size 3 1 v t.vs.length ((t.vs.mergeSort fun x y => decide (x ≤ y)).map (Value.int .i64)) → Calls Try.prog 43 #[v] W2 fun e w' => ∃ v' k', e = .returned v' ∧ w'.ownsRow w.heap.size 3 1 v' k' ((t.vs.foldl wth []).map (Value.int .i64)) ∧ W2.grownBy w' v.ownBlock := by
      intro W2 h2
      have := compact_own w.heap.size v t.vs.length _ W2 h2 hvl
      rwa [sorted_same] at this
    obtain ⟨pa, pc, rfl⟩ := row_form hrow
    obtain ⟨n, hn⟩ : ∃ n, t.vs.length = n := ⟨_, rfl⟩
    rw [hn] at hs hmid hc0 hcp
    clear hrow hsay hi1 hvl hlen hB1 hB2 hbel ha hn
    gi_wp2_with (first
      | (refine ⟨trivial, ?_⟩; gi_at_call 43; refine (callsIn_wide.2 (hcp _ HS.out.1)).mono ?_; rintro e w3 ⟨v3, k3, rfl, hr3, hg3⟩; obtain ⟨pa3, pc3, rfl⟩ := row_form hr3; have H3 : Hid (w3.ownsRow w.heap.size 3 1 (.slice pa3 k3 pc3) k3 ((t.vs.foldl wth []).map (Value.int .i64)) ∧ w3.heap[D]? = some (.deferred (some [])) ∧ Below w.heap.size w w3) := ⟨hr3, (hmid w3 (HS.out.2.trans hg3)).2⟩; clear hr3 hg3)
      | (refine ⟨trivial, ?_⟩; gi_at_call 42; refine (callsIn_wide.2 hs).mono ?_; rintro e w2 ⟨rfl, hr2, hg2⟩; have c2 := (hmid w2 hg2).1.cell; have HS : Hid (w2.ownsRow w.heap.size 3 1 (.slice pa n pc) n ((t.vs.mergeSort fun x y => decide (x ≤ y)).map (Value.int .i64)) ∧ W.grownBy w2 (Value.slice pa n pc).ownBlock) := ⟨hr2, hg2⟩; clear hr2 hg2))
    refine ⟨by simp, .inl ⟨_, _, rfl, run_takeDeferred H3.out.2.1, ?_⟩⟩
    refine ⟨_, results_tmp rfl _ _ _, _, k3, rfl, ?_, H3.out.2.2.trans ⟨rfl, rfl, rfl, by simp, fun k hk => World.putObj_heap_other (by omega)⟩⟩
    exact row_put H3.out.1 H3.out.2.1
  case stop =>
    rintro D E pre W _ h
    exact h.elim

end Go.Proofs.Ytgnjgpplelakkaa
