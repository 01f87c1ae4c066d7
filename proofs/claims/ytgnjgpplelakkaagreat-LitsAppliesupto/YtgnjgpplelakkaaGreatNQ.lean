import Derived.Test.YtgnjgpplelakkaaGreatUG
import Derived.Lib.SlicesCompact
import Derived.Ground.Names2Prog
import Derived.Shelf.Slices.CompactI
import Derived.Shelf.Slices.In.SortNone
import Derived.Test.YtgnjgpplelakkaaGreatProg
import Derived.Sort.OwnSortedInts
import Derived.Lib.OwnBridge

/-
  Numbers sorted and freed of doubles, plain mathematics; the law's Ints.
-/
namespace Go.Proofs.YtgnjgpplelakkaaGreat
open Go.RowKit

/-- The numbers of the parts that are variables. -/
def pvs (l : List Part) : List Int := (l.filter (fun q => q.2.isVar)).map (fun q => q.2.v)
theorem pvs_snoc (l : List Part) (q : Part) : pvs (l ++ [q]) = pvs l ++ (if q.2.isVar then [q.2.v] else []) := by
  unfold pvs
  rw [List.filter_append, List.map_append]
  cases h : q.2.isVar <;> simp [h]
theorem pvs_append (l m : List Part) : pvs (l ++ m) = pvs l ++ pvs m := by simp [pvs]
theorem pvs_len (l : List Part) : (pvs l).length ≤ l.length := by
  unfold pvs
  rw [List.length_map]
  exact List.length_filter_le _ _

theorem vs_parts (t : T) : ∀ pl, pvs (t.parts pl) = t.vs := by
  induction t using T.ind with
  | _ t ih =>
    intro pl
    have h : ∀ (l : List T) (i : Nat), (∀ a ∈ l, a ∈ t.args) → pvs (T.parts.kids l pl i) = (l.map T.vs).flatten := by
      intro l
      induction l with
      | nil => intro i _; rfl
      | cons a r ihl =>
        intro i hm
        have h1 := ih a (hm a (by simp)) (pl ++ [(i : Int)])
        have h2 := ihl (i + 1) (fun b hb => hm b (by simp [hb]))
        simp only [T.parts.kids, List.map_cons, List.flatten_cons]
        rw [pvs_append, h1, h2]
    rw [t.parts_eq, t.vs_eq, ← h t.args 0 (fun _ h => h)]
    have e : pvs ((pl, t) :: T.parts.kids t.args pl 0) = pvs [(pl, t)] ++ pvs (T.parts.kids t.args pl 0) := pvs_append [(pl, t)] _
    rw [e]
    congr 1
    have e3 : pvs [(pl, t)] = if t.isVar then [t.v] else [] := pvs_snoc [] (pl, t)
    rw [e3]
    unfold T.isVar
    by_cases h0 : t.fn.size = 0
    · rw [if_pos (decide_eq_true h0), if_pos h0]
    · rw [if_neg (by rw [decide_eq_false h0]; simp), if_neg h0]

/-- Of a list that never falls Compact makes one that rises. -/
theorem upto_rise (d : Array Int) (hd : ∀ i j, i < j → j < d.size → d[i]! ≤ d[j]!) : ∀ m, m + 1 ≤ d.size →
    Rise (Lib.compactUpTo d (m + 1)) ∧ (∀ z, z ∈ Lib.compactUpTo d (m + 1) ↔ ∃ j, j < m + 1 ∧ d[j]! = z) := by
  intro m
  induction m with
  | zero =>
    intro _
    have e : Lib.compactUpTo d 1 = [d[0]!] := by
      rw [Lib.compactUpTo_succ]
      simp [Lib.compactUpTo, Lib.keeps]
    rw [e]
    refine ⟨by simp, fun z => ?_⟩
    simp only [List.mem_singleton]
    refine ⟨fun h => ⟨0, by omega, h.symm⟩, fun ⟨j, hj, hz⟩ => ?_⟩
    have : j = 0 := by omega
    subst this
    exact hz.symm
  | succ m ih =>
    intro hm
    obtain ⟨h1, h2⟩ := ih (by omega)
    rw [Lib.compactUpTo_succ]
    have hle := hd m (m + 1) (by omega) (by omega)
    have hall : ∀ z ∈ Lib.compactUpTo d (m + 1), z ≤ d[m]! := by
      intro z hz
      obtain ⟨j, hj, rfl⟩ := (h2 z).1 hz
      by_cases e : j = m
      · subst e; exact Int.le_refl _
      · exact hd j m (by omega) (by omega)
    by_cases hk : d[m + 1]! = d[m]!
    · have hkk : Lib.keeps d (m + 1) = false := by simp [Lib.keeps, hk]
      rw [hkk]
      simp only [Bool.false_eq_true, if_false, List.append_nil]
      refine ⟨h1, fun z => (h2 z).trans ⟨fun ⟨j, hj, hz⟩ => ⟨j, by omega, hz⟩, fun ⟨j, hj, hz⟩ => ?_⟩⟩
      by_cases e : j = m + 1
      · subst e; exact ⟨m, by omega, by rw [← hk]; exact hz⟩
      · exact ⟨j, by omega, hz⟩
    · have hkk : Lib.keeps d (m + 1) = true := by simp [Lib.keeps, hk]
      rw [hkk]
      simp only [if_true]
      refine ⟨rise_snoc h1 (fun o ho => by have := hall o ho; omega), fun z => ?_⟩
      simp only [List.mem_append, List.mem_singleton]
      rw [h2 z]
      constructor
      · rintro (⟨j, hj, hz⟩ | hz)
        · exact ⟨j, by omega, hz⟩
        · exact ⟨m + 1, by omega, hz.symm⟩
      · rintro ⟨j, hj, hz⟩
        by_cases e : j = m + 1
        · subst e; exact .inr hz.symm
        · exact .inl ⟨j, by omega, hz⟩

/-- Sorting and taking the doubles away makes what the document's way makes. -/
theorem sorted_same (l : List Int) : Lib.compact (l.mergeSort fun x y => decide (x ≤ y)) = l.foldl wth [] := by
  obtain ⟨k1, k2⟩ := wths_rise l [] List.Pairwise.nil
  have hp : (l.mergeSort fun x y => decide (x ≤ y)).Pairwise (fun a b => decide (a ≤ b) = true) :=
    List.pairwise_mergeSort (fun a b c h1 h2 => by simp at *; omega) (fun a b => by simp; omega) l
  have hperm := List.mergeSort_perm l (fun x y => decide (x ≤ y))
  obtain ⟨d, hd⟩ : ∃ d, l.mergeSort (fun x y => decide (x ≤ y)) = d := ⟨_, rfl⟩
  rw [hd] at hp hperm ⊢
  clear hd
  by_cases h0 : d.length = 0
  · have e : d = [] := List.eq_nil_of_length_eq_zero h0
    subst e
    have e2 : l = [] := by
      have := hperm.length_eq
      exact List.eq_nil_of_length_eq_zero this.symm
    subst e2
    rfl
  · obtain ⟨g1, g2⟩ := upto_rise d.toArray (fun i j hij hj => by
      have hj' : j < d.length := by simpa using hj
      have := List.pairwise_iff_getElem.1 hp i j (by omega) hj' hij
      have hi' : i < d.length := by omega
      simpa [hi', hj'] using this) (d.length - 1) (by simp; omega)
    have e1 : d.length - 1 + 1 = d.length := by omega
    rw [e1] at g1 g2
    refine rise_eq _ _ g1 k1 fun z => ?_
    rw [k2 z, show (z ∈ Lib.compact d ↔ _) from g2 z, ← hperm.mem_iff]
    simp only [List.not_mem_nil, false_or]
    constructor
    · rintro ⟨j, hj, rfl⟩
      simp [hj]
    · intro hz
      obtain ⟨j, hj, e⟩ := List.mem_iff_getElem.1 hz
      exact ⟨j, hj, by simp [hj, e]⟩


end Go.Proofs.YtgnjgpplelakkaaGreat

/-
  slices.Sort and slices.Compact at ints: the library's contracts at this program.
-/
namespace Go.Proofs.YtgnjgpplelakkaaGreat
open Go.Shelf
def Tryz.laysNm220_ren : Go.Shelf.Ren := ⟨fun | 20 => 76 | n => n, fun | 22 => 72 | 3 => 3 | 4 => 4 | 0 => 0 | n => n, fun | n => n⟩
theorem Tryz.laysNm220 : Go.Proofs.Lays2.n20 Tryz.prog Tryz.laysNm220_ren := {
  mixed := by kernel_rfl
  f20 := Tryz.func76.trans (congrArg some (by kernel_rfl))
  t0 := Tryz.underlying0
  a0 := Tryz.isAgg0
  z0 := Tryz.sizeOf0
  v0 := Tryz.zeroValue0
  t3 := Tryz.underlying3
  a3 := Tryz.isAgg3
  z3 := Tryz.sizeOf3
  v3 := Tryz.zeroValue3
  t4 := Tryz.underlying4
  a4 := Tryz.isAgg4
  z4 := Tryz.sizeOf4
  v4 := Tryz.zeroValue4
  t22 := Tryz.underlying72
  a22 := Tryz.isAgg72
  z22 := Tryz.sizeOf72
  v22 := Tryz.zeroValue72
  i3 := by kernel_rfl }
open Go.RowKit Go.Lib Go.Sort in
open Go.RowKit Go.Lib Go.Sort in
theorem Tryz.slices_Compact_int (blk off cap : Nat) (zs : List Int) (w : World) (hH : Holds (Value.int .i64) w blk off zs.toArray) (hsz : zs.length ≤ 9223372036854775807) (hcap : zs.length ≤ cap) :
    Calls Tryz.prog 76 #[.slice (some ⟨blk, off, none⟩) zs.length cap] w fun e w' => e = .returned (.slice (some ⟨blk, off, none⟩) (Lib.compact zs).length cap) ∧ ∃ q, w' = putRow (Value.int .i64) (Sort.ahead w q) blk off (Lib.compact zs ++ List.replicate (zs.length - (Lib.compact zs).length) 0).toArray := Any.slices_Compact_int Tryz.laysNm220 blk off cap zs w hH hsz hcap
open Go.RowKit Go.Lib Go.Sort in
theorem Tryz.slices_Compact_int_empty (a : Option Addr) (cap : Nat) (w : World) :
    Calls Tryz.prog 76 #[.slice a 0 cap] w fun e w' => e = .returned (.slice a 0 cap) ∧ w' = w := Any.slices_Compact_int_empty Tryz.laysNm220 a cap w
def Tryz.lays189_ren : Go.Shelf.Ren := ⟨fun | 189 => 75 | 125 => 89 | 257 => 88 | 128 => 101 | 129 => 102 | 294 => 92 | 295 => 93 | 296 => 94 | 297 => 95 | 298 => 96 | 299 => 97 | 216 => 98 | 300 => 99 | 301 => 100 | 328 => 103 | 329 => 104 | 330 => 105 | 331 => 106 | 332 => 107 | 215 => 77 | 343 => 108 | n => n, fun | 28 => 72 | 3 => 3 | 46 => 102 | 0 => 0 | 51 => 119 | 53 => 121 | 4 => 4 | 183 => 112 | 182 => 111 | 131 => 74 | 5 => 5 | 9 => 9 | 218 => 122 | 222 => 126 | 228 => 128 | 229 => 129 | n => n, fun | n => n⟩
theorem Tryz.lays189 : Go.Proofs.Lays.n189 Tryz.prog Tryz.lays189_ren := {
  mixed := by kernel_rfl
  f125 := Tryz.func89.trans (congrArg some (by kernel_rfl))
  f128 := Tryz.func101.trans (congrArg some (by kernel_rfl))
  f129 := Tryz.func102.trans (congrArg some (by kernel_rfl))
  f189 := Tryz.func75.trans (congrArg some (by kernel_rfl))
  f215 := Tryz.func77.trans (congrArg some (by kernel_rfl))
  f216 := Tryz.func98.trans (congrArg some (by kernel_rfl))
  f257 := Tryz.func88.trans (congrArg some (by kernel_rfl))
  f294 := Tryz.func92.trans (congrArg some (by kernel_rfl))
  f295 := Tryz.func93.trans (congrArg some (by kernel_rfl))
  f296 := Tryz.func94.trans (congrArg some (by kernel_rfl))
  f297 := Tryz.func95.trans (congrArg some (by kernel_rfl))
  f298 := Tryz.func96.trans (congrArg some (by kernel_rfl))
  f299 := Tryz.func97.trans (congrArg some (by kernel_rfl))
  f300 := Tryz.func99.trans (congrArg some (by kernel_rfl))
  f301 := Tryz.func100.trans (congrArg some (by kernel_rfl))
  f328 := Tryz.func103.trans (congrArg some (by kernel_rfl))
  f329 := Tryz.func104.trans (congrArg some (by kernel_rfl))
  f330 := Tryz.func105.trans (congrArg some (by kernel_rfl))
  f331 := Tryz.func106.trans (congrArg some (by kernel_rfl))
  f332 := Tryz.func107.trans (congrArg some (by kernel_rfl))
  f343 := Tryz.func108.trans (congrArg some (by kernel_rfl))
  t0 := Tryz.underlying0
  a0 := Tryz.isAgg0
  z0 := Tryz.sizeOf0
  v0 := Tryz.zeroValue0
  t3 := Tryz.underlying3
  a3 := Tryz.isAgg3
  z3 := Tryz.sizeOf3
  v3 := Tryz.zeroValue3
  t4 := Tryz.underlying4
  a4 := Tryz.isAgg4
  z4 := Tryz.sizeOf4
  v4 := Tryz.zeroValue4
  t5 := Tryz.underlying5
  a5 := Tryz.isAgg5
  z5 := Tryz.sizeOf5
  v5 := Tryz.zeroValue5
  t9 := Tryz.underlying9
  a9 := Tryz.isAgg9
  z9 := Tryz.sizeOf9
  v9 := Tryz.zeroValue9
  t28 := Tryz.underlying72
  a28 := Tryz.isAgg72
  z28 := Tryz.sizeOf72
  v28 := Tryz.zeroValue72
  t46 := Tryz.underlying102
  a46 := Tryz.isAgg102
  z46 := Tryz.sizeOf102
  v46 := Tryz.zeroValue102
  t51 := Tryz.underlying119
  a51 := Tryz.isAgg119
  z51 := Tryz.sizeOf119
  v51 := Tryz.zeroValue119
  t53 := Tryz.underlying121
  a53 := Tryz.isAgg121
  z53 := Tryz.sizeOf121
  v53 := Tryz.zeroValue121
  t131 := Tryz.underlying74
  a131 := Tryz.isAgg74
  z131 := Tryz.sizeOf74
  v131 := Tryz.zeroValue74
  t182 := Tryz.underlying111
  a182 := Tryz.isAgg111
  z182 := Tryz.sizeOf111
  v182 := Tryz.zeroValue111
  t183 := Tryz.underlying112
  a183 := Tryz.isAgg112
  z183 := Tryz.sizeOf112
  v183 := Tryz.zeroValue112
  t218 := Tryz.underlying122
  a218 := Tryz.isAgg122
  z218 := Tryz.sizeOf122
  v218 := Tryz.zeroValue122
  t222 := Tryz.underlying126
  a222 := Tryz.isAgg126
  z222 := Tryz.sizeOf126
  v222 := Tryz.zeroValue126
  t228 := Tryz.underlying128
  a228 := Tryz.isAgg128
  z228 := Tryz.sizeOf128
  v228 := Tryz.zeroValue128
  t229 := Tryz.underlying129
  a229 := Tryz.isAgg129
  z229 := Tryz.sizeOf129
  v229 := Tryz.zeroValue129 }
open Go.RowKit Go.Sort in
theorem Tryz.slices_Sort_int_none (p : Option Addr) (cap : Nat) (w : World) :
    Calls Tryz.prog 75 #[.slice p 0 cap] w fun e w' => e = .returned (.tuple #[]) ∧ w' = w := Any.slices_Sort_int_none Tryz.lays189 p cap w
open Go.RowKit Go.Sort in
theorem Tryz.slices_Sort_int (blk off cap : Nat) (zs : List Int) (w : World) (hH : Holds (Value.int .i64) w blk off zs.toArray) (hblk : blk < w.heap.size) (hsz : zs.length < 4611686018427387904) :
    Calls Tryz.prog 75 #[.slice (some ⟨blk, off, none⟩) zs.length cap] w fun e w' =>
      e = .returned (.tuple #[]) ∧ ∃ n os, w' = grow (putRow (Value.int .i64) (Sort.ahead w n) blk off (zs.mergeSort fun x y => decide (x ≤ y)).toArray) os :=
  calls_of_every_depth fun D => AnyS.slices_Sort_int_in Tryz.lays189 D blk off cap zs w hH hblk hsz

end Go.Proofs.YtgnjgpplelakkaaGreat

/-
  term.Vars.
-/
namespace Go.Proofs.YtgnjgpplelakkaaGreat
open Go.RowKit Go.Shelf Go.Sort

theorem sort_own (base : Nat) (v : Value) (k : Nat) (xs : List Int) (w : World) (h : w.ownsRow base 3 1 v k (xs.map (Value.int .i64))) (hk : k ≤ 1048576) :
    Calls Tryz.prog 75 #[v] w fun e w' => e = .returned (.tuple #[]) ∧ w'.ownsRow base 3 1 v k ((xs.mergeSort fun x y => decide (x ≤ y)).map (Value.int .i64)) ∧ w.grownBy w' v.ownBlock := by
  have hl : xs.length = k := by simpa using h.1
  subst hl
  rcases h.2 with ⟨rfl, h0⟩ | ⟨g, cap, cur, rfl, hb, hg, hn, hm, hs, ht⟩
  · have e : xs = [] := List.eq_nil_of_length_eq_zero h0
    subst e
    refine (Tryz.slices_Sort_int_none none 0 w).mono ?_
    rintro e w' ⟨he, rfl⟩
    exact ⟨he, by simpa using h, ⟨rfl, rfl, rfl, Nat.le_refl _, fun _ _ _ => rfl⟩⟩
  · have hlt : g < w.heap.size := (Array.getElem?_eq_some_iff.1 hg).1
    have hH : Holds (Value.int .i64) w g 0 xs.toArray := holds_of_blockI hg (by simpa using ht)
    refine (Tryz.slices_Sort_int g 0 cap xs w hH hlt (by omega)).mono ?_
    rintro e w' ⟨he, n, os, rfl⟩
    exact ⟨he, ownsRow_sortedI (List.length_mergeSort xs) hb hg hn hm hs, grownBy_sortedI _⟩

theorem grownBy_put {w : World} {g n : Nat} (d : Array Int) : w.grownBy (putRow (Value.int .i64) (Sort.ahead w n) g 0 d) (some g) := by
  refine ⟨rfl, rfl, rfl, by simp [putRow, mapBlock, Sort.ahead], fun k hk hne => ?_⟩
  have : g ≠ k := fun e => hne (by rw [e])
  simp [putRow, mapBlock, Sort.ahead, Array.getElem?_modify, this]

theorem compact_own (base : Nat) (v : Value) (k : Nat) (xs : List Int) (w : World) (h : w.ownsRow base 3 1 v k (xs.map (Value.int .i64))) (hk : k ≤ 1048576) :
    Calls Tryz.prog 76 #[v] w fun e w' => ∃ v' k', e = .returned v' ∧ w'.ownsRow base 3 1 v' k' ((Lib.compact xs).map (Value.int .i64)) ∧ w.grownBy w' v.ownBlock := by
  have hl : xs.length = k := by simpa using h.1
  subst hl
  rcases h.2 with ⟨rfl, h0⟩ | ⟨g, cap, cur, rfl, hb, hg, hn, hm, hs, ht⟩
  · have e : xs = [] := List.eq_nil_of_length_eq_zero h0
    subst e
    refine (Tryz.slices_Compact_int_empty none 0 w).mono ?_
    rintro e w' ⟨he, rfl⟩
    exact ⟨_, 0, he, by simpa [Lib.compact, Lib.compactUpTo] using h, ⟨rfl, rfl, rfl, Nat.le_refl _, fun _ _ _ => rfl⟩⟩
  · have hH : Holds (Value.int .i64) w g 0 xs.toArray := holds_of_blockI hg (by simpa using ht)
    have hle := Lib.compact_length_le xs
    refine (Tryz.slices_Compact_int g 0 cap xs w hH (by omega) (by omega)).mono ?_
    rintro e w' ⟨he, q, rfl⟩
    have hc := Lib.ownsRow_putRow (q := q) (k := (Lib.compact xs).length) (ys := Lib.compact xs ++ List.replicate (xs.length - (Lib.compact xs).length) 0) h (by simp; omega) (by omega)
    rw [List.take_left] at hc
    exact ⟨_, _, he, hc, grownBy_put _⟩

end Go.Proofs.YtgnjgpplelakkaaGreat
