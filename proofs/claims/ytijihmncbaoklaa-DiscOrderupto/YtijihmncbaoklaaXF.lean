import Derived.Test.YtijihmncbaoklaaXC
import Derived.Test.YtijihmncbaoklaaVK

/-
  A term taken out of a tree: plain mathematics; the memory behind the two deletes.
-/
namespace Go.Proofs.Ytijihmncbaoklaa
open Go.RowKit Go.Maps

def remE (es : List Kpt) (id : Int) : List Kpt := es.filter fun e => decide (e.1 ≠ id)
theorem remE_mem {es : List Kpt} {id : Int} {e : Kpt} : e ∈ remE es id ↔ e ∈ es ∧ e.1 ≠ id := by simp [remE]

theorem filt_len : ∀ {l : List Int} {z : Int}, l.Nodup → z ∈ l → (l.filter fun x => decide (x ≠ z)).length + 1 = l.length
  | [], _, _, h => by cases h
  | a :: r, z, hn, hm => by
    rw [List.nodup_cons] at hn
    by_cases h : a = z
    · subst h
      rw [List.filter_cons_of_neg (by simp), List.filter_eq_self.2 (fun x hx => by simpa using (fun (e : x = a) => hn.1 (e ▸ hx)))]
      rfl
    · have hm' : z ∈ r := by
        rcases List.mem_cons.1 hm with e | e
        · exact absurd e.symm h
        · exact e
      have := filt_len hn.2 hm'
      rw [List.filter_cons_of_pos (by simpa using h), List.length_cons, List.length_cons]
      omega

theorem remE_ids (es : List Kpt) (id : Int) : (remE es id).map (·.1) = (es.map (·.1)).filter fun x => decide (x ≠ id) := by
  unfold remE
  rw [List.filter_map]
  rfl
theorem remE_len {es : List Kpt} {id : Int} (hn : (es.map (·.1)).Nodup) (hm : id ∈ es.map (·.1)) : (remE es id).length + 1 = es.length := by
  have := filt_len hn hm
  rw [← remE_ids] at this
  simpa using this

open Classical in
theorem numsOf_rem (es : List Kpt) (id : Int) (p : Path) : numsOf (remE es id) p = (numsOf es p).filter fun x => decide (x ≠ id) := by
  unfold numsOf remE
  rw [List.filter_map, List.filter_filter, List.filter_filter]
  congr 1
  refine List.filter_congr fun x _ => ?_
  simp only [Function.comp]
  rw [Bool.and_comm]

theorem numsOf_nodup {es : List Kpt} (hn : (es.map (·.1)).Nodup) (p : Path) : (numsOf es p).Nodup := by
  unfold numsOf
  exact hn.sublist (List.filter_sublist.map _)

theorem numM_rem {l : List Int} {id : Int} : numM (l.filter fun x => decide (x ≠ id)) = del (numM l) (.int .i64 id) := by
  funext v
  unfold del
  by_cases hv : v = .int .i64 id
  · subst hv
    simp [numM]
  · rw [if_neg hv]
    cases v with
    | int k x =>
      cases k <;> try rfl
      have hx : ¬ x = id := fun e => hv (by rw [e])
      simp [numM, hx]
    | _ => rfl

theorem tmM_rem {na : Path → Nat} {es : List Kpt} {id : Int} : tmM na (remE es id) = del (tmM na es) (.int .i64 id) := by
  funext v
  unfold del
  by_cases hv : v = .int .i64 id
  · subst hv
    rw [if_pos rfl]
    exact tmM_none fun e he => (remE_mem.1 he).2
  · rw [if_neg hv]
    cases v with
    | int k x =>
      cases k <;> try rfl
      have hx : ¬ x = id := fun e => hv (by rw [e])
      unfold tmM remE
      simp only
      rw [List.find?_filter]
      congr 2
      funext e
      by_cases h : e.1 = x
      · have : e.1 ≠ id := fun e' => hx (h ▸ e')
        simp [h, hx]
      · simp [h]
    | _ => rfl

/-- What lies on the way to the end of a kept term. -/
def OnWay (es : List Kpt) (q : Path) : Prop := ∃ e ∈ es, q <+: e.2.1.path
theorem onWay_fam {es : List Kpt} (hne : es ≠ []) : Fam (OnWay es) (numsOf es) where
  root := by
    cases es with
    | nil => exact absurd rfl hne
    | cons e r => exact ⟨e, by simp, List.nil_prefix⟩
  down p s := fun ⟨e, he, h⟩ => ⟨e, he, (List.prefix_append p [s]).trans h⟩
  num_in q hq := by
    obtain ⟨z, hz⟩ := List.exists_mem_of_ne_nil _ hq
    obtain ⟨e, he, h1, _⟩ := numsOf_mem.1 hz
    exact ⟨e, he, h1 ▸ List.prefix_rfl⟩
  up q := by
    rintro ⟨e, he, ⟨r, hr⟩⟩
    cases r with
    | nil =>
      left
      intro h0
      have : e.1 ∈ numsOf es q := numsOf_mem.2 ⟨e, he, by rw [← hr]; simp, rfl⟩
      rw [h0] at this
      cases this
    | cons s r => exact .inr ⟨s, e, he, ⟨r, by rw [← hr]; simp⟩⟩

/-- How many nodes there are at most. -/
theorem count_len {es : List Kpt} {P : List Path} (hn : P.Nodup) (hm : ∀ q, q ∈ P ↔ OnWay es q) (hl : ∀ e ∈ es, e.2.1.path.length ≤ 4000) : P.length ≤ 4001 * es.length := by
  have h1 : P.length ≤ (es.flatMap fun e => (List.range (e.2.1.path.length + 1)).map fun k => e.2.1.path.take k).length := by
    refine nodup_lenP _ _ hn (fun q hq => ?_)
    obtain ⟨e, he, hp⟩ := (hm q).1 hq
    refine List.mem_flatMap.2 ⟨e, he, List.mem_map.2 ⟨q.length, List.mem_range.2 (by have := hp.length_le; omega), ?_⟩⟩
    exact (List.prefix_iff_eq_take.1 hp).symm
  refine Nat.le_trans h1 ?_
  clear h1 hm hn
  induction es with
  | nil => simp
  | cons e r ih =>
    have h2 := ih (fun x hx => hl x (by simp [hx]))
    have h3 := hl e (by simp)
    rw [List.flatMap_cons, List.length_append]
    simp only [List.length_map, List.length_range, List.length_cons] at h2 ⊢
    omega

end Go.Proofs.Ytijihmncbaoklaa

/-
  Remove.
-/
namespace Go.Proofs.Ytijihmncbaoklaa
open Go.RowKit Go.Maps

/-- Remove of a number that is not there: in a tree without terms. -/
theorem remove_emp {x : Nat} {W : World} (h : Emp W x) (id : Int) (hfit : Fit64 id) :
    Calls Try.prog 8 #[.pointer (some ⟨x, 0, none⟩), .int .i64 id] W fun e W' => e = .returned (.int .i64 4) ∧ Below W.heap.size W W' := by
  have c1 : W.cell? ⟨x, 1, none⟩ = some (.map none) := cell_store (vs := [_, _, _]) h rfl
  have hlk := look_nil43 id hfit W
  clear h
  go_enter Try.func8, Try.ntmps8
  go_wp2
  go_ret
  exact ⟨rfl, below_box _ _⟩

/-- Remove of a number that is not there. -/
theorem remove_gone {x : Nat} {es : List Kpt} {P : List Path} {y : Lay} {B : List Nat} {M : Nat} {W : World} (h : Dsc W x es P y B M) (id : Int) (hfit : Fit64 id) (hno : ∀ e ∈ es, e.1 ≠ id) :
    Calls Try.prog 8 #[.pointer (some ⟨x, 0, none⟩), .int .i64 id] W fun e W' => e = .returned (.int .i64 4) ∧ Below W.heap.size W W' := by
  have c1 : W.cell? ⟨x, 1, none⟩ = some (.map (some M)) := cell_store (vs := [_, _, _]) h.tre.box rfl
  have hlk := (h.mp.look keyed3 Try.underlying43 (zero49 W) (key3 hfit)).2 (tmM_none hno)
  have hlk := hlk.1
  clear h
  go_enter Try.func8, Try.ntmps8
  go_wp2
  go_ret
  exact ⟨rfl, below_box _ _⟩

/-- Remove of the last term: the tree is as new. -/
theorem remove_last {x : Nat} {e0 : Kpt} {P : List Path} {y : Lay} {B : List Nat} {M : Nat} {W : World} (h : Dsc W x [e0] P y B M) :
    Calls Try.prog 8 #[.pointer (some ⟨x, 0, none⟩), .int .i64 e0.1] W fun e W' => e = .returned (.int .i64 0) ∧ Emp W' x ∧ Only [x] W W' := by
  have c1 : W.cell? ⟨x, 1, none⟩ = some (.map (some M)) := cell_store (vs := [_, _, _]) h.tre.box rfl
  have hlk := ((h.mp.look keyed3 Try.underlying43 (zero49 W) (key3 (h.fit e0 (by simp)))).1 (entV y.na e0) (tmM_some h.ids (by simp))).1
  obtain ⟨ea, ec, hea⟩ := (h.ags e0 (by simp)).slice
  unfold entV at hlk
  rw [hea] at hlk
  obtain ⟨W1, hW1⟩ : ∃ X, W.alloc (.cells #[.int .i64 e0.2.1.v, .string e0.2.1.fn, .slice ea e0.2.1.args.length ec, .pointer (some ⟨y.na e0.2.1.path, 0, none⟩)] 49) = X := ⟨_, rfl⟩
  have b1 : Below W.heap.size W W1 := by rw [← hW1]; exact below_box _ _
  have hD1 := h.keep b1
  have hln := hD1.mp.len Try.underlying43 3
  have xl := (Array.getElem?_eq_some_iff.1 h.tre.box).1
  have x1 : W1.heap[x]? = some (.cells [Value.pointer (some ⟨y.na [], 0, none⟩), .map (some M), .int .i64 (P.length : Nat)].toArray 45 (0, 0)) := hD1.tre.box
  have d1 : W1.cell? ⟨x, 1, none⟩ = some (.map (some M)) := cell_store (vs := [_, _, _]) x1 rfl
  have d0 : W1.cell? ⟨x, 0, none⟩ = some (.pointer (some ⟨y.na [], 0, none⟩)) := cell_store (vs := [_, _, _]) x1 rfl
  have d2 : W1.cell? ⟨x, 2, none⟩ = some (.int .i64 (P.length : Nat)) := cell_store (vs := [_, _, _]) x1 rfl
  have f0 : ∀ o, W1.frozen? ⟨x, o, none⟩ = false := fun o => frozen_cells x1
  have h1 := set_any (i := 0) (v := .pointer none) x1
  have h2 := set_any (i := 1) (v := .map none) h1
  have h3 := set_any (i := 2) (v := .int .i64 0) h2
  simp only [List.set_cons_zero, List.set_cons_succ] at h1 h2 h3
  have HF : Hid (Emp (((W1.setCell ⟨x, 0, none⟩ (.pointer none)).setCell ⟨x, 1, none⟩ (.map none)).setCell ⟨x, 2, none⟩ (.int .i64 0)) x ∧ Only [x] W (((W1.setCell ⟨x, 0, none⟩ (.pointer none)).setCell ⟨x, 1, none⟩ (.map none)).setCell ⟨x, 2, none⟩ (.int .i64 0))) := by
    refine ⟨h3, ⟨b1.os, b1.tape, b1.output, by simpa using b1.size, fun k hk hn => ?_⟩⟩
    have hkx : k ≠ x := by simpa using hn
    rw [Below.heap_setCell _ ⟨x, 2, none⟩ _ k hkx, Below.heap_setCell _ ⟨x, 1, none⟩ _ k hkx, Below.heap_setCell _ ⟨x, 0, none⟩ _ k hkx]
    exact b1.block k hk
  clear h b1 hD1 x1 h1 h2 h3 hea xl
  go_enter Try.func8, Try.ntmps8
  go_upto_region 4 with fail
  try rw [hW1]
  clear hW1 hlk c1
  go_wp2
  go_ret
  exact ⟨rfl, HF.out⟩

end Go.Proofs.Ytijihmncbaoklaa

/-
  Remove of a term beside which there are others.
-/
namespace Go.Proofs.Ytijihmncbaoklaa
open Go.RowKit Go.Maps

/-- Numbers that were taken out. -/
theorem Trie.nums_out {W W' : World} {P : List Path} {num num' : Path → List Int} {y : Lay} {B : List Nat} (h : Trie W P num y B) {q : Path} (hq : q ∈ P) {b : Nat} (hb : y.ua q = some b) (hM : MapIs W' 3 b (numM (num' q)) (num' q).length) (hoth : ∀ r, r ≠ q → num' r = num r) (hg : W.grownBy W' (some b)) (hlt : ∀ r ∈ B, r < W.heap.size) : Trie W' P num' y B := by
  have hbM : MapIs W 3 b (numM (num q)) (num q).length := by have := h.nums q hq; rw [hb] at this; exact this
  have blk : ∀ r ∈ B, r ≠ b → W'.heap[r]? = W.heap[r]? := fun r hr hn => hg.block r (hlt r hr) (fun e => hn (Option.some.inj e))
  refine { h with cells := fun r hr => (blk _ (h.own r hr).1 (cells_ne_map (h.cells r hr) hbM)).trans (h.cells r hr), kid := fun r hr => ?_, nums := fun r hr => ?_ }
  · have := h.kid r hr
    cases hc : y.ca r with
    | none => rw [hc] at this; exact this
    | some b' => rw [hc] at this; exact MapIs.same this (blk b' ((h.own r hr).2.1 b' hc) (fun e => h.cu_ne r hr q hq b' hc (e ▸ hb)))
  · by_cases e : r = q
    · subst e
      rw [hb]
      exact hM
    · have := h.nums r hr
      rw [hoth r e]
      cases hc : y.ua r with
      | none => rw [hc] at this; exact this
      | some b' => rw [hc] at this; exact MapIs.same this (blk b' ((h.own r hr).2.2 b' hc) (fun e' => e (h.ua_inj r hr q hq b' hc (e' ▸ hb))))

theorem path_ok {t : T} (h : t.shape = true) : ∀ s ∈ t.path, Sym.ok s := by
  intro s hs
  obtain ⟨u, hu, rfl⟩ := List.mem_map.1 hs
  exact sub_shape t h u hu

set_option maxRecDepth 100000 in
set_option maxHeartbeats 4000000 in
theorem remove_dsc {x : Nat} {es : List Kpt} {P : List Path} {y : Lay} {B : List Nat} {M : Nat} {W : World} (h : Dsc W x es P y B M) (he2 : es.length ≤ 200) {e0 : Kpt} (he0 : e0 ∈ es) (h2 : 2 ≤ es.length) :
    Calls Try.prog 8 #[.pointer (some ⟨x, 0, none⟩), .int .i64 e0.1] W fun e W' => e = .returned (.int .i64 0) ∧ ∃ P', Dsc W' x (remE es e0.1) P' y B M ∧ Only (x :: M :: B) W W' := by
  have c1 : W.cell? ⟨x, 1, none⟩ = some (.map (some M)) := cell_store (vs := [_, _, _]) h.tre.box rfl
  have hkey := key3 (h.fit e0 he0)
  have hlk := ((h.mp.look keyed3 Try.underlying43 (zero49 W) hkey).1 (entV y.na e0) (tmM_some h.ids he0)).1
  obtain ⟨ea, ec, hea⟩ := (h.ags e0 he0).slice
  unfold entV at hlk
  rw [hea] at hlk
  have hq : e0.2.1.path ∈ P := (h.mem _).2 ⟨e0, he0, List.prefix_rfl⟩
  obtain ⟨W1, hW1⟩ : ∃ X, W.alloc (.cells #[.int .i64 e0.2.1.v, .string e0.2.1.fn, .slice ea e0.2.1.args.length ec, .pointer (some ⟨y.na e0.2.1.path, 0, none⟩)] 49) = X := ⟨_, rfl⟩
  have b1 : Below W.heap.size W W1 := by rw [← hW1]; exact below_box _ _
  have s1 : W1.heap.size = W.heap.size + 1 := by rw [← hW1]; simp
  have z1 : W1.heap[W.heap.size]? = some (.cells #[.int .i64 e0.2.1.v, .string e0.2.1.fn, .slice ea e0.2.1.args.length ec, .pointer (some ⟨y.na e0.2.1.path, 0, none⟩)] 49 (0, 0)) := by rw [← hW1]; exact (MapKept.heap_alloc _ _).1
  have hD1 := h.keep b1
  have hln := hD1.mp.len Try.underlying43 3
  have hl1 : ((es.length : Int) == 1) = false := by rw [beq_eq_false_iff_ne]; omega
  have d1 : W1.cell? ⟨x, 1, none⟩ = some (.map (some M)) := cell_store (vs := [_, _, _]) hD1.tre.box rfl
  have hmem : e0.1 ∈ es.map (·.1) := List.mem_map.2 ⟨e0, he0, rfl⟩
  have hrl := remE_len h.ids hmem
  obtain ⟨W2, hdel1, hM2, hg2⟩ := hD1.mp.drop keyed3 Try.underlying43 hkey 0
  rw [tmM_some h.ids he0, ← tmM_rem] at hM2
  have hxl := (Array.getElem?_eq_some_iff.1 h.tre.box).1
  have hMl := h.mp.lt
  have hMx : M ≠ x := (cells_ne_map h.tre.box h.mp).symm
  have k12 : ∀ k, k < W1.heap.size → k ≠ M → W2.heap[k]? = W1.heap[k]? := fun k hk hn => hg2.block k hk (fun e => hn (Option.some.inj e))
  have hT2 : Trie W2 P (numsOf es) y B := hD1.tre.tri.keep (fun r hr => k12 r (hD1.tre.blt r hr) (fun e => h.mB (e ▸ hr)))
  have hs2 := hg2.size
  have z2 := (k12 W.heap.size (by omega) (by omega)).trans z1
  have p2 : W2.cell? ⟨W.heap.size, 3, none⟩ = some (.pointer (some ⟨y.na e0.2.1.path, 0, none⟩)) := cell_store (vs := [_, _, _, _]) z2 rfl
  obtain ⟨b, hb⟩ : ∃ b, y.ua e0.2.1.path = some b := by
    cases hc : y.ua e0.2.1.path with
    | none =>
      have h3 := h.tre.tri.nums _ hq
      rw [hc] at h3
      have h4 : numsOf es e0.2.1.path = [] := h3
      have h5 : e0.1 ∈ numsOf es e0.2.1.path := numsOf_mem.2 ⟨e0, he0, rfl, rfl⟩
      rw [h4] at h5
      cases h5
    | some b => exact ⟨b, rfl⟩
  have n2 : W2.cell? ⟨y.na e0.2.1.path, 4, none⟩ = some (.map (some b)) := by
    have := cell_store (vs := [_, _, _, _, _]) (i := 4) (hT2.cells _ hq) rfl
    rw [hb] at this
    exact this
  have hb2 : MapIs W2 3 b (numM (numsOf es e0.2.1.path)) (numsOf es e0.2.1.path).length := by have := hT2.nums _ hq; rw [hb] at this; exact this
  have hin : e0.1 ∈ numsOf es e0.2.1.path := numsOf_mem.2 ⟨e0, he0, rfl, rfl⟩
  obtain ⟨W3, hdel2, hM3, hg3⟩ := hb2.drop keyed3 Try.underlying57 hkey 0
  have hsome : numM (numsOf es e0.2.1.path) (.int .i64 e0.1) = some (.agg #[]) := by simp [numM, hin]
  rw [hsome, ← numM_rem] at hM3
  have hfl := filt_len (numsOf_nodup h.ids e0.2.1.path) hin
  have hM3' : MapIs W3 3 b (numM (numsOf (remE es e0.1) e0.2.1.path)) (numsOf (remE es e0.1) e0.2.1.path).length := by
    rw [numsOf_rem]
    have : ((numsOf es e0.2.1.path).filter fun x => decide (x ≠ e0.1)).length = (numsOf es e0.2.1.path).length - 1 := by omega
    rw [this]
    exact hM3
  have blt2 : ∀ r ∈ B, r < W2.heap.size := fun r hr => Nat.lt_of_lt_of_le (hD1.tre.blt r hr) hs2
  have hT3 : Trie W3 P (numsOf (remE es e0.1)) y B := hT2.nums_out hq hb hM3' (fun r hr => by
    rw [numsOf_rem, List.filter_eq_self.2]
    intro z hz
    obtain ⟨e, he, h3, h4⟩ := numsOf_mem.1 hz
    have : z ≠ e0.1 := fun e' => hr (by rw [← h3, ids_inj h.ids he he0 (h4.trans e')])
    simpa using this) hg3 blt2
  have bB : b ∈ B := (hT2.own _ hq).2.2 b hb
  have k23 : ∀ k, k < W2.heap.size → k ≠ b → W3.heap[k]? = W2.heap[k]? := fun k hk hn => hg3.block k hk (fun e => hn (Option.some.inj e))
  have hs3 := hg3.size
  have p3 : W3.cell? ⟨W.heap.size, 3, none⟩ = some (.pointer (some ⟨y.na e0.2.1.path, 0, none⟩)) := cell_store (vs := [_, _, _, _]) ((k23 W.heap.size (by omega) (fun e => by have := h.tre.blt b bB; omega)).trans z2) rfl
  have hne : remE es e0.1 ≠ [] := fun e => by rw [e] at hrl; simp at hrl; omega
  have x3 : W3.heap[x]? = W.heap[x]? := (k23 x (by omega) (fun e => h.tre.xB (e ▸ bB))).trans ((k12 x (by omega) (Ne.symm hMx)).trans (b1.block x hxl))
  have hTre3 : Tre W3 x (.map (some M)) P (numsOf (remE es e0.1)) y B := ⟨hT3, fun r hr => Nat.lt_of_lt_of_le (blt2 r hr) hs3, x3.trans h.tre.box, h.tre.xB, fun q hq' => by rw [numsOf_rem, h.tre.zer q hq']; rfl⟩
  have o13 : Only (x :: M :: B) W W3 := ⟨hg3.os.trans (hg2.os.trans b1.os), hg3.tape.trans (hg2.tape.trans b1.tape), hg3.output.trans (hg2.output.trans b1.output), by omega, fun k hk hn => by
    have n1 : k ≠ M := fun e => hn (by simp [e])
    have n2 : k ≠ b := fun e => hn (by simp [e, bB])
    exact (k23 k (by omega) n2).trans ((k12 k (by omega) n1).trans (b1.block k hk))⟩
  have hPr : PrI W3 x (.map (some M)) (numsOf (remE es e0.1)) y B (OnWay (remE es e0.1)) e0.2.1.path P W3 := ⟨hTre3, hq, fun r => by
    rw [h.mem]
    constructor
    · rintro ⟨e, he, hp⟩
      by_cases e' : e.1 = e0.1
      · rw [ids_inj h.ids he he0 e'] at hp; exact .inr hp
      · exact .inl ⟨e, remE_mem.2 ⟨he, e'⟩, hp⟩
    · rintro (⟨e, he, hp⟩ | hp)
      · exact ⟨e, (remE_mem.1 he).1, hp⟩
      · exact ⟨e0, he0, hp⟩, Only.refl _ _⟩
  have hpr := prune_any (onWay_fam hne) hPr (fun r hr s hs => by
    obtain ⟨e, he, hp⟩ := (h.mem r).1 hr
    exact path_ok (right_zero (h.rgt e he).1 (h.rgt e he).2).1 s (hp.subset hs)) (by have := h.pln; omega)
  have HF : Hid (∀ P' W4, Tre W4 x (.map (some M)) P' (numsOf (remE es e0.1)) y B → (∀ r, r ∈ P' ↔ OnWay (remE es e0.1) r) → Only (x :: B) W3 W4 → Dsc W4 x (remE es e0.1) P' y B M ∧ Only (x :: M :: B) W W4) := fun P' W4 hT4 hm4 ho4 => by
    have o4 : Only (x :: M :: B) W W4 := o13.trans ho4 (fun r hr => .inl (by rcases List.mem_cons.1 hr with rfl | hr; simp; simp [hr]))
    have hM4 : W4.heap[M]? = W2.heap[M]? := (ho4.block M (by omega) (by simp [hMx, h.mB])).trans (k23 M (by omega) (fun e => h.mB (e ▸ bB)))
    refine ⟨⟨hT4, ?_, h.mB, ?_, fun e he => h.fit e (remE_mem.1 he).1, fun e he => ?_, fun e he => h.rgt e (remE_mem.1 he).1, hm4, ?_⟩, o4⟩
    · have := hM2.same hM4
      rw [show (remE es e0.1).length = es.length - 1 by omega]
      exact this
    · rw [remE_ids]
      exact h.ids.sublist List.filter_sublist
    · exact (h.ags e (remE_mem.1 he).1).keep o4.size (fun k hk hl => ⟨hk, o4.block k hl hk⟩)
    · refine count_len hT4.tri.nod hm4 (fun e he => ?_)
      have h5 := (right_zero (h.rgt e (remE_mem.1 he).1).1 (h.rgt e (remE_mem.1 he).1).2).2
      have h6 : e.2.1.path.length = e.2.1.pre.length := by unfold T.path; simp
      rw [h6, pre_nn]
      omega
  clear h hkey hea hq b1 s1 z1 hD1 hmem hrl hM2 hxl hMl hMx k12 hT2 hs2 z2 hb hb2 hin hM3 hsome hfl hM3' blt2 hT3 bB k23 hs3 hne x3 hTre3 o13 hPr hg2 hg3 he0
  go_enter Try.func8, Try.ntmps8
  go_upto_region 4 with fail
  try rw [hW1]
  clear hW1 hlk c1
  go_wp2_with fail
  refine hpr.mono ?_
  rintro e W4 ⟨rfl, P', t1, t2, t3, t4⟩
  obtain ⟨g1, g2⟩ := HF.out P' W4 t1 t2 t3
  clear t1 t2 t3 HF hpr
  go_wp2
  go_ret
  exact ⟨rfl, P', g1, g2⟩

end Go.Proofs.Ytijihmncbaoklaa
