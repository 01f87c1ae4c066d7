/-
  Both indices in memory, step by step.
-/
import Derived.Test.YtiklbkkimmgbcaaGM
import Derived.Test.YtiklbkkimmgbcaaGF
namespace Go.Proofs.Ytiklbkkimmgbcaa
open Go.RowKit Go.Maps

/-- Both indices in memory, and blocks that stay as they are. -/
def Bo (w : World) (bx rx K : Nat) (L : List (Int × Fp)) (l : List En) (X : List (Nat × Obj)) (W : World) : Prop :=
  ∃ m1 m2 γ v, Ixs w bx m1 m2 K L γ W ∧ Dx W rx v l ∧ Apart bx m1 m2 (fps L) γ rx ∧ w.heap.size ≤ rx ∧ (∀ g, vblk v = some g → g ≠ rx ∧ w.heap.size ≤ g ∧ Apart bx m1 m2 (fps L) γ g) ∧ ∀ p ∈ X, W.heap[p.1]? = some p.2 ∧ p.1 ≠ rx ∧ Apart bx m1 m2 (fps L) γ p.1
theorem Ixs.more {w W : World} {bx m1 m2 K K' : Nat} {L : List (Int × Fp)} {γ : Fp → Nat × Nat} (h : Ixs w bx m1 m2 K L γ W) (hk : K ≤ K') : Ixs w bx m1 m2 K' L γ W := by
  obtain ⟨n, hn, hg⟩ := h.gr
  exact ⟨h.bel, h.low, h.ne, h.ids, h.fit, h.box, ⟨n, by omega, hg⟩, h.ho, h.grp, h.glow, h.gne⟩
theorem Ixs.lts {w W : World} {bx m1 m2 K : Nat} {L : List (Int × Fp)} {γ : Fp → Nat × Nat} (h : Ixs w bx m1 m2 K L γ W) : bx < W.heap.size ∧ m1 < W.heap.size ∧ m2 < W.heap.size ∧ ∀ p ∈ fps L, (γ p).1 < W.heap.size ∧ (γ p).2 < W.heap.size := by
  obtain ⟨n, hn, hg⟩ := h.gr
  exact ⟨(Array.getElem?_eq_some_iff.1 h.box).1, hg.lt, h.ho.lt, fun p hp => ⟨(Array.getElem?_eq_some_iff.1 (h.grp p hp).gb).1, (h.grp p hp).nu.lt⟩⟩
theorem Ixs.apart_new {w W : World} {bx m1 m2 K : Nat} {L : List (Int × Fp)} {γ : Fp → Nat × Nat} (h : Ixs w bx m1 m2 K L γ W) {k : Nat} (hk : W.heap.size ≤ k) : Apart bx m1 m2 (fps L) γ k := by
  obtain ⟨h1, h2, h3, h4⟩ := h.lts
  refine ⟨by omega, by omega, by omega, fun p hp => ?_⟩
  have := h4 p hp
  omega
/-- It stays where only a block that is none of its own changes. -/
theorem Ixs.only {w W W' : World} {bx m1 m2 K : Nat} {L : List (Int × Fp)} {γ : Fp → Nat × Nat} {rx : Nat} (h : Ixs w bx m1 m2 K L γ W) (ho : Only [rx] W W') (hw : w.heap.size ≤ rx) (hA : Apart bx m1 m2 (fps L) γ rx) : Ixs w bx m1 m2 K L γ W' := by
  obtain ⟨n, hn, hg⟩ := h.gr
  obtain ⟨l1, l2, l3, l4⟩ := h.lts
  have kp : ∀ k, k < W.heap.size → k ≠ rx → W'.heap[k]? = W.heap[k]? := fun k hk hne => ho.block k hk (by simpa using hne)
  refine ⟨h.bel.trans (ho.below h.bel.size (by simpa using hw)), h.low, h.ne, h.ids, h.fit, (kp bx l1 (Ne.symm hA.1)).trans h.box, ⟨n, hn, hg.same (kp m1 l2 (Ne.symm hA.2.1))⟩, h.ho.same (kp m2 l3 (Ne.symm hA.2.2.1)), fun p hp => ?_, h.glow, h.gne⟩
  exact (h.grp p hp).keep (kp _ (l4 p hp).1 (Ne.symm (hA.2.2.2 p hp).1)) (kp _ (l4 p hp).2 (Ne.symm (hA.2.2.2 p hp).2))
section
variable {w W W' : World} {bx rx K : Nat} {L M : List (Int × Fp)} {l : List En} {X : List (Nat × Obj)}
theorem Bo.keep (h : Bo w bx rx K L l X W) (hb : Below W.heap.size W W') : Bo w bx rx K L l X W' := by
  obtain ⟨m1, m2, γ, v, hI, hD, hA, hw, hv, hX⟩ := h
  exact ⟨m1, m2, γ, v, hI.keep hb, hD.keep hb, hA, hw, hv, fun p hp => ⟨(hb.block _ (Array.getElem?_eq_some_iff.1 (hX p hp).1).1).trans (hX p hp).1, (hX p hp).2⟩⟩
theorem Bo.more {K' : Nat} (h : Bo w bx rx K L l X W) (hk : K ≤ K') : Bo w bx rx K' L l X W := by
  obtain ⟨m1, m2, γ, v, hI, h⟩ := h
  exact ⟨m1, m2, γ, v, hI.more hk, h⟩
theorem Bo.bel (h : Bo w bx rx K L l X W) : Below w.heap.size w W := by
  obtain ⟨m1, m2, γ, v, hI, h⟩ := h
  exact hI.bel
theorem Bo.less {X' : List (Nat × Obj)} (h : Bo w bx rx K L l X W) (hs : ∀ p ∈ X', p ∈ X) : Bo w bx rx K L l X' W := by
  obtain ⟨m1, m2, γ, v, hI, hD, hA, hw, hv, hX⟩ := h
  exact ⟨m1, m2, γ, v, hI, hD, hA, hw, hv, fun p hp => hX p (hs p hp)⟩
theorem Bo.block (h : Bo w bx rx K L l X W) {p : Nat × Obj} (hp : p ∈ X) : W.heap[p.1]? = some p.2 := by
  obtain ⟨m1, m2, γ, v, hI, hD, hA, hw, hv, hX⟩ := h
  exact (hX p hp).1
theorem Bo.add {O : Obj} (h : Bo w bx rx K L l X W) (hb : Below W.heap.size W W') (hO : W'.heap[W.heap.size]? = some O) : Bo w bx rx K L l ((W.heap.size, O) :: X) W' := by
  obtain ⟨m1, m2, γ, v, hI, hD, hA, hw, hv, hX⟩ := h
  have lrx := (Array.getElem?_eq_some_iff.1 hD.box).1
  refine ⟨m1, m2, γ, v, hI.keep hb, hD.keep hb, hA, hw, hv, fun p hp => ?_⟩
  rcases List.mem_cons.1 hp with rfl | hp
  · exact ⟨hO, by simp only; omega, hI.apart_new (Nat.le_refl _)⟩
  · exact ⟨(hb.block _ (Array.getElem?_eq_some_iff.1 (hX p hp).1).1).trans (hX p hp).1, (hX p hp).2⟩
theorem Bo.doc {l' : List En} {v' : Value} (h : Bo w bx rx K L l X W) (hD' : Dx W' rx v' l') (hg : ∀ g, vblk v' = some g → W.heap.size ≤ g) (ho : Only [rx] W W') : Bo w bx rx K L l' X W' := by
  obtain ⟨m1, m2, γ, v, hI, hD, hA, hw, hv, hX⟩ := h
  have lrx := (Array.getElem?_eq_some_iff.1 hD.box).1
  refine ⟨m1, m2, γ, v', hI.only ho hw hA, hD', hA, hw, fun g e => ?_, fun p hp => ?_⟩
  · have := hg g e
    have := hI.bel.size
    exact ⟨by omega, by omega, hI.apart_new (hg g e)⟩
  · obtain ⟨q1, q2, q3⟩ := hX p hp
    exact ⟨(ho.block _ (Array.getElem?_eq_some_iff.1 q1).1 (by simpa using q2)).trans q1, q2, q3⟩
end
theorem bo_prog {w W W' : World} {bx rx K' m1 m2 m1' m2' : Nat} {γ γ' : Fp → Nat × Nat} {v : Value} {L M : List (Int × Fp)} {l : List En} {X : List (Nat × Obj)} (hD : Dx W rx v l) (hA : Apart bx m1 m2 (fps L) γ rx) (hw : w.heap.size ≤ rx) (hv : ∀ g, vblk v = some g → g ≠ rx ∧ w.heap.size ≤ g ∧ Apart bx m1 m2 (fps L) γ g) (hX : ∀ p ∈ X, W.heap[p.1]? = some p.2 ∧ p.1 ≠ rx ∧ Apart bx m1 m2 (fps L) γ p.1)
    (hI' : Ixs w bx m1' m2' K' M γ' W') (hF : ∀ k < W.heap.size, Apart bx m1 m2 (fps L) γ k → W'.heap[k]? = W.heap[k]? ∧ Apart bx m1' m2' (fps M) γ' k) : Bo w bx rx K' M l X W' := by
  have lrx := (Array.getElem?_eq_some_iff.1 hD.box).1
  refine ⟨m1', m2', γ', v, hI', ⟨(hF rx lrx hA).1.trans hD.box, hD.row.same (fun g hg => (hF g (hD.row.blk hg) (hv g hg).2.2).1)⟩, (hF rx lrx hA).2, hw, fun g hg => ⟨(hv g hg).1, (hv g hg).2.1, (hF g (hD.row.blk hg) (hv g hg).2.2).2⟩, fun p hp => ?_⟩
  obtain ⟨q1, q2, q3⟩ := hX p hp
  have lp := (Array.getElem?_eq_some_iff.1 q1).1
  exact ⟨(hF _ lp q3).1.trans q1, q2, (hF _ lp q3).2⟩

open Classical in
/-- What an insertion answers, and leaves. -/
noncomputable def opI (id : Int) (t : T) (s : Value) (l : List En) : Int × List En := if t.rightW = 0 then (if NoId l id then (0, insE (id, t, s) l) else (43, l)) else (1, l)
open Classical in
/-- What a removal answers, and leaves. -/
noncomputable def opR (id : Int) (l : List En) : Bool × List En := if NoId l id then (false, l) else (true, l.filter (fun x => decide (x.1 ≠ id)))
theorem exists_id {l : List En} {id : Int} (h : ¬ NoId l id) : ∃ (i : Nat) (x : En), l[i]? = some x ∧ x.1 = id := by
  unfold NoId at h
  have h2 : ∃ x, x ∈ l ∧ x.1 = id := Classical.byContradiction fun e => h (fun x hx k => e ⟨x, hx, k⟩)
  obtain ⟨x, hx, e⟩ := h2
  obtain ⟨i, hi⟩ := List.getElem?_of_mem hx
  exact ⟨i, x, hi, e⟩
theorem del_eq {l : List En} {i : Nat} {x : En} {id : Int} (hr : RiseE l) (h : l[i]? = some x) (e : x.1 = id) : l.take i ++ l.drop (i + 1) = l.filter (fun x => decide (x.1 ≠ id)) := by
  have hs := split_at h
  obtain ⟨A, hA⟩ : ∃ A, l.take i = A := ⟨_, rfl⟩
  obtain ⟨B, hB⟩ : ∃ B, l.drop (i + 1) = B := ⟨_, rfl⟩
  rw [hA, hB] at hs ⊢
  unfold RiseE at hr
  rw [hs] at hr ⊢
  simp only [List.map_append, List.map_cons] at hr
  obtain ⟨_, p2, p3⟩ := List.pairwise_append.1 hr
  have pa : ∀ y ∈ A, y.1 ≠ id := fun y hy k => by
    have : y.1 < x.1 := p3 y.1 (List.mem_map.2 ⟨y, hy, rfl⟩) x.1 (by simp)
    omega
  have pb : ∀ y ∈ B, y.1 ≠ id := fun y hy k => by
    have : x.1 < y.1 := (List.pairwise_cons.1 p2).1 y.1 (List.mem_map.2 ⟨y, hy, rfl⟩)
    omega
  rw [List.filter_append, List.filter_cons_of_neg (by simpa using e), List.filter_eq_self.2 (fun y hy => by simpa using pa y hy), List.filter_eq_self.2 (fun y hy => by simpa using pb y hy)]
theorem prog_ins {w W : World} {bx rx K : Nat} {l : List En} {X : List (Nat × Obj)} (hB : Bo w bx rx K (absE l) l X W) (hr : RiseE l) (hK : K ≤ 1048576) (hlen : l.length ≤ 1048576) (id : Int) (hid : Fit64 id) (t : T) (s : Value) (hsh : Short t) (ha : ArgsAt W s t.args) :
    Calls Try.prog 18 #[.pointer (some ⟨bx, 0, none⟩), .int .i64 id, tval t s] W fun e W' => e = .returned (.int .i64 (opI id t s l).1) ∧ Bo w bx rx (K + 1) (absE (opI id t s l).2) l X W' := by
  unfold opI
  by_cases h1 : t.rightW = 0
  · rw [if_pos h1]
    obtain ⟨m1, m2, γ, v, hI, hD, hA, hw, hv, hX⟩ := hB
    by_cases h2 : NoId l id
    · rw [if_pos h2]
      refine (insert_ok w bx m1 m2 K hK (absE l) (absE (insE (id, t, s) l)) γ id hid t (insE_add (e := (id, t, s)) hr h2) (by rw [absE_len]; exact hlen) s h1 hsh W hI ha).mono ?_
      rintro e W' ⟨γ', rfl, hI', hF⟩
      exact ⟨rfl, bo_prog hD hA hw hv hX hI' hF⟩
    · rw [if_neg h2]
      obtain ⟨i, x, hx, hxe⟩ := exists_id h2
      refine (insert_twice w bx m1 m2 K (absE l) γ id hid _ (look_abs_some hr (List.mem_of_getElem? hx) hxe) t s h1 hsh W hI ha).mono ?_
      rintro e W' ⟨rfl, hb⟩
      exact ⟨rfl, (Bo.keep ⟨m1, m2, γ, v, hI, hD, hA, hw, hv, hX⟩ hb).more (by omega)⟩
  · rw [if_neg h1]
    refine (insert_wrong bx id t s W h1 hsh ha).mono ?_
    rintro e W' ⟨rfl, hb⟩
    exact ⟨rfl, (hB.keep hb).more (by omega)⟩
theorem doc_ins {w W : World} {bx rx K : Nat} {L : List (Int × Fp)} {l : List En} {X : List (Nat × Obj)} (hB : Bo w bx rx K L l X W) (hlen : l.length ≤ 1048576) (hones : ∀ x ∈ l, x.2.2.oneCell' = true) (id : Int) (t : T) (s : Value) (ha : ArgsAt W s t.args) :
    Calls Try.prog 19 #[.pointer (some ⟨rx, 0, none⟩), .int .i64 id, tval t s] W fun e W' => e = .returned (.int .i64 (opI id t s l).1) ∧ Bo w bx rx K L (opI id t s l).2 X W' := by
  unfold opI
  by_cases h1 : t.rightW = 0
  · rw [if_pos h1]
    have hB' := hB
    obtain ⟨m1, m2, γ, v, hI, hD, hA, hw, hv, hX⟩ := hB
    refine (rinsert_any rx v l hlen hones id t s h1 W hD ha).mono ?_
    rintro e W' (⟨⟨x, hx, hxe⟩, rfl, hb⟩ | ⟨hn, rfl, v', hD', hg, ho⟩)
    · rw [if_neg (fun h => h x hx hxe)]
      exact ⟨rfl, hB'.keep hb⟩
    · rw [if_pos hn]
      exact ⟨rfl, hB'.doc hD' hg ho⟩
  · rw [if_neg h1]
    refine (rinsert_wrong rx id t s W h1 ha).mono ?_
    rintro e W' ⟨rfl, hb⟩
    exact ⟨rfl, hB.keep hb⟩
theorem prog_rem {w W : World} {bx rx K : Nat} {l : List En} {X : List (Nat × Obj)} (hB : Bo w bx rx K (absE l) l X W) (hr : RiseE l) (id : Int) (hid : Fit64 id) :
    Calls Try.prog 20 #[.pointer (some ⟨bx, 0, none⟩), .int .i64 id] W fun e W' => e = .returned (.int .i64 (if (opR id l).1 then 0 else 4)) ∧ Bo w bx rx K (absE (opR id l).2) l X W' := by
  have hB' := hB
  obtain ⟨m1, m2, γ, v, hI, hD, hA, hw, hv, hX⟩ := hB
  unfold opR
  by_cases h : NoId l id
  · rw [if_pos h]
    refine (remove_gone w bx m1 m2 K (absE l) γ id hid (look_abs_none h) W hI).mono ?_
    rintro e W' ⟨rfl, hb⟩
    exact ⟨rfl, hB'.keep hb⟩
  · rw [if_neg h]
    obtain ⟨i, x, hx, hxe⟩ := exists_id h
    have hadd := del_add hr hx
    have hrs := (del_rise hr hx).abs.ids
    rw [del_eq hr hx hxe] at hadd hrs
    rw [hxe] at hadd
    refine (remove_ok w bx m1 m2 K (absE l) _ γ id hid _ hadd hrs W hI).mono ?_
    rintro e W' ⟨m1', m2', rfl, hI', hF⟩
    exact ⟨rfl, bo_prog hD hA hw hv hX hI' hF⟩
theorem doc_rem {w W : World} {bx rx K : Nat} {L : List (Int × Fp)} {l : List En} {X : List (Nat × Obj)} (hB : Bo w bx rx K L l X W) (hr : RiseE l) (hlen : l.length ≤ 1048576) (hones : ∀ x ∈ l, x.2.2.oneCell' = true) (id : Int) :
    Calls Try.prog 21 #[.pointer (some ⟨rx, 0, none⟩), .int .i64 id] W fun e W' => e = .returned (.bool (opR id l).1) ∧ Bo w bx rx K L (opR id l).2 X W' := by
  have hB' := hB
  obtain ⟨m1, m2, γ, v, hI, hD, hA, hw, hv, hX⟩ := hB
  unfold opR
  refine (rremove_any rx v l hlen hones id W hD).mono ?_
  rintro e W' (⟨hn, rfl, hb⟩ | ⟨rfl, i, x, hx, hxe, v', hD', hg, ho⟩)
  · rw [if_pos hn]
    exact ⟨rfl, hB'.keep hb⟩
  · rw [if_neg (fun h => h x (List.mem_of_getElem? hx) hxe)]
    rw [del_eq hr hx hxe] at hD'
    exact ⟨rfl, hB'.doc hD' hg ho⟩

/-- What the document's index keeps. -/
structure Good (w : World) (l : List En) : Prop where
  rise : RiseE l
  args : ∀ x ∈ l, ArgsAt w x.2.2 x.2.1.args
theorem Good.ones {w : World} {l : List En} (h : Good w l) : ∀ x ∈ l, x.2.2.oneCell' = true := fun x hx => by
  obtain ⟨a, c, e, _⟩ := (h.args x hx).slice
  rw [e]; rfl
theorem Good.ins {w : World} {l : List En} {id : Int} {t : T} {s : Value} (h : Good w l) (ha : ArgsAt w s t.args) : Good w (opI id t s l).2 ∧ (opI id t s l).2.length ≤ l.length + 1 := by
  unfold opI
  split
  · split
    · rename_i _ hn
      refine ⟨⟨insE_rise h.rise hn, fun x hx => ?_⟩, by simp only; rw [insE_len h.rise hn]; omega⟩
      rcases insE_mem h.rise hn hx with rfl | hx
      · exact ha
      · exact h.args x hx
    · exact ⟨h, by simp only; omega⟩
  · exact ⟨h, by simp only; omega⟩
theorem Good.rem {w : World} {l : List En} {id : Int} (h : Good w l) : Good w (opR id l).2 ∧ (opR id l).2.length ≤ l.length := by
  unfold opR
  split
  · exact ⟨h, Nat.le_refl _⟩
  · exact ⟨⟨List.Pairwise.sublist (List.Sublist.map _ List.filter_sublist) h.rise, fun x hx => h.args x ((List.mem_filter.1 hx).1)⟩, List.length_filter_le _ _⟩
/-- What either tells. -/
noncomputable def tells1 (t : T) (l : List En) : List Int := if t.rightW = 0 then finds (fun m => fitB uniB m (feats t)) l else []
noncomputable def tells2 (t : T) (l : List En) : List Int := if t.rightW = 0 then finds (fun m => fitB matB m (feats t)) l else []
noncomputable def tells3 (t : T) (l : List En) : List Int := if t.rightW = 0 then finds (fun m => fitB matB (feats t) m) l else []
theorem prog_t1 {w W : World} {bx rx K : Nat} {l : List En} {X : List (Nat × Obj)} (hB : Bo w bx rx K (absE l) l X W) (hr : RiseE l) (hlen : l.length ≤ 1048576) (t : T) (s : Value) (hsh : Short t) (ha : ArgsAt W s t.args) :
    Calls Try.prog 24 #[.pointer (some ⟨bx, 0, none⟩), tval t s] W fun e W' => ∃ v, e = .returned v ∧ RowAt (fun k : Int => .int .i64 k) W' v (tells1 t l) ∧ Below W.heap.size W W' := by
  obtain ⟨m1, m2, γ, v, hI, _⟩ := hB
  have h := unifiable_all w bx m1 m2 K (absE l) γ hr.abs (by rw [absE_len]; exact hlen) t s hsh W hI ha
  rw [fitIds_abs] at h
  exact h
theorem doc_t1 {w W : World} {bx rx K : Nat} {L : List (Int × Fp)} {l : List En} {X : List (Nat × Obj)} (hB : Bo w bx rx K L l X W) (hG : Good w l) (hlen : l.length ≤ 1048576) (t : T) (s : Value) (ha : ArgsAt W s t.args) :
    Calls Try.prog 25 #[.pointer (some ⟨rx, 0, none⟩), tval t s, .int .i64 1] W fun e W' => ∃ v, e = .returned v ∧ RowAt (fun k : Int => .int .i64 k) W' v (tells1 t l) ∧ Below W.heap.size W W' := by
  have hb := hB.bel
  obtain ⟨m1, m2, γ, v, hI, hD, _⟩ := hB
  have h := find1_any rx v l hlen t s W hD (fun x hx => ArgsAt.keep hb (Nat.le_refl _) (hG.args x hx)) ha
  have e : (fun m => fitB uniB (feats t) m) = fun m => fitB uniB m (feats t) := funext fun m => fitB_comm _ _
  rw [e] at h
  exact h
theorem prog_t2 {w W : World} {bx rx K : Nat} {l : List En} {X : List (Nat × Obj)} (hB : Bo w bx rx K (absE l) l X W) (hr : RiseE l) (hlen : l.length ≤ 1048576) (t : T) (s : Value) (hsh : Short t) (ha : ArgsAt W s t.args) :
    Calls Try.prog 26 #[.pointer (some ⟨bx, 0, none⟩), tval t s] W fun e W' => ∃ v, e = .returned v ∧ RowAt (fun k : Int => .int .i64 k) W' v (tells2 t l) ∧ Below W.heap.size W W' := by
  obtain ⟨m1, m2, γ, v, hI, _⟩ := hB
  have h := generals_all w bx m1 m2 K (absE l) γ hr.abs (by rw [absE_len]; exact hlen) t s hsh W hI ha
  rw [fitIds_abs] at h
  exact h
theorem doc_t2 {w W : World} {bx rx K : Nat} {L : List (Int × Fp)} {l : List En} {X : List (Nat × Obj)} (hB : Bo w bx rx K L l X W) (hG : Good w l) (hlen : l.length ≤ 1048576) (t : T) (s : Value) (ha : ArgsAt W s t.args) :
    Calls Try.prog 25 #[.pointer (some ⟨rx, 0, none⟩), tval t s, .int .i64 2] W fun e W' => ∃ v, e = .returned v ∧ RowAt (fun k : Int => .int .i64 k) W' v (tells2 t l) ∧ Below W.heap.size W W' := by
  have hb := hB.bel
  obtain ⟨m1, m2, γ, v, hI, hD, _⟩ := hB
  have h := find2_any rx v l hlen t s W hD (fun x hx => ArgsAt.keep hb (Nat.le_refl _) (hG.args x hx)) ha
  exact h
theorem prog_t3 {w W : World} {bx rx K : Nat} {l : List En} {X : List (Nat × Obj)} (hB : Bo w bx rx K (absE l) l X W) (hr : RiseE l) (hlen : l.length ≤ 1048576) (t : T) (s : Value) (hsh : Short t) (ha : ArgsAt W s t.args) :
    Calls Try.prog 27 #[.pointer (some ⟨bx, 0, none⟩), tval t s] W fun e W' => ∃ v, e = .returned v ∧ RowAt (fun k : Int => .int .i64 k) W' v (tells3 t l) ∧ Below W.heap.size W W' := by
  obtain ⟨m1, m2, γ, v, hI, _⟩ := hB
  have h := instances_all w bx m1 m2 K (absE l) γ hr.abs (by rw [absE_len]; exact hlen) t s hsh W hI ha
  rw [fitIds_abs] at h
  exact h
theorem doc_t3 {w W : World} {bx rx K : Nat} {L : List (Int × Fp)} {l : List En} {X : List (Nat × Obj)} (hB : Bo w bx rx K L l X W) (hG : Good w l) (hlen : l.length ≤ 1048576) (t : T) (s : Value) (ha : ArgsAt W s t.args) :
    Calls Try.prog 25 #[.pointer (some ⟨rx, 0, none⟩), tval t s, .int .i64 3] W fun e W' => ∃ v, e = .returned v ∧ RowAt (fun k : Int => .int .i64 k) W' v (tells3 t l) ∧ Below W.heap.size W W' := by
  have hb := hB.bel
  obtain ⟨m1, m2, γ, v, hI, hD, _⟩ := hB
  have h := find3_any rx v l hlen t s W hD (fun x hx => ArgsAt.keep hb (Nat.le_refl _) (hG.args x hx)) ha
  exact h

end Go.Proofs.Ytiklbkkimmgbcaa
