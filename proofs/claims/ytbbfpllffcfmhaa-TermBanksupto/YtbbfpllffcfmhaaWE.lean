import Derived.Test.YtbbfpllffcfmhaaWC

/-
  What sweeping does to a bank's entries: mathematics.
-/
namespace Go.Proofs.Ytbbfpllffcfmhaa
open Go.RowKit Go.Maps

/-- Entries in order, their counters small. -/
def Bs (es : List Ent) (P : List Int) : Prop := Bk es P ∧ ∀ e ∈ es, e.uses ≤ 4611686018427387904

/-- One use less. -/
def decE (i : Int) (e : Ent) : Ent := if e.id = i then { e with uses := wrap64 (e.uses - 1) } else e
theorem decE_id (i : Int) (e : Ent) : (decE i e).id = e.id := by unfold decE; split <;> rfl
theorem decE_nd (i : Int) (e : Ent) : (decE i e).nd = e.nd := by unfold decE; split <;> rfl
theorem decE_kept (i : Int) (e : Ent) : (decE i e).kept = e.kept := by unfold decE; split <;> rfl
theorem dec_ids (i : Int) (es : List Ent) : (es.map (decE i)).map (·.id) = es.map (·.id) := by
  rw [List.map_map]
  exact List.map_congr_left fun e _ => decE_id i e
/-- Without one. -/
def remE (i : Int) (es : List Ent) : List Ent := es.filter fun e => decide (e.id ≠ i)
theorem mem_rem {i : Int} {es : List Ent} {e : Ent} : e ∈ remE i es ↔ e ∈ es ∧ e.id ≠ i := by simp [remE]
theorem mem_ids_rem {i j : Int} {es : List Ent} (h : j ∈ es.map (·.id)) (hn : j ≠ i) : j ∈ (remE i es).map (·.id) := by
  obtain ⟨e, he, rfl⟩ := List.mem_map.1 h
  exact List.mem_map_of_mem (mem_rem.2 ⟨he, hn⟩)

theorem rem_self : ∀ {es : List Ent} {i : Int}, i ∉ es.map (·.id) → remE i es = es
  | [], _, _ => rfl
  | x :: r, i, h => by
    have h1 : x.id ≠ i := fun e => h (by simp [e])
    have h2 := rem_self (es := r) (i := i) (fun hm => h (by simp only [List.map_cons, List.mem_cons]; exact .inr hm))
    unfold remE at h2 ⊢
    rw [List.filter_cons_of_pos (by simpa using h1), h2]
theorem rem_occ : ∀ {es : List Ent}, (es.map (·.id)).Nodup → ∀ {e : Ent}, e ∈ es → ∀ j, occ es j = occ (remE e.id es) j + e.nd.args.count j ∧ es.length = (remE e.id es).length + 1
  | [], _, _, h, _ => by cases h
  | x :: r, hn, e, he, j => by
    rw [List.map_cons, List.nodup_cons] at hn
    rcases List.mem_cons.1 he with h1 | h1
    · have h2 : remE e.id (x :: r) = r := by
        unfold remE
        rw [List.filter_cons_of_neg (by simp [h1])]
        have : remE e.id r = r := rem_self (by rw [h1]; exact hn.1)
        exact this
      rw [h2, occ_cons, h1]
      exact ⟨by omega, rfl⟩
    · have hne : x.id ≠ e.id := fun e1 => hn.1 (by rw [e1]; exact List.mem_map_of_mem h1)
      have h2 : remE e.id (x :: r) = x :: remE e.id r := by
        unfold remE
        rw [List.filter_cons_of_pos (by simpa using hne)]
      obtain ⟨h3, h4⟩ := rem_occ hn.2 h1 j
      rw [h2, occ_cons, occ_cons, List.length_cons, List.length_cons, h3]
      exact ⟨by omega, by omega⟩

theorem Bs.remove {es : List Ent} {P : List Int} (h : Bs es P) {e : Ent} (he : e ∈ es) (hu : e.uses = 0) : Bs (remE e.id es) (e.nd.args ++ P) := by
  obtain ⟨b, hs⟩ := h
  have h0 := b.use e he
  rw [hu] at h0
  have ho : occ es e.id = 0 := by omega
  have hp : P.count e.id = 0 := by omega
  have hno : ∀ e' ∈ es, e.id ∉ e'.nd.args := fun e' he' hm => by have := occ_pos he' hm; omega
  refine ⟨⟨?_, fun x hx y hy e1 => b.nds x (mem_rem.1 hx).1 y (mem_rem.1 hy).1 e1, fun x hx a ha => ?_, fun x hx => ?_, fun a ha => ?_, fun x hx => b.kpt x (mem_rem.1 hx).1, fun x hx => b.fine x (mem_rem.1 hx).1, fun x hx => b.fit x (mem_rem.1 hx).1⟩, fun x hx => hs x (mem_rem.1 hx).1⟩
  · exact List.Nodup.sublist (List.Sublist.map _ List.filter_sublist) b.nod
  · obtain ⟨q1, q2⟩ := b.arg x (mem_rem.1 hx).1 a ha
    exact ⟨mem_ids_rem q1 (fun e1 => hno x (mem_rem.1 hx).1 (e1 ▸ ha)), q2⟩
  · have h1 := b.use x (mem_rem.1 hx).1
    have h2 := (rem_occ b.nod he x.id).1
    rw [h1, h2, List.count_append]
    congr 1
    omega
  · rcases List.mem_append.1 ha with ha | ha
    · obtain ⟨q1, q2⟩ := b.arg e he a ha
      exact mem_ids_rem q1 (by omega)
    · exact mem_ids_rem (b.pnd a ha) (fun e1 => by have := List.count_pos_iff.2 ha; rw [e1] at this; omega)

theorem Bs.dec {es : List Ent} {P : List Int} {a : Int} (h : Bs es (a :: P)) : Bs (es.map (decE a)) P := by
  obtain ⟨b, hs⟩ := h
  have hu : ∀ e ∈ es, (decE a e).uses = ((occ es e.id + P.count e.id : Nat) : Int) := fun e he => by
    have h1 := b.use e he
    have h2 := hs e he
    rw [List.count_cons] at h1
    unfold decE
    by_cases e1 : e.id = a
    · rw [if_pos e1]
      simp only [e1, BEq.rfl, if_true] at h1
      show wrap64 (e.uses - 1) = _
      rw [e1]
      unfold wrap64
      omega
    · rw [if_neg e1]
      rw [if_neg (by simpa using Ne.symm e1)] at h1
      simpa using h1
  refine ⟨⟨?_, ?_, ?_, ?_, ?_, ?_, ?_, ?_⟩, ?_⟩
  · rw [dec_ids]; exact b.nod
  · intro x hx y hy e1
    obtain ⟨x, hx2, rfl⟩ := List.mem_map.1 hx
    obtain ⟨y, hy2, rfl⟩ := List.mem_map.1 hy
    rw [decE_nd, decE_nd] at e1
    rw [b.nds x hx2 y hy2 e1]
  · intro x hx c hc
    obtain ⟨x, hx2, rfl⟩ := List.mem_map.1 hx
    rw [decE_nd] at hc
    rw [dec_ids, decE_id]
    exact b.arg x hx2 c hc
  · intro x hx
    obtain ⟨x, hx2, rfl⟩ := List.mem_map.1 hx
    rw [hu x hx2, decE_id, occ_congr (decE_nd a)]
  · intro c hc
    rw [dec_ids]
    exact b.pnd c (List.mem_cons_of_mem _ hc)
  · intro x hx
    obtain ⟨x, hx2, rfl⟩ := List.mem_map.1 hx
    rw [decE_kept]
    exact b.kpt x hx2
  · intro x hx
    obtain ⟨x, hx2, rfl⟩ := List.mem_map.1 hx
    rw [decE_nd]
    exact b.fine x hx2
  · intro x hx
    obtain ⟨x, hx2, rfl⟩ := List.mem_map.1 hx
    rw [decE_id]
    exact b.fit x hx2
  · intro x hx
    obtain ⟨x, hx2, rfl⟩ := List.mem_map.1 hx
    have h1 := hu x hx2
    have h2 := hs x hx2
    have h3 := b.use x hx2
    rw [List.count_cons] at h3
    split at h3 <;> omega

/-- What sweeping node i does. -/
structure Swp (P : List Int) (i : Int) (es es' : List Ent) : Prop where
  bs : Bs es' P
  sub : ∀ e' ∈ es', ∃ e ∈ es, e.id = e'.id ∧ e.nd = e'.nd ∧ e.kept = e'.kept
  stay : ∀ e ∈ es, 0 < e.kept → e.id ∈ es'.map (·.id)
  gb : ∀ e' ∈ es', e'.kept = 0 → e'.uses = 0 → e'.id ≠ i ∧ ∃ e ∈ es, e.id = e'.id ∧ e.uses = 0
  len : es'.length ≤ es.length

theorem Swp.none {P : List Int} {es : List Ent} (h : Bs es P) {e : Ent} (he : e ∈ es) (hh : 0 < e.kept ∨ 0 < e.uses) : Swp P e.id es es := by
  refine ⟨h, fun x hx => ⟨x, hx, rfl, rfl, rfl⟩, fun x hx _ => List.mem_map_of_mem hx, fun x hx h1 h2 => ⟨fun e1 => ?_, x, hx, rfl, h2⟩, Nat.le_refl _⟩
  obtain rfl := id_inj h.1.nod hx he e1
  omega
theorem Swp.start {P : List Int} {es : List Ent} (h : Bs es P) {e : Ent} (he : e ∈ es) (hk : e.kept = 0) (hu : e.uses = 0) : Swp (e.nd.args ++ P) e.id es (remE e.id es) := by
  refine ⟨h.remove he hu, fun x hx => ⟨x, (mem_rem.1 hx).1, rfl, rfl, rfl⟩, fun x hx h1 => ?_, fun x hx h1 h2 => ⟨(mem_rem.1 hx).2, x, (mem_rem.1 hx).1, rfl, h2⟩, by have := (rem_occ h.1.nod he 0).2; omega⟩
  refine mem_ids_rem (List.mem_map_of_mem hx) (fun e1 => ?_)
  obtain rfl := id_inj h.1.nod hx he e1
  omega
theorem Swp.next {P : List Int} {i a : Int} {es es1 es2 : List Ent} (hn : (es.map (·.id)).Nodup) (h : Swp (a :: P) i es es1) (k : Swp P a (es1.map (decE a)) es2) : Swp P i es es2 := by
  have hn1 := h.bs.1.nod
  refine ⟨k.bs, fun e2 he2 => ?_, fun e he hk => ?_, fun e2 he2 h1 h2 => ?_, ?_⟩
  · obtain ⟨d, hd, q1, q2, q3⟩ := k.sub e2 he2
    obtain ⟨e1, he1, rfl⟩ := List.mem_map.1 hd
    obtain ⟨e0, he0, p1, p2, p3⟩ := h.sub e1 he1
    rw [decE_id] at q1
    rw [decE_nd] at q2
    rw [decE_kept] at q3
    exact ⟨e0, he0, p1.trans q1, p2.trans q2, p3.trans q3⟩
  · obtain ⟨e1, he1, q1⟩ := List.mem_map.1 (h.stay e he hk)
    obtain ⟨e0, he0, p1, _, p3⟩ := h.sub e1 he1
    obtain rfl := id_inj hn he0 he (p1.trans q1)
    have := k.stay (decE a e1) (List.mem_map_of_mem he1) (by rw [decE_kept, ← p3]; exact hk)
    rw [decE_id] at this
    rw [← q1]
    exact this
  · obtain ⟨g1, d, hd, g2, g3⟩ := k.gb e2 he2 h1 h2
    obtain ⟨e1, he1, rfl⟩ := List.mem_map.1 hd
    rw [decE_id] at g2
    have hne : e1.id ≠ a := by rw [g2]; exact g1
    have e1d : decE a e1 = e1 := by unfold decE; rw [if_neg hne]
    rw [e1d] at g3
    obtain ⟨d', hd', p1, _, p3⟩ := k.sub e2 he2
    obtain ⟨e1', he1', rfl⟩ := List.mem_map.1 hd'
    rw [decE_id] at p1
    rw [decE_kept] at p3
    obtain rfl := id_inj hn1 he1' he1 (p1.trans g2.symm)
    obtain ⟨f1, e0, he0, f2, f3⟩ := h.gb e1' he1 (by rw [p3]; exact h1) g3
    exact ⟨by rw [← g2]; exact f1, e0, he0, f2.trans g2, f3⟩
  · have := h.len
    have := k.len
    rw [List.length_map] at this
    omega

end Go.Proofs.Ytbbfpllffcfmhaa

/-
  The bank behind one use less, and kept once less.
-/
namespace Go.Proofs.Ytbbfpllffcfmhaa
open Go.RowKit Go.Maps

def decL (i : Int) (l : List (Ent × Nat)) : List (Ent × Nat) := l.map fun x => (decE i x.1, x.2)
theorem decL_blk (i : Int) (l : List (Ent × Nat)) : (decL i l).map (·.2) = l.map (·.2) := by simp [decL, Function.comp_def]
theorem decL_ents (i : Int) (l : List (Ent × Nat)) : (decL i l).map (·.1) = (l.map (·.1)).map (decE i) := by simp [decL, Function.comp_def]

theorem recMap_dec (i : Int) (l : List (Ent × Nat)) : recMap (decL i l) = recMap l := by
  classical
  funext key
  unfold recMap decL
  induction l with
  | nil => rfl
  | cons x l ih =>
    simp only [List.map_cons, List.find?_cons, decE_id]
    by_cases hk : Value.int .i64 x.1.id = key
    · simp [hk]
    · simpa [hk] using ih

theorem numMap_dec (i : Int) (es : List Ent) : numMap (es.map (decE i)) = numMap es := by
  classical
  funext key
  unfold numMap
  induction es with
  | nil => rfl
  | cons x l ih =>
    simp only [List.map_cons, List.find?_cons, decE_nd]
    by_cases hk : x.nd.val = key
    · simp [hk, decE_id]
    · simpa [hk] using ih

theorem bank_dec {n0 Ba : Nat} {B : List Nat} {limit : Int} {es : List Ent} {free : List Int} {W : World} {bn br : Nat} {fv : Value} {l : List (Ent × Nat)} (h : BankAt n0 Ba B limit es free W bn br fv l) (i : Int) (x : Ent × Nat) (hx : x ∈ l) (hi : x.1.id = i) (hone : ∀ y ∈ l, y.1.id = i → y = x) :
    BankAt n0 Ba B limit (es.map (decE i)) free (W.setCell ⟨x.2, 20, none⟩ (.int .i64 (wrap64 (x.1.uses - 1)))) bn br fv (decL i l) := by
  obtain ⟨m1, m2, m3⟩ := h.maps
  obtain ⟨n1, n2⟩ := h.rec_ne x hx
  have hg := World.grownBy_setCell_any W x.2 20 (.int .i64 (wrap64 (x.1.uses - 1)))
  have hth := h.there
  have hk : ∀ r ∈ B, r ≠ x.2 → (W.setCell ⟨x.2, 20, none⟩ (.int .i64 (wrap64 (x.1.uses - 1)))).heap[r]? = W.heap[r]? := fun r hr h1 => hg.block r (hth r hr) (fun e => h1 (Option.some.inj e))
  have hmine := h.mine
  have hB : ∀ {r}, r = Ba ∨ r = bn ∨ r = br ∨ fv.ownBlock = some r ∨ (∃ x ∈ l, x.2 = r) → r ∈ B := fun {r} hr => by
    rw [hmine]
    simp only [List.mem_cons, List.mem_append, Option.mem_toList, List.mem_map]
    exact hr
  refine { ents := by rw [decL_ents, h.ents], head := (hk Ba (hB (.inl rfl)) (Ne.symm n1)).trans h.head, nums := ?_, recs := ?_, each := ?_, row := row_keep h.row (fun g hg' => hk g (hB (.inr (.inr (.inr (.inl hg'))))) (fun e => n2 (e ▸ hg'))), apart := h.apart, blks := by rw [decL_blk]; exact h.blks, mine := by rw [decL_blk]; exact hmine, low := h.low }
  · rw [numMap_dec, List.length_map]
    exact h.nums.same (hk bn (hB (.inr (.inl rfl))) (Ne.symm (m3 x hx).1))
  · rw [recMap_dec, List.length_map]
    exact h.recs.same (hk br (hB (.inr (.inr (.inl rfl)))) (Ne.symm (m3 x hx).2))
  · intro y hy
    obtain ⟨z, hz, rfl⟩ := List.mem_map.1 hy
    by_cases e : z.1.id = i
    · cases hone z hz e
      have := set_rec (i := 20) (v := .int .i64 (wrap64 (x.1.uses - 1))) (h.each x hx)
      rw [Ent.cells_set] at this
      simp only [decE, if_pos e]
      exact this
    · simp only [decE, if_neg e]
      refine (hk z.2 (hB (.inr (.inr (.inr (.inr ⟨z, hz, rfl⟩))))) (fun e' => e ?_)).trans (h.each z hz)
      have : z = x := inj_of_nodup h.blks hz hx e'
      rw [this, hi]


def unkE (i : Int) (e : Ent) : Ent := if e.id = i then { e with kept := wrap64 (e.kept - 1) } else e
theorem unkE_id (i : Int) (e : Ent) : (unkE i e).id = e.id := by unfold unkE; split <;> rfl
theorem unkE_nd (i : Int) (e : Ent) : (unkE i e).nd = e.nd := by unfold unkE; split <;> rfl
def unkL (i : Int) (l : List (Ent × Nat)) : List (Ent × Nat) := l.map fun x => (unkE i x.1, x.2)
theorem unkL_blk (i : Int) (l : List (Ent × Nat)) : (unkL i l).map (·.2) = l.map (·.2) := by simp [unkL, Function.comp_def]
theorem unkL_ents (i : Int) (l : List (Ent × Nat)) : (unkL i l).map (·.1) = (l.map (·.1)).map (unkE i) := by simp [unkL, Function.comp_def]

theorem recMap_unk (i : Int) (l : List (Ent × Nat)) : recMap (unkL i l) = recMap l := by
  classical
  funext key
  unfold recMap unkL
  induction l with
  | nil => rfl
  | cons x l ih =>
    simp only [List.map_cons, List.find?_cons, unkE_id]
    by_cases hk : Value.int .i64 x.1.id = key
    · simp [hk]
    · simpa [hk] using ih

theorem numMap_unk (i : Int) (es : List Ent) : numMap (es.map (unkE i)) = numMap es := by
  classical
  funext key
  unfold numMap
  induction es with
  | nil => rfl
  | cons x l ih =>
    simp only [List.map_cons, List.find?_cons, unkE_nd]
    by_cases hk : x.nd.val = key
    · simp [hk, unkE_id]
    · simpa [hk] using ih

theorem bank_unk {n0 Ba : Nat} {B : List Nat} {limit : Int} {es : List Ent} {free : List Int} {W : World} {bn br : Nat} {fv : Value} {l : List (Ent × Nat)} (h : BankAt n0 Ba B limit es free W bn br fv l) (i : Int) (x : Ent × Nat) (hx : x ∈ l) (hi : x.1.id = i) (hone : ∀ y ∈ l, y.1.id = i → y = x) :
    BankAt n0 Ba B limit (es.map (unkE i)) free (W.setCell ⟨x.2, 19, none⟩ (.int .i64 (wrap64 (x.1.kept - 1)))) bn br fv (unkL i l) := by
  obtain ⟨m1, m2, m3⟩ := h.maps
  obtain ⟨n1, n2⟩ := h.rec_ne x hx
  have hg := World.grownBy_setCell_any W x.2 19 (.int .i64 (wrap64 (x.1.kept - 1)))
  have hth := h.there
  have hk : ∀ r ∈ B, r ≠ x.2 → (W.setCell ⟨x.2, 19, none⟩ (.int .i64 (wrap64 (x.1.kept - 1)))).heap[r]? = W.heap[r]? := fun r hr h1 => hg.block r (hth r hr) (fun e => h1 (Option.some.inj e))
  have hmine := h.mine
  have hB : ∀ {r}, r = Ba ∨ r = bn ∨ r = br ∨ fv.ownBlock = some r ∨ (∃ x ∈ l, x.2 = r) → r ∈ B := fun {r} hr => by
    rw [hmine]
    simp only [List.mem_cons, List.mem_append, Option.mem_toList, List.mem_map]
    exact hr
  refine { ents := by rw [unkL_ents, h.ents], head := (hk Ba (hB (.inl rfl)) (Ne.symm n1)).trans h.head, nums := ?_, recs := ?_, each := ?_, row := row_keep h.row (fun g hg' => hk g (hB (.inr (.inr (.inr (.inl hg'))))) (fun e => n2 (e ▸ hg'))), apart := h.apart, blks := by rw [unkL_blk]; exact h.blks, mine := by rw [unkL_blk]; exact hmine, low := h.low }
  · rw [numMap_unk, List.length_map]
    exact h.nums.same (hk bn (hB (.inr (.inl rfl))) (Ne.symm (m3 x hx).1))
  · rw [recMap_unk, List.length_map]
    exact h.recs.same (hk br (hB (.inr (.inr (.inl rfl)))) (Ne.symm (m3 x hx).2))
  · intro y hy
    obtain ⟨z, hz, rfl⟩ := List.mem_map.1 hy
    by_cases e : z.1.id = i
    · cases hone z hz e
      have := set_rec (i := 19) (v := .int .i64 (wrap64 (x.1.kept - 1))) (h.each x hx)
      rw [Ent.cells_set19] at this
      simp only [unkE, if_pos e]
      exact this
    · simp only [unkE, if_neg e]
      refine (hk z.2 (hB (.inr (.inr (.inr (.inr ⟨z, hz, rfl⟩))))) (fun e' => e ?_)).trans (h.each z hz)
      have : z = x := inj_of_nodup h.blks hz hx e'
      rw [this, hi]


end Go.Proofs.Ytbbfpllffcfmhaa
