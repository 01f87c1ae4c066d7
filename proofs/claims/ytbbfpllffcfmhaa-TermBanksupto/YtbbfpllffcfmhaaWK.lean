/-
  Drop.
-/
import Derived.Test.YtbbfpllffcfmhaaWG
namespace Go.Proofs.Ytbbfpllffcfmhaa
open Go.RowKit Go.Maps

/-- No node that nothing holds. -/
def Ng (es : List Ent) : Prop := ∀ e ∈ es, ¬ (e.kept = 0 ∧ e.uses = 0)

/-- What dropping node i does. -/
structure Drp (i : Int) (es es' : List Ent) : Prop where
  bs : Bs es' []
  ng : Ng es'
  sub : ∀ e' ∈ es', ∃ e ∈ es, e.id = e'.id ∧ e.nd = e'.nd ∧ e'.kept = e.kept - (if e.id = i then 1 else 0)
  stay : ∀ e ∈ es, 0 < e.kept - (if e.id = i then 1 else 0) → e.id ∈ es'.map (·.id)
  len : es'.length ≤ es.length

theorem unk_ids (i : Int) (es : List Ent) : (es.map (unkE i)).map (·.id) = es.map (·.id) := by
  rw [List.map_map]
  exact List.map_congr_left fun e _ => unkE_id i e
theorem unk_kept {i : Int} {e : Ent} (h : 0 ≤ e.kept) (h2 : e.kept ≤ 1000000) : (unkE i e).kept = e.kept - (if e.id = i then 1 else 0) := by
  unfold unkE
  by_cases e1 : e.id = i
  · rw [if_pos e1, if_pos e1]
    show wrap64 (e.kept - 1) = _
    unfold wrap64
    omega
  · rw [if_neg e1, if_neg e1]
    omega
theorem unk_uses (i : Int) (e : Ent) : (unkE i e).uses = e.uses := by unfold unkE; split <;> rfl

theorem unk_bs {es : List Ent} (h : Bs es []) {i : Int} (hk : ∀ e ∈ es, e.kept ≤ 1000000) (hi : ∀ e ∈ es, e.id = i → 0 < e.kept) : Bs (es.map (unkE i)) [] := by
  obtain ⟨b, hs⟩ := h
  refine ⟨⟨?_, ?_, ?_, ?_, ?_, ?_, ?_, ?_⟩, ?_⟩
  · rw [unk_ids]; exact b.nod
  · intro x hx y hy e1
    obtain ⟨x, hx2, rfl⟩ := List.mem_map.1 hx
    obtain ⟨y, hy2, rfl⟩ := List.mem_map.1 hy
    rw [unkE_nd, unkE_nd] at e1
    rw [b.nds x hx2 y hy2 e1]
  · intro x hx c hc
    obtain ⟨x, hx2, rfl⟩ := List.mem_map.1 hx
    rw [unkE_nd] at hc
    rw [unk_ids, unkE_id]
    exact b.arg x hx2 c hc
  · intro x hx
    obtain ⟨x, hx2, rfl⟩ := List.mem_map.1 hx
    rw [unk_uses, unkE_id, occ_congr (unkE_nd i)]
    exact b.use x hx2
  · intro c hc; cases hc
  · intro x hx
    obtain ⟨x, hx2, rfl⟩ := List.mem_map.1 hx
    have h1 := b.kpt x hx2
    rw [unk_kept h1 (hk x hx2)]
    split
    · rename_i e1
      have := hi x hx2 e1
      omega
    · omega
  · intro x hx
    obtain ⟨x, hx2, rfl⟩ := List.mem_map.1 hx
    rw [unkE_nd]
    exact b.fine x hx2
  · intro x hx
    obtain ⟨x, hx2, rfl⟩ := List.mem_map.1 hx
    rw [unkE_id]
    exact b.fit x hx2
  · intro x hx
    obtain ⟨x, hx2, rfl⟩ := List.mem_map.1 hx
    rw [unk_uses]
    exact hs x hx2

theorem drp_of {es es' : List Ent} {i : Int} (h : Bs es []) (hg : Ng es) (hk : ∀ e ∈ es, e.kept ≤ 1000000) (k : Swp [] i (es.map (unkE i)) es') : Drp i es es' := by
  have hn : ((es.map (unkE i)).map (·.id)).Nodup := by rw [unk_ids]; exact h.1.nod
  refine ⟨k.bs, fun e' he' ⟨h1, h2⟩ => ?_, fun e' he' => ?_, fun e he h1 => ?_, by have := k.len; rwa [List.length_map] at this⟩
  · obtain ⟨g1, d, hd, g2, g3⟩ := k.gb e' he' h1 h2
    obtain ⟨d', hd', p1, _, p3⟩ := k.sub e' he'
    obtain rfl := id_inj hn hd' hd (p1.trans g2.symm)
    obtain ⟨e, he, rfl⟩ := List.mem_map.1 hd
    rw [unk_uses] at g3
    rw [unkE_id] at g2
    rw [unk_kept (h.1.kpt e he) (hk e he), if_neg (by rw [g2]; exact g1)] at p3
    exact hg e he ⟨by omega, g3⟩
  · obtain ⟨d, hd, p1, p2, p3⟩ := k.sub e' he'
    obtain ⟨e, he, rfl⟩ := List.mem_map.1 hd
    rw [unkE_id] at p1
    rw [unkE_nd] at p2
    rw [unk_kept (h.1.kpt e he) (hk e he)] at p3
    exact ⟨e, he, p1, p2, p3.symm⟩
  · have := k.stay (unkE i e) (List.mem_map_of_mem he) (by rw [unk_kept (h.1.kpt e he) (hk e he)]; exact h1)
    rwa [unkE_id] at this

theorem bank_empty {n0 Ba : Nat} {limit : Int} {W' : World} {b1 b2 : Nat} (hh : W'.heap[Ba]? = some (.cells [Value.int .i64 limit, .map (some b1), .map (some b2), .slice none 0 0].toArray 76 (0, 0))) (m1 : MapIs W' 82 b1 (fun _ => none) 0) (m2 : MapIs W' 3 b2 (fun _ => none) 0) (hne : b1 ≠ b2) (hlow : n0 ≤ Ba ∧ n0 ≤ b1 ∧ n0 ≤ b2) : BankSt n0 Ba [Ba, b1, b2] limit [] [] W' := by
  refine ⟨b1, b2, .slice none 0 0, [], ⟨rfl, hh, m1, m2, fun x hx => (by cases hx), World.ownsRow_nil _ _ _ _, hne, by simp, by simp [Value.ownBlock], fun r hr => ?_⟩⟩
  simp at hr
  omega

/-- What Drop gives. -/
def DrP (n0 Ba : Nat) (B : List Nat) (limit : Int) (es : List Ent) (i : Int) (W : World) (e : Ending) (W' : World) : Prop :=
  e = .returned (.int .i64 0) ∧ ∃ es' free' B', BankSt n0 Ba B' limit es' free' W' ∧ Drp i es es' ∧ free'.length + es'.length ≤ 1000000 ∧ (∀ r ∈ B', r ∈ B ∨ W.heap.size ≤ r) ∧ Only B W W'

set_option maxRecDepth 100000 in
set_option maxHeartbeats 4000000 in
theorem drop_any (n0 Ba : Nat) (limit : Int) (es : List Ent) (free : List Int) (i : Int) (B : List Nat) (W : World) (hb : BankSt n0 Ba B limit es free W) (hBs : Bs es []) (hg : Ng es) (hk : ∀ e ∈ es, e.kept ≤ 1000000) (hi : i ∈ es.map (·.id)) (hp : ∀ e ∈ es, e.id = i → 0 < e.kept) (hfl : free.length + es.length ≤ 1000000) :
    Calls Try.prog 27 #[.pointer (some ⟨Ba, 0, none⟩), .int .i64 i] W (DrP n0 Ba B limit es i W) := by
  obtain ⟨bn, br, fv, l, hB⟩ := hb
  obtain ⟨c0, c1, c2, c3⟩ := hB.cells
  have hids : l.map (·.1.id) = es.map (·.id) := by rw [← hB.ents, List.map_map]; rfl
  obtain ⟨x, hx, hxi, hone, hrec⟩ := recMap_find l i (by rw [hids]; exact hi) (by rw [hids]; exact hBs.1.nod)
  have hxe : x.1 ∈ es := by rw [← hB.ents]; exact List.mem_map_of_mem hx
  have hrc := hB.each x hx
  have hfit : Fit64 i := by rw [← hxi]; exact hBs.1.fit x.1 hxe
  have hlk : (Instr.lookup 73 (.map (some br)) (.int .i64 i) false).run Try.prog W = .ok (.pointer (some ⟨x.2, 0, none⟩)) W := ((hB.recs.look keyed3 Try.underlying73 (zero85 _) (key3 hfit)).1 _ hrec).2
  have r19 : W.cell? ⟨x.2, 19, none⟩ = some (.int .i64 x.1.kept) := by rw [cell_of_row _ _ _ _ 84 (0, 0) hrc, List.getElem?_toArray]; exact x.1.cells_kept
  have f19 : W.frozen? ⟨x.2, 19, none⟩ = false := by simp [World.frozen?, hrc]
  have hkp := hp x.1 hxe hxi
  have hxB : x.2 ∈ B := by
    rw [hB.mine]
    simp only [List.mem_cons, List.mem_append, List.mem_map]
    exact .inr (.inr (.inr (.inr ⟨x, hx, rfl⟩)))
  have hbu := bank_unk hB i x hx hxi hone
  obtain ⟨kp, hkpe⟩ : ∃ k, x.1.kept = k := ⟨_, rfl⟩
  rw [hkpe] at r19 hkp hbu
  obtain ⟨W1, hW1⟩ : ∃ X, W.setCell ⟨x.2, 19, none⟩ (.int .i64 (wrap64 (kp - 1))) = X := ⟨_, rfl⟩
  rw [hW1] at hbu
  have hbs1 := unk_bs hBs hk hp
  have hsw := sweep_any n0 Ba limit (es.length + 1) (es.map (unkE i)) free [] i B W1 (by simp) ⟨bn, br, fv, _, hbu⟩ hbs1 (by rw [unk_ids]; exact hi) (by rw [List.length_map]; exact hfl)
  have o1 : Only B W W1 := by
    rw [← hW1]
    exact Only.of_grown (World.grownBy_setCell_any W x.2 19 _) (fun r e => by cases e; exact hxB)
  have HD : Hid (∀ es', Swp [] i (es.map (unkE i)) es' → Drp i es es') := fun es' h => drp_of hBs hg hk h
  have HO : Hid (Only B W W1 ∧ W1.heap.size = W.heap.size) := ⟨o1, by rw [← hW1]; simp⟩
  have hk0 : ¬ kp = 0 := by omega
  have hn0 : n0 ≤ Ba := hB.low Ba (by rw [hB.mine]; simp)
  clear hB hBs hg hk hi hp hfl hids hone hrec hxe hrc hx hbu hbs1 o1 hxB
  go_enter Try.func27, Try.ntmps27
  go_wp2_with fail
  refine hsw.mono ?_
  rintro e W2 ⟨rfl, es', free', B', ⟨bn2, br2, fv2, l2, k1⟩, k2, k3, k4, k5⟩
  have hlen := blen_any k1
  obtain ⟨d0, _, _, _⟩ := k1.cells
  have hd := HD.out es' k2
  have HF : Hid ((∀ r ∈ B', r ∈ B ∨ W.heap.size ≤ r) ∧ Only B W W2 ∧ free'.length + es'.length ≤ 1000000 ∧ Drp i es es') := ⟨fun r hr => by rcases k4 r hr with e | e; exact .inl e; exact .inr (by rw [HO.out.2] at e; exact e), HO.out.1.trans k5 (fun r hr => .inl hr), k3, hd⟩
  clear hsw k2 k3 k4 k5 hd HD HO hW1
  by_cases h0 : es'.length = 0
  · obtain rfl : es' = [] := List.length_eq_zero_iff.1 h0
    have hh := k1.head
    have HK : Hid (W2.heap[Ba]? = some (.cells [Value.int .i64 limit, .map (some bn2), .map (some br2), fv2].toArray 76 (0, 0))) := hh
    have hBl := (Array.getElem?_eq_some_iff.1 hh).1
    have hemp := empty_any limit W2
    have HB : Hid (Ba ∈ B ∨ W.heap.size ≤ Ba) := HF.out.1 Ba (by rw [k1.mine]; simp)
    clear k1 hh h0
    go_wp2_with fail
    refine hlen.mono ?_
    rintro e W3 ⟨rfl, rfl⟩
    go_wp2_with fail
    refine hemp.mono ?_
    rintro e W4 ⟨rfl, o, rfl⟩
    obtain ⟨W4, hW4⟩ : ∃ X, ((W3.alloc o).alloc (.map #[] 0)).alloc (.map #[] 0) = X := ⟨_, rfl⟩
    rw [hW4]
    have b4 : Below W3.heap.size W3 W4 := by rw [← hW4]; exact (((Below.refl _ _).alloc (Nat.le_refl _) _).alloc (by simp) _).alloc (by simp; omega) _
    have q4 := (b4.block Ba hBl).trans HK.out
    obtain ⟨z0, z1, z2, z3⟩ : W4.cell? ⟨Ba, 0, none⟩ = some (.int .i64 limit) ∧ W4.cell? ⟨Ba, 1, none⟩ = some (.map (some bn2)) ∧ W4.cell? ⟨Ba, 2, none⟩ = some (.map (some br2)) ∧ W4.cell? ⟨Ba, 3, none⟩ = some fv2 := by
      refine ⟨?_, ?_, ?_, ?_⟩ <;> rw [cell_of_row _ _ _ _ 76 (0, 0) q4] <;> rfl
    have zf : ∀ o, W4.frozen? ⟨Ba, o, none⟩ = false := fun o => by simp [World.frozen?, q4]
    obtain ⟨z4, z5, z6, z7⟩ := And.intro (zf 0) (And.intro (zf 1) (And.intro (zf 2) (zf 3)))
    have m1 := MapIs.made (W3.alloc o) 82
    have m2 := MapIs.made ((W3.alloc o).alloc (.map #[] 0)) 3
    rw [World.size_alloc] at m1
    rw [World.size_alloc, World.size_alloc, hW4] at m2
    have m1' : MapIs W4 82 (W3.heap.size + 1) (fun _ => none) 0 := m1.same (by rw [← hW4]; exact Below.heap_alloc _ _ _ (by simp))
    obtain ⟨W5, hW5⟩ : ∃ X, (((W4.setCell ⟨Ba, 0, none⟩ (.int .i64 limit)).setCell ⟨Ba, 1, none⟩ (.map (some (W3.heap.size + 1)))).setCell ⟨Ba, 2, none⟩ (.map (some (W3.heap.size + 1 + 1)))).setCell ⟨Ba, 3, none⟩ (.slice none 0 0) = X := ⟨_, rfl⟩
    have q5 : W5.heap[Ba]? = some (.cells [Value.int .i64 limit, .map (some (W3.heap.size + 1)), .map (some (W3.heap.size + 1 + 1)), .slice none 0 0].toArray 76 (0, 0)) := by
      rw [← hW5]
      exact set_any (i := 3) (set_any (i := 2) (set_any (i := 1) (set_any (i := 0) q4)))
    have ob : ∀ r, r ≠ Ba → W5.heap[r]? = W4.heap[r]? := fun r hr => by
      rw [← hW5, Below.heap_setCell _ _ _ r hr, Below.heap_setCell _ _ _ r hr, Below.heap_setCell _ _ _ r hr, Below.heap_setCell _ _ _ r hr]
    have o5 : Only [Ba] W4 W5 := by
      rw [← hW5]
      have st : ∀ (X : World) (o : Nat) (u : Value), Only [Ba] X (X.setCell ⟨Ba, o, none⟩ u) := fun X o u => Only.of_grown (World.grownBy_setCell_any X Ba o u) (fun r e => by cases e; simp)
      exact (((st _ _ _).trans (st _ _ _) (fun r hr => .inl hr)).trans (st _ _ _) (fun r hr => .inl hr)).trans (st _ _ _) (fun r hr => .inl hr)
    have hst : BankSt n0 Ba [Ba, W3.heap.size + 1, W3.heap.size + 1 + 1] limit [] [] W5 := bank_empty q5 (m1'.same (ob _ (by omega))) (m2.same (ob _ (by omega))) (by omega) (by omega)
    have s3 := HF.out.2.1.size
    have HE : Hid (DrP n0 Ba B limit es i W (.returned (.int .i64 0)) W5) := by
      refine ⟨rfl, [], [], _, hst, HF.out.2.2.2, by simp, fun r hr => ?_, (HF.out.2.1.trans (Only.of_below (B := []) b4) (by simp)).trans o5 (fun r hr => by obtain rfl := List.mem_singleton.1 hr; exact HB.out)⟩
      simp only [List.mem_cons, List.not_mem_nil, or_false] at hr
      rcases hr with rfl | rfl | rfl
      · exact HB.out
      · exact .inr (by omega)
      · exact .inr (by omega)
    clear m1 m2 m1' q5 ob o5 hst b4 q4 zf
    go_wp2
    try rw [hW5]
    go_ret
    exact HE.out
  · have h0' : ¬ ((es'.length : Int) = 0) := by omega
    have HE : Hid (DrP n0 Ba B limit es i W (.returned (.int .i64 0)) W2) := ⟨rfl, es', free', B', ⟨bn2, br2, fv2, l2, k1⟩, HF.out.2.2.2, HF.out.2.2.1, HF.out.1, HF.out.2.1⟩
    clear HF k1 h0
    go_wp2_with fail
    refine hlen.mono ?_
    rintro e W3 ⟨rfl, rfl⟩
    go_wp2
    go_ret
    exact HE.out

end Go.Proofs.Ytbbfpllffcfmhaa
