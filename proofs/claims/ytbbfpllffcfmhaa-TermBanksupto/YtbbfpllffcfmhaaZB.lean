/-
  Make.
-/
import Derived.Test.YtbbfpllffcfmhaaZA
import Derived.Test.YtbbfpllffcfmhaaL
namespace Go.Proofs.Ytbbfpllffcfmhaa
open Go.RowKit Go.Maps

theorem Ent.cells_set19 (e : Ent) (u : Int) : e.cells.set 19 (.int .i64 u) = ({ e with kept := u } : Ent).cells := by
  have h : e.nd.cells.length = 19 := ndCells_len _ _ _ _
  unfold Ent.cells
  rw [List.set_append_right _ _ (by omega), h]
  rfl

theorem Ent.cells_kept (e : Ent) : e.cells[19]? = some (.int .i64 e.kept) := by
  have h : e.nd.cells.length = 19 := ndCells_len _ _ _ _
  unfold Ent.cells
  rw [List.getElem?_append_right (by omega), h]
  rfl

/-- Kept once more. -/
def keepE (i : Int) (e : Ent) : Ent := if e.id = i then { e with kept := wrap64 (e.kept + 1) } else e
theorem keepE_id (i : Int) (e : Ent) : (keepE i e).id = e.id := by unfold keepE; split <;> rfl
theorem keepE_nd (i : Int) (e : Ent) : (keepE i e).nd = e.nd := by unfold keepE; split <;> rfl
def keepL (i : Int) (l : List (Ent × Nat)) : List (Ent × Nat) := l.map fun x => (keepE i x.1, x.2)
theorem keepL_blk (i : Int) (l : List (Ent × Nat)) : (keepL i l).map (·.2) = l.map (·.2) := by simp [keepL, Function.comp_def]
theorem keepL_ents (i : Int) (l : List (Ent × Nat)) : (keepL i l).map (·.1) = (l.map (·.1)).map (keepE i) := by simp [keepL, Function.comp_def]

theorem recMap_keep (i : Int) (l : List (Ent × Nat)) : recMap (keepL i l) = recMap l := by
  classical
  funext key
  unfold recMap keepL
  induction l with
  | nil => rfl
  | cons x l ih =>
    simp only [List.map_cons, List.find?_cons, keepE_id]
    by_cases hk : Value.int .i64 x.1.id = key
    · simp [hk]
    · simpa [hk] using ih

theorem numMap_keep (i : Int) (es : List Ent) : numMap (es.map (keepE i)) = numMap es := by
  classical
  funext key
  unfold numMap
  induction es with
  | nil => rfl
  | cons x l ih =>
    simp only [List.map_cons, List.find?_cons, keepE_nd]
    by_cases hk : x.nd.val = key
    · simp [hk, keepE_id]
    · simpa [hk] using ih

/-- The bank behind one keeping more. -/
theorem bank_kept {n0 Ba : Nat} {B : List Nat} {limit : Int} {es : List Ent} {free : List Int} {W : World} {bn br : Nat} {fv : Value} {l : List (Ent × Nat)} (h : BankAt n0 Ba B limit es free W bn br fv l) (i : Int) (x : Ent × Nat) (hx : x ∈ l) (hi : x.1.id = i) (hone : ∀ y ∈ l, y.1.id = i → y = x) :
    BankAt n0 Ba B limit (es.map (keepE i)) free (W.setCell ⟨x.2, 19, none⟩ (.int .i64 (wrap64 (x.1.kept + 1)))) bn br fv (keepL i l) := by
  obtain ⟨m1, m2, m3⟩ := h.maps
  obtain ⟨n1, n2⟩ := h.rec_ne x hx
  have hg := World.grownBy_setCell_any W x.2 19 (.int .i64 (wrap64 (x.1.kept + 1)))
  have hth := h.there
  have hk : ∀ r ∈ B, r ≠ x.2 → (W.setCell ⟨x.2, 19, none⟩ (.int .i64 (wrap64 (x.1.kept + 1)))).heap[r]? = W.heap[r]? := fun r hr h1 => hg.block r (hth r hr) (fun e => h1 (Option.some.inj e))
  have hmine := h.mine
  have hB : ∀ {r}, r = Ba ∨ r = bn ∨ r = br ∨ fv.ownBlock = some r ∨ (∃ x ∈ l, x.2 = r) → r ∈ B := fun {r} hr => by
    rw [hmine]
    simp only [List.mem_cons, List.mem_append, Option.mem_toList, List.mem_map]
    exact hr
  refine { ents := by rw [keepL_ents, h.ents], head := (hk Ba (hB (.inl rfl)) (Ne.symm n1)).trans h.head, nums := ?_, recs := ?_, each := ?_, row := row_keep h.row (fun g hg' => hk g (hB (.inr (.inr (.inr (.inl hg'))))) (fun e => n2 (e ▸ hg'))), apart := h.apart, blks := by rw [keepL_blk]; exact h.blks, mine := by rw [keepL_blk]; exact hmine, low := h.low }
  · rw [numMap_keep, List.length_map]
    exact h.nums.same (hk bn (hB (.inr (.inl rfl))) (Ne.symm (m3 x hx).1))
  · rw [recMap_keep, List.length_map]
    exact h.recs.same (hk br (hB (.inr (.inr (.inl rfl)))) (Ne.symm (m3 x hx).2))
  · intro y hy
    obtain ⟨z, hz, rfl⟩ := List.mem_map.1 hy
    by_cases e : z.1.id = i
    · cases hone z hz e
      have := set_rec (i := 19) (v := .int .i64 (wrap64 (x.1.kept + 1))) (h.each x hx)
      rw [Ent.cells_set19] at this
      simp only [keepE, if_pos e]
      exact this
    · simp only [keepE, if_neg e]
      refine (hk z.2 (hB (.inr (.inr (.inr (.inr ⟨z, hz, rfl⟩))))) (fun e' => e ?_)).trans (h.each z hz)
      have : z = x := inj_of_nodup h.blks hz hx e'
      rw [this, hi]

theorem keep_ids (i : Int) (es : List Ent) : (es.map (keepE i)).map (·.id) = es.map (·.id) := by
  rw [List.map_map]
  exact List.map_congr_left (fun e _ => keepE_id i e)

theorem Good.kept {es : List Ent} (h : Good es) (i : Int) : Good (es.map (keepE i)) := ⟨by rw [keep_ids, List.length_map, h.ids], by rw [List.length_map]; exact h.len⟩

theorem Good.fits {es : List Ent} (h : Good es) : ∀ e ∈ es, Fit64 e.id := fun _e he => h.fit (List.mem_map_of_mem he)

/-- What stays in a bank's neighbourhood. -/
def Near (n0 Ba : Nat) (B : List Nat) (limit : Int) (es : List Ent) (W w : World) : Prop := ∃ B', BankSt n0 Ba B' limit es [] w ∧ (∀ r ∈ B', r ∈ B ∨ W.heap.size ≤ r) ∧ Only B W w

theorem Near.of_below {n0 Ba : Nat} {B : List Nat} {limit : Int} {es : List Ent} {W w w' : World} (h : Near n0 Ba B limit es W w) (hb : Below w.heap.size w w') : Near n0 Ba B limit es W w' := by
  obtain ⟨B', h1, h2, h3⟩ := h
  exact ⟨B', h1.keep (fun r hr => hb.block r (h1.there r hr).2), h2, h3.trans (Only.of_below (B := B) hb) (fun r hr => .inl hr)⟩

set_option maxRecDepth 100000 in
set_option maxHeartbeats 2000000 in
theorem make_room (w0 : World) (n0 Ba : Nat) (B : List Nat) (limit : Int) (s : {es : List Ent // Good es}) (t : T) (sl : Value) (W : World) (hn0 : w0.heap.size ≤ n0) (hb : BankSt n0 Ba B limit s.1 [] W) (hlen : s.1.length ≤ 1000000) (hl1 : 1 ≤ limit) (hl2 : limit ≤ 1000000)
    (ha : ArgsAt w0 sl t.args) (hw : Below w0.heap.size w0 W) (hshort : Short t) (hright : t.rightW = 0) (hsh : t.shape = true) (hsz : t.size ≤ 4000) (hroom : (missing s.1 s.2.fits t : Int) ≤ limit - s.1.length) :
    Calls Try.prog 25 #[.pointer (some ⟨Ba, 0, none⟩), tval t sl] W fun e W' => e = .returned (.tuple #[.int .i64 ((enterM n0 Ba limit).num t s).2, .int .i64 0]) ∧ Near n0 Ba B limit (((enterM n0 Ba limit).num t s).1.1.map (keepE ((enterM n0 Ba limit).num t s).2)) W W' := by
  obtain ⟨a, c, rfl, hc, hm⟩ := ha.slice
  have hb0 := below_box W (tbox t (.slice a t.args.length c))
  have hN : ∀ r ∈ B, r < W.heap.size := fun r hr => (hb.there r hr).2
  have hnW : n0 ≤ W.heap.size := by
    obtain ⟨bn, br, fv, l, h⟩ := hb
    have h1 := h.low Ba (by rw [h.mine]; simp)
    have h2 := h.there Ba (by rw [h.mine]; simp)
    omega
  have hbN : (W.alloc (tbox t (.slice a t.args.length c))).heap[W.heap.size]? = some (tbox t (.slice a t.args.length c)) := (MapKept.heap_alloc W _).1
  have near0 : Near n0 Ba B limit s.1 (W.alloc (tbox t (.slice a t.args.length c))) (W.alloc (tbox t (.slice a t.args.length c))) := ⟨B, hb.keep (fun r hr => hb0.block r (hN r hr)), fun r hr => .inl hr, Only.refl _ _⟩
  have hw1 : Below w0.heap.size w0 (W.alloc (tbox t (.slice a t.args.length c))) := hw.trans (hb0.mono hw.size)
  have hR := tright_any t (.slice a t.args.length c) _ (ArgsAt.keep hw1 (Nat.le_refl _) ha) hshort
  rw [hright] at hR
  obtain ⟨t0, t1, t2⟩ := tbox_cells W t (.slice a t.args.length c)
  have hsz1 : (W.alloc (tbox t (.slice a t.args.length c))).heap.size = W.heap.size + 1 := by simp
  obtain ⟨W1, hW1⟩ : ∃ W1, W.alloc (tbox t (.slice a t.args.length c)) = W1 := ⟨_, rfl⟩
  rw [hW1] at hR hb0 hbN near0 hw1 t0 t1 t2 hsz1
  have hNear : ∀ X, Near n0 Ba B limit s.1 W1 X → X.cell? ⟨Ba, 0, none⟩ = some (.int .i64 limit) ∧ X.cell? ⟨W.heap.size, 0, none⟩ = some (.int .i64 t.v) ∧ X.cell? ⟨W.heap.size, 1, none⟩ = some (.string t.fn) ∧ X.cell? ⟨W.heap.size, 2, none⟩ = some (.slice a t.args.length c) ∧ Below w0.heap.size w0 X := by
    rintro X ⟨B', ⟨bn, br, fv, l, h1⟩, h2, h3⟩
    have hx : X.heap[W.heap.size]? = W1.heap[W.heap.size]? := h3.block _ (by omega) (fun h => by have := hN _ h; omega)
    exact ⟨h1.cells.1, (cell_congr hx 0).trans t0, (cell_congr hx 1).trans t1, (cell_congr hx 2).trans t2, hw1.trans (h3.below hw1.size (fun r hr => Nat.le_trans hn0 (hb.there r hr).1))⟩
  have hmiss : ∀ X, Near n0 Ba B limit s.1 W1 X → Calls Try.prog 48 #[.pointer (some ⟨Ba, 0, none⟩), tval t (.slice a t.args.length c)] X fun e X' => e = .returned (.int .i64 (missing s.1 s.2.fits t)) ∧ Near n0 Ba B limit s.1 W1 X' := by
    intro X hX
    obtain ⟨_, _, _, _, hwX⟩ := hNear X hX
    obtain ⟨B', h1, h2, h3⟩ := hX
    refine (missing_any w0 n0 Ba B' limit s.1 [] s.2.fits t _ X hn0 h1 (by have := h3.size; omega) ha hwX hsh (by omega)).mono ?_
    rintro e X' ⟨he, B2, g1, g2, g3⟩
    refine ⟨he, B2, g1, fun r hr => ?_, h3.trans g3 (fun r hr => h2 r hr)⟩
    rcases g2 r hr with h | h
    · exact h2 r h
    · exact .inr (Nat.le_trans h3.size h)
  have hblen : ∀ X, Near n0 Ba B limit s.1 W1 X → Calls Try.prog 31 #[.pointer (some ⟨Ba, 0, none⟩)] X fun e X' => e = .returned (.int .i64 s.1.length) ∧ X' = X := by
    rintro X ⟨B', ⟨bn, br, fv, l, h1⟩, h2, h3⟩
    exact blen_any h1
  have hnum : ∀ X, Near n0 Ba B limit s.1 W1 X → Calls Try.prog 49 #[tval t (.slice a t.args.length c), .func (.func 50) #[.pointer (some ⟨Ba, 0, none⟩)] #[]] X fun e X' => e = .returned (.int .i64 ((enterM n0 Ba limit).num t s).2) ∧ ∃ x br, X'.cell? ⟨Ba, 2, none⟩ = some (.map (some br)) ∧ (Instr.lookup 73 (.map (some br)) (.int .i64 ((enterM n0 Ba limit).num t s).2) false).run Try.prog X' = .ok (.pointer (some ⟨x.2, 0, none⟩)) X' ∧ X'.cell? ⟨x.2, 19, none⟩ = some (.int .i64 (x : Ent × Nat).1.kept) ∧ X'.frozen? ⟨x.2, 19, none⟩ = false ∧ Hid (Near n0 Ba B limit (((enterM n0 Ba limit).num t s).1.1.map (keepE ((enterM n0 Ba limit).num t s).2)) W (X'.setCell ⟨x.2, 19, none⟩ (.int .i64 (wrap64 (x.1.kept + 1))))) := by
    intro X hX
    obtain ⟨_, _, _, _, hwX⟩ := hNear X hX
    obtain ⟨B', h1, h2, h3⟩ := hX
    refine (numEnter_any (enterM n0 Ba limit) w0 hn0 Ba (enter_asks n0 Ba limit) t B' s _ X h1 ha hwX hsh (by show ((s.1.length : Nat) : Int) + t.size ≤ 1073741824; omega)).mono ?_
    rintro e X' ⟨he, B2, ⟨bn, br, fv, l, g1⟩, g2, g3⟩
    have hhas : ((enterM n0 Ba limit).num t s).2 ∈ ((enterM n0 Ba limit).num t s).1.1.map (·.id) := ((enterM n0 Ba limit).facts t s).2.1
    have hids : l.map (·.1.id) = ((enterM n0 Ba limit).num t s).1.1.map (·.id) := by rw [← g1.ents, List.map_map]; rfl
    obtain ⟨x, hx, hxi, hone, hrec⟩ := recMap_find l _ (by rw [hids]; exact hhas) (by rw [hids]; exact ((enterM n0 Ba limit).num t s).1.2.nodup)
    have hfit := ((enterM n0 Ba limit).num t s).1.2.fit hhas
    have hrc := g1.each x hx
    have hgs := World.grownBy_setCell_any X' x.2 19 (.int .i64 (wrap64 (x.1.kept + 1)))
    refine ⟨he, x, br, g1.cells.2.2.1, ((g1.recs.look keyed3 Try.underlying73 (zero85 _) (key3 hfit)).1 _ hrec).2, ?_, by simp [World.frozen?, hrc], B2, ⟨bn, br, fv, _, bank_kept g1 _ x hx hxi hone⟩, fun r hr => ?_, ?_⟩
    · rw [cell_of_row _ _ _ _ 84 (0, 0) hrc, List.getElem?_toArray]
      exact x.1.cells_kept
    · rcases g2 r hr with h | h
      · rcases h2 r h with h | h
        · exact .inl h
        · exact .inr (by omega)
      · exact .inr (by have := h3.size; omega)
    · have o1 : Only B W W1 := Only.of_below hb0
      have o2 : Only B W1 X' := h3.trans g3 (fun r hr => h2 r hr)
      have o3 : Only [x.2] X' (X'.setCell ⟨x.2, 19, none⟩ (.int .i64 (wrap64 (x.1.kept + 1)))) := Only.of_grown hgs (fun r e => by cases e; simp)
      refine (o1.trans o2 (fun r hr => .inl hr)).trans o3 (fun r hr => ?_)
      cases List.mem_singleton.1 hr
      have hxB : x.2 ∈ B2 := by
        rw [g1.mine]
        simp only [List.mem_cons, List.mem_append, List.mem_map]
        exact .inr (.inr (.inr (.inr ⟨x, hx, rfl⟩)))
      rcases g2 _ hxB with h | h
      · rcases h2 _ h with h | h
        · exact .inl h
        · exact .inr (by omega)
      · exact .inr (by have := h3.size; omega)
  have hdr : ∀ X, Near n0 Ba B limit s.1 W1 X → Near n0 Ba B limit s.1 W1 X.drew := fun X hX => hX.of_below (below_drewN (Below.refl _ _) 1)
  have hR' := hR.mono (R' := fun e W2 => e = .returned (.int .i64 0) ∧ Hid (Near n0 Ba B limit s.1 W1 W2)) (by
    rintro e W2 ⟨he, hb2⟩
    exact ⟨he, near0.of_below hb2⟩)
  clear hR near0 hb0 hw1 hbN hb ha hw hm hnW hsz1 hshort
  obtain ⟨id, hid⟩ : ∃ id, ((enterM n0 Ba limit).num t s).2 = id := ⟨_, rfl⟩
  obtain ⟨es', hes⟩ : ∃ es', ((enterM n0 Ba limit).num t s).1.1 = es' := ⟨_, rfl⟩
  obtain ⟨mi, hmi⟩ : ∃ mi : Nat, missing s.1 s.2.fits t = mi := ⟨_, rfl⟩
  obtain ⟨n, hn⟩ : ∃ n, s.1.length = n := ⟨_, rfl⟩
  rw [hid, hes] at hnum ⊢
  rw [hmi] at hmiss hroom
  rw [hn] at hblen hroom hlen
  obtain ⟨es, hes0⟩ : ∃ es, s.1 = es := ⟨_, rfl⟩
  rw [hes0] at hblen hmiss hnum hNear hdr hR'
  clear hid hes hmi hn hes0
  have hgt : ¬ (limit - (n : Int) < (mi : Int)) := by omega
  obtain ⟨S, hS⟩ : ∃ S : World → Prop, ∀ X, S X ↔ Near n0 Ba B limit es W1 X := ⟨_, fun _ => Iff.rfl⟩
  simp only [← hS] at hNear hmiss hblen hnum hdr hR'
  clear hS
  subst hW1
  go_enter Try.func25, Try.ntmps25
  go_wp2_with (first | (go_at_call 8; refine hR'.mono ?_; rintro e W2 ⟨rfl, HW2⟩))
  obtain ⟨n1, n2, n3, n4, _⟩ := hNear _ (hdr _ HW2)
  have hSd := hdr _ HW2
  clear HW2 hR'
  go_region_held3 (fun w => w.cell? ⟨Ba, 0, none⟩ = some (.int .i64 limit) ∧ w.cell? ⟨W.heap.size, 0, none⟩ = some (.int .i64 t.v) ∧ w.cell? ⟨W.heap.size, 1, none⟩ = some (.string t.fn) ∧ w.cell? ⟨W.heap.size, 2, none⟩ = some (.slice a t.args.length c) ∧ Hid (S w)) (first | exact ⟨n1, n2, n3, n4, hSd⟩ | exact HK) (first
    | (go_at_call 48; refine (hmiss _ hSd).mono ?_; rintro e W3 ⟨rfl, HW3⟩; have HK : W3.cell? ⟨Ba, 0, none⟩ = some (.int .i64 limit) ∧ W3.cell? ⟨W.heap.size, 0, none⟩ = some (.int .i64 t.v) ∧ W3.cell? ⟨W.heap.size, 1, none⟩ = some (.string t.fn) ∧ W3.cell? ⟨W.heap.size, 2, none⟩ = some (.slice a t.args.length c) ∧ Hid (S W3) := (fun ⟨q1, q2, q3, q4, _⟩ => ⟨q1, q2, q3, q4, HW3⟩) (hNear _ HW3))
    | (go_at_call 31; refine (hblen _ HW3).mono ?_; rintro e W4 ⟨rfl, rfl⟩))
  obtain ⟨m1, m2, m3, m4, _⟩ := hNear _ HW3
  have hnum' := hnum _ HW3
  have hwr : IntKind.i64.wrap (limit - (n : Int)) = limit - n := wrap_small _ (by omega) (by omega)
  clear hnum hmiss hblen hdr hNear HK hSd n1 n2 n3 n4
  go_wp2_with (first | (go_at_call 49; refine hnum'.mono ?_; rintro e W5 ⟨rfl, x, br, q1, q2, q3, q4, HQ⟩))
  go_ret2
  exact ⟨rfl, HQ⟩

end Go.Proofs.Ytbbfpllffcfmhaa
