/-
  What the law's two loops keep in memory.
-/
import Derived.Test.YtbbfpllffcfmhaaWO
import Derived.Test.YtbbfpllffcfmhaaRB
namespace Go.Proofs.Ytbbfpllffcfmhaa
open Go.RowKit Go.Maps

theorem row_get {W : World} {b : Nat} {p : Option Addr} {c : Nat} {l : List Int} (h : W.ownsRow b 3 1 (.slice p l.length c) l.length (l.map (Value.int .i64))) {i : Nat} (hi : i < l.length) : ∃ g, p = some ⟨g, 0, none⟩ ∧ g < W.heap.size ∧ b ≤ g ∧ W.cell? ⟨g, i, none⟩ = some (.int .i64 l[i]) := by
  rcases h.2 with ⟨e0, h0⟩ | ⟨g, cap, cur, e0, hb, hg, hn, hm, hs, ht⟩
  · omega
  · cases e0
    have := h.cells rfl i (.int .i64 l[i]) (by simp [hi])
    have ea : (⟨g, 0, none⟩ : Addr).add i = ⟨g, i, none⟩ := by unfold Addr.add; split <;> simp_all
    rw [ea] at this
    have hc : W.cell? ⟨g, i, none⟩ = some (.int .i64 l[i]) := this
    exact ⟨g, rfl, World.block_lt_of_cell? W _ hc, hb, hc⟩

/-- The list of numbers and the list of terms, beside the bank's blocks. -/
structure ORow (w : World) (B : List Nat) (ids : List Int) (ps : List (T × Value)) (vi vk : Value) (wr : World) : Prop where
  row : wr.ownsRow w.heap.size 3 1 vi ids.length (ids.map (Value.int .i64))
  kp : wr.ownsRow w.heap.size 24 3 vk ps.length (flat ps)
  args : ∀ p ∈ ps, ArgsAt w p.2 p.1.args
  m1 : ∀ g, vi.ownBlock = some g → g ∉ B
  m2 : ∀ g, vk.ownBlock = some g → g ∉ B
  ne : ∀ g, vi.ownBlock = some g → vk.ownBlock ≠ some g
  low : ∀ r ∈ B, w.heap.size ≤ r
  bel : Below w.heap.size w wr

section
variable {w : World} {B B' : List Nat} {ids : List Int} {ps : List (T × Value)} {vi vk : Value} {wr wr' : World}

theorem ORow.lt1 (h : ORow w B ids ps vi vk wr) {g : Nat} (hg : vi.ownBlock = some g) : w.heap.size ≤ g ∧ g < wr.heap.size := by
  obtain ⟨h1, cq, hq⟩ := row_block h.row hg
  exact ⟨h1, (Array.getElem?_eq_some_iff.1 hq).1⟩
theorem ORow.lt2 (h : ORow w B ids ps vi vk wr) {g : Nat} (hg : vk.ownBlock = some g) : w.heap.size ≤ g ∧ g < wr.heap.size := by
  obtain ⟨h1, cq, hq⟩ := row_block h.kp hg
  exact ⟨h1, (Array.getElem?_eq_some_iff.1 hq).1⟩

theorem ORow.only (h : ORow w B ids ps vi vk wr) (o : Only B wr wr') (hB : ∀ r ∈ B', r ∈ B ∨ wr.heap.size ≤ r) : ORow w B' ids ps vi vk wr' := by
  have hs := h.bel.size
  refine ⟨row_keep h.row fun g hg => o.block g (h.lt1 hg).2 (h.m1 g hg), row_keep h.kp fun g hg => o.block g (h.lt2 hg).2 (h.m2 g hg), h.args, fun g hg hm => ?_, fun g hg hm => ?_, h.ne, fun r hr => ?_, h.bel.trans (o.below hs h.low)⟩
  · rcases hB g hm with h1 | h1
    · exact h.m1 g hg h1
    · have := (h.lt1 hg).2; omega
  · rcases hB g hm with h1 | h1
    · exact h.m2 g hg h1
    · have := (h.lt2 hg).2; omega
  · rcases hB r hr with h1 | h1
    · exact h.low r h1
    · omega

theorem ORow.push1 (h : ORow w B ids ps vi vk wr) (hlt : ∀ r ∈ B, r < wr.heap.size) {X w1 : World} {v' : Value} {j : Int} (hX : Below wr.heap.size wr X)
    (hown : w1.ownsRow w.heap.size 3 1 v' (ids.length + 1) (ids.map (Value.int .i64) ++ [.int .i64 j])) (hg : X.grownBy w1 vi.ownBlock) (hat : v'.ownBlock = vi.ownBlock ∨ v'.ownBlock = some X.heap.size) :
    ORow w B (ids ++ [j]) ps v' vk w1 ∧ ∀ r ∈ B, w1.heap[r]? = wr.heap[r]? := by
  have hs := h.bel.size
  have hxs := hX.size
  have hk : ∀ g, g < wr.heap.size → vi.ownBlock ≠ some g → w1.heap[g]? = wr.heap[g]? := fun g hg1 hne => (hg.block g (by omega) (fun e => hne e.symm)).trans (hX.block g hg1)
  refine ⟨⟨by simpa using hown, row_keep h.kp fun g hg => hk g (h.lt2 hg).2 (fun e => h.ne g e hg), h.args, fun g hg hm => ?_, h.m2, fun g hg e => ?_, h.low, h.bel.trans ((hX.mono hs).trans ⟨hg.os, hg.tape, hg.output, hg.size, fun k hk1 => hg.block k (by omega) (fun e => by have := (h.lt1 e.symm).1; omega)⟩)⟩, fun r hr => hk r (hlt r hr) (fun e => h.m1 r e hr)⟩
  · rcases hat with e | e
    · exact h.m1 g (e ▸ hg) hm
    · rw [e] at hg
      cases hg
      have := hlt _ hm
      omega
  · rcases hat with e1 | e1
    · exact h.ne g (e1 ▸ hg) e
    · rw [e1] at hg
      cases hg
      have := (h.lt2 e).2
      omega

theorem ORow.push2 (h : ORow w B ids ps vi vk wr) (hlt : ∀ r ∈ B, r < wr.heap.size) {X w1 : World} {v' : Value} {t : T} {s : Value} (ha : ArgsAt w s t.args) (hX : Below wr.heap.size wr X)
    (hown : w1.ownsRow w.heap.size 24 3 v' (ps.length + 1) (flat ps ++ [.int .i64 t.v, .string t.fn, s])) (hg : X.grownBy w1 vk.ownBlock) (hat : v'.ownBlock = vk.ownBlock ∨ v'.ownBlock = some X.heap.size) :
    ORow w B ids (ps ++ [(t, s)]) vi v' w1 ∧ ∀ r ∈ B, w1.heap[r]? = wr.heap[r]? := by
  have hs := h.bel.size
  have hxs := hX.size
  have hk : ∀ g, g < wr.heap.size → vk.ownBlock ≠ some g → w1.heap[g]? = wr.heap[g]? := fun g hg1 hne => (hg.block g (by omega) (fun e => hne e.symm)).trans (hX.block g hg1)
  refine ⟨⟨row_keep h.row fun g hg => hk g (h.lt1 hg).2 (h.ne g hg), by rw [flat_snoc]; simpa using hown, fun p hp => ?_, h.m1, fun g hg hm => ?_, fun g hg e => ?_, h.low, h.bel.trans ((hX.mono hs).trans ⟨hg.os, hg.tape, hg.output, hg.size, fun k hk1 => hg.block k (by omega) (fun e => by have := (h.lt2 e.symm).1; omega)⟩)⟩, fun r hr => hk r (hlt r hr) (fun e => h.m2 r e hr)⟩
  · rcases List.mem_append.1 hp with hp | hp
    · exact h.args p hp
    · obtain rfl := List.mem_singleton.1 hp
      exact ha
  · rcases hat with e | e
    · exact h.m2 g (e ▸ hg) hm
    · rw [e] at hg
      cases hg
      have := hlt _ hm
      omega
  · rcases hat with e1 | e1
    · exact h.ne g hg (e1 ▸ e)
    · rw [e1] at e
      cases e
      have := (h.lt1 hg).2
      omega

theorem ORow.kept (h : ORow w B ids ps vi vk wr) : ArgsAt wr vk (ps.map (·.1)) :=
  (argsP_of_row (P := fun _ => True) h.kp (by simp) rfl (fun _ _ => trivial) (fun p hp => ((ArgsAt.keep h.bel (Nat.le_refl _) (h.args p hp)).belowP).keep (Nat.le_refl _) (fun _ _ _ => ⟨trivial, rfl⟩))).args

theorem ORow.start (w : World) (wr : World) (hB : ∀ r ∈ B, w.heap.size ≤ r) (hb : Below w.heap.size w wr) : ORow w B [] [] (.slice none 0 0) (.slice none 0 0) wr :=
  ⟨World.ownsRow_nil _ _ _ _, World.ownsRow_nil _ _ _ _, fun p hp => (by cases hp), fun g hg => (by cases hg), fun g hg => (by cases hg), fun g hg => (by cases hg), hB, hb⟩
end

/-- The first loop. -/
def OI (w : World) (Ba i : Nat) (ids : List Int) (ps : List (T × Value)) (vi vk : Value) (wr : World) : Prop :=
  ∃ B es, BankSt w.heap.size Ba B 1000000 es [] wr ∧ ORow w B ids ps vi vk wr ∧ L1 es ids (ps.map (·.1)) ∧ es.length ≤ 300 * i ∧ ids.length ≤ i

/-- The first loop, a term made. -/
def OM (w : World) (Ba i : Nat) (ids : List Int) (ps : List (T × Value)) (vi vk : Value) (j : Int) (t : T) (wr : World) : Prop :=
  ∃ B es, BankSt w.heap.size Ba B 1000000 es [] wr ∧ ORow w B ids ps vi vk wr ∧ L1 es (ids ++ [j]) (ps.map (·.1) ++ [t]) ∧ ids.length = ps.length ∧ (∀ k (h1 : k < ids.length) (h2 : k < (ps.map (·.1)).length), (ids[k] = j ↔ (ps.map (·.1))[k] = t)) ∧ es.length ≤ 300 * (i + 1) ∧ ids.length ≤ i

/-- The first loop, a term made and its number written down. -/
def ON (w : World) (Ba i : Nat) (ids : List Int) (ps : List (T × Value)) (vi vk : Value) (t : T) (wr : World) : Prop :=
  ∃ B es, BankSt w.heap.size Ba B 1000000 es [] wr ∧ ORow w B ids ps vi vk wr ∧ L1 es ids (ps.map (·.1) ++ [t]) ∧ es.length ≤ 300 * (i + 1) ∧ ids.length ≤ i + 1

section
variable {w : World} {Ba i : Nat} {ids : List Int} {ps : List (T × Value)} {vi vk : Value} {j : Int} {t : T} {wr wr' : World}

theorem OI.bel (h : OI w Ba i ids ps vi vk wr) : Below w.heap.size w wr := by obtain ⟨B, es, h1, h2, _⟩ := h; exact h2.bel
theorem OM.bel (h : OM w Ba i ids ps vi vk j t wr) : Below w.heap.size w wr := by obtain ⟨B, es, h1, h2, _⟩ := h; exact h2.bel
theorem ON.bel (h : ON w Ba i ids ps vi vk t wr) : Below w.heap.size w wr := by obtain ⟨B, es, h1, h2, _⟩ := h; exact h2.bel

theorem OI.keep (h : OI w Ba i ids ps vi vk wr) (hb : Below wr.heap.size wr wr') : OI w Ba i ids ps vi vk wr' := by
  obtain ⟨B, es, h1, h2, h3⟩ := h
  exact ⟨B, es, h1.keep (fun r hr => hb.block r (h1.there r hr).2), h2.only (Only.of_below hb) (fun r hr => .inl hr), h3⟩
theorem OM.keep (h : OM w Ba i ids ps vi vk j t wr) (hb : Below wr.heap.size wr wr') : OM w Ba i ids ps vi vk j t wr' := by
  obtain ⟨B, es, h1, h2, h3⟩ := h
  exact ⟨B, es, h1.keep (fun r hr => hb.block r (h1.there r hr).2), h2.only (Only.of_below hb) (fun r hr => .inl hr), h3⟩

theorem OI.more (h : OI w Ba i ids ps vi vk wr) : OI w Ba (i + 1) ids ps vi vk wr := by
  obtain ⟨B, es, h1, h2, h3, h4, h5⟩ := h
  exact ⟨B, es, h1, h2, h3, by omega, by omega⟩

theorem right_shape {t : T} (h : t.rightW = 0) : t.shape = true := by
  unfold T.rightW at h
  cases hs : t.shape
  · rw [hs] at h; simp at h
  · rfl

theorem OI.bad (h : OI w Ba i ids ps vi vk wr) {s : Value} (ha : ArgsAt w s t.args) (hshort : Short t) (hr : t.rightW ≠ 0) :
    Calls Try.prog 25 #[.pointer (some ⟨Ba, 0, none⟩), tval t s] wr fun e W' => e = .returned (.tuple #[.int .i64 0, .int .i64 t.rightW]) ∧ OI w Ba (i + 1) ids ps vi vk W' := by
  have hI := h
  obtain ⟨B, es, h1, h2, h3, h4, h5⟩ := h
  refine (make_bad w w.heap.size Ba B 1000000 es [] t s wr h1 ha h2.bel hshort hr).mono ?_
  rintro e W' ⟨he, _, hb⟩
  exact ⟨he, (hI.keep hb).more⟩

theorem OI.good (h : OI w Ba i ids ps vi vk wr) (hi : i ≤ 50) {s : Value} (ha : ArgsAt w s t.args) (hshort : Short t) (hr : t.rightW = 0) (hsz : t.size ≤ 300) :
    Calls Try.prog 25 #[.pointer (some ⟨Ba, 0, none⟩), tval t s] wr fun e W' => ∃ j, e = .returned (.tuple #[.int .i64 j, .int .i64 0]) ∧ OM w Ba i ids ps vi vk j t W' := by
  obtain ⟨B, es, h1, h2, h3, h4, h5⟩ := h
  have hk : ∀ e ∈ es, e.kept ≤ 1000 := fun e he => by
    rw [h3.kept e he]
    have := List.count_le_length (a := e.id) (l := ids)
    omega
  refine (make_good w w.heap.size Ba B es h3.good h3.bs h3.ng hk t s wr (Nat.le_refl _) h1 ha h2.bel hshort hr (right_shape hr) hsz (by omega)).mono ?_
  rintro e W' ⟨j, es', he, hM, B', b1, b2, b3⟩
  obtain ⟨n1, n2⟩ := h3.next hM
  have := hM.len
  exact ⟨j, he, B', es', b1, h2.only b3 b2, n1, by have := h3.len; simpa using this, n2, by omega, h5⟩

theorem OM.push (h : OM w Ba i ids ps vi vk j t wr) {X w1 : World} {v' : Value} (hX : Below wr.heap.size wr X)
    (hown : w1.ownsRow w.heap.size 3 1 v' (ids.length + 1) (ids.map (Value.int .i64) ++ [.int .i64 j])) (hg : X.grownBy w1 vi.ownBlock) (hat : v'.ownBlock = vi.ownBlock ∨ v'.ownBlock = some X.heap.size) : ON w Ba i (ids ++ [j]) ps v' vk t w1 := by
  obtain ⟨B, es, h1, h2, h3, h4, h5, h6, h7⟩ := h
  obtain ⟨k1, k2⟩ := h2.push1 (fun r hr => (h1.there r hr).2) hX hown hg hat
  exact ⟨B, es, h1.keep k2, k1, h3, h6, by simp; omega⟩

theorem ON.push (h : ON w Ba i ids ps vi vk t wr) {s : Value} (ha : ArgsAt w s t.args) {X w1 : World} {v' : Value} (hX : Below wr.heap.size wr X)
    (hown : w1.ownsRow w.heap.size 24 3 v' (ps.length + 1) (flat ps ++ [.int .i64 t.v, .string t.fn, s])) (hg : X.grownBy w1 vk.ownBlock) (hat : v'.ownBlock = vk.ownBlock ∨ v'.ownBlock = some X.heap.size) : OI w Ba (i + 1) ids (ps ++ [(t, s)]) vi v' w1 := by
  obtain ⟨B, es, h1, h2, h3, h4, h5⟩ := h
  obtain ⟨k1, k2⟩ := h2.push2 (fun r hr => (h1.there r hr).2) ha hX hown hg hat
  exact ⟨B, es, h1.keep k2, k1, by simpa using h3, h4, h5⟩

end

/-- The second loop. -/
def OJ (w : World) (Ba i : Nat) (ids : List Int) (ps : List (T × Value)) (vi vk : Value) (E : List Nat) (wr : World) : Prop :=
  ∃ B es free, BankSt w.heap.size Ba B 1000000 es free wr ∧ ORow w B ids ps vi vk wr ∧ L2 es ids (ps.map (·.1)) i ∧ free.length + es.length ≤ 1000000 ∧ ids.length ≤ 50 ∧ ∀ g ∈ E, g ∉ B ∧ g < wr.heap.size

section
variable {w : World} {Ba i : Nat} {ids : List Int} {ps : List (T × Value)} {vi vk : Value} {E : List Nat} {wr wr' : World}

theorem OI.oj (h : OI w Ba i ids ps vi vk wr) (hi : i ≤ 50) : OJ w Ba 0 ids ps vi vk [] wr := by
  obtain ⟨B, es, h1, h2, h3, h4, h5⟩ := h
  exact ⟨B, es, [], h1, h2, h3.l2, by simp; omega, by omega, fun g hg => (by cases hg)⟩

theorem OJ.bel (h : OJ w Ba i ids ps vi vk E wr) : Below w.heap.size w wr := by obtain ⟨B, es, f, h1, h2, _⟩ := h; exact h2.bel
theorem OJ.len (h : OJ w Ba i ids ps vi vk E wr) : ids.length = ps.length ∧ ids.length ≤ 50 := by obtain ⟨B, es, f, h1, h2, h3, h4, h5, h6⟩ := h; exact ⟨by have := h3.len; simpa using this, h5⟩

theorem OJ.keep (h : OJ w Ba i ids ps vi vk E wr) (hb : Below wr.heap.size wr wr') : OJ w Ba i ids ps vi vk E wr' := by
  obtain ⟨B, es, f, h1, h2, h3, h4, h5, h6⟩ := h
  exact ⟨B, es, f, h1.keep (fun r hr => hb.block r (h1.there r hr).2), h2.only (Only.of_below hb) (fun r hr => .inl hr), h3, h4, h5, fun g hg => ⟨(h6 g hg).1, Nat.lt_of_lt_of_le (h6 g hg).2 hb.size⟩⟩

theorem OJ.box (h : OJ w Ba i ids ps vi vk E wr) (hb : Below wr.heap.size wr wr') (o : Obj) : OJ w Ba i ids ps vi vk [wr'.heap.size] (wr'.alloc o) := by
  have h' := (h.keep hb).keep (below_box wr' o)
  obtain ⟨B, es, f, h1, h2, h3, h4, h5, h6⟩ := h
  refine ⟨B, es, f, ?_, (h2.only (Only.of_below hb) (fun r hr => .inl hr)).only (Only.of_below (below_box wr' o)) (fun r hr => .inl hr), h3, h4, h5, fun g hg => ?_⟩
  · have k1 := h1.keep (W' := wr') (fun r hr => hb.block r (h1.there r hr).2)
    exact k1.keep (fun r hr => (below_box wr' o).block r (k1.there r hr).2)
  · obtain rfl := List.mem_singleton.1 hg
    exact ⟨fun hm => by have := (h1.there _ hm).2; have := hb.size; omega, by simp⟩

theorem OJ.get (h : OJ w Ba i ids ps vi vk E wr) (hi : i < ids.length) (hi2 : i < ps.length) :
    Calls Try.prog 29 #[.pointer (some ⟨Ba, 0, none⟩), .int .i64 ids[i]] wr fun e' W' => ∃ a c, e' = .returned (.tuple #[tval ps[i].1 (.slice a ps[i].1.args.length c), .int .i64 0]) ∧ ArgsAt W' (.slice a ps[i].1.args.length c) ps[i].1.args ∧ Below wr.heap.size wr W' := by
  obtain ⟨B, es, f, h1, h2, h3, h4, h5, h6⟩ := h
  have hr := h3.rp i hi (by simpa using hi2) (Nat.le_refl _)
  simp only [List.getElem_map] at hr
  exact get_any w.heap.size Ba B 1000000 es f h3.bs.1 ps[i].1 ids[i] hr wr h1

theorem OJ.drop (h : OJ w Ba i ids ps vi vk E wr) (hi : i < ids.length) (hi2 : i < ps.length) :
    Calls Try.prog 27 #[.pointer (some ⟨Ba, 0, none⟩), .int .i64 ids[i]] wr fun e' W' => e' = .returned (.int .i64 0) ∧ OJ w Ba (i + 1) ids ps vi vk [] W' ∧ ∀ g, g < wr.heap.size → g ∈ E ∨ vi.ownBlock = some g ∨ vk.ownBlock = some g ∨ g < w.heap.size → W'.heap[g]? = wr.heap[g]? := by
  obtain ⟨B, es, f, h1, h2, h3, h4, h5, h6⟩ := h
  have hr := h3.rp i hi (by simpa using hi2) (Nat.le_refl _)
  refine (drop_any w.heap.size Ba 1000000 es f ids[i] B wr h1 h3.bs h3.ng (fun e he => ?_) hr.mem (fun e he hie => ?_) h4).mono ?_
  · rw [h3.kept e he]
    have := List.count_le_length (a := e.id) (l := ids.drop i)
    rw [List.length_drop] at this
    omega
  · rw [h3.kept e he, List.drop_eq_getElem_cons hi, hie, List.count_cons_self]
    omega
  · rintro e W' ⟨he, es', f', B', b1, hD, b2, b3, b4⟩
    refine ⟨he, ⟨B', es', f', b1, h2.only b4 b3, h3.next hi hD, b2, h5, fun g hg => (by cases hg)⟩, fun g hg hc => b4.block g hg ?_⟩
    rcases hc with hc | hc | hc | hc
    · exact (h6 g hc).1
    · exact h2.m1 g hc
    · exact h2.m2 g hc
    · exact fun hm => by have := h2.low g hm; omega

theorem OJ.blen (h : OJ w Ba i ids ps vi vk E wr) (hi : ids.length ≤ i) : Calls Try.prog 31 #[.pointer (some ⟨Ba, 0, none⟩)] wr fun e w' => e = .returned (.int .i64 0) ∧ w' = wr := by
  obtain ⟨B, es, f, ⟨bn, br, fv, l, h1⟩, h2, h3, h4, h5, h6⟩ := h
  have he := h3.done hi
  subst he
  exact blen_any h1

end

end Go.Proofs.Ytbbfpllffcfmhaa
