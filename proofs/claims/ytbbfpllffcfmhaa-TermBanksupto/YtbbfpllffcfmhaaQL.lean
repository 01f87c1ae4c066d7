import Derived.Test.YtbbfpllffcfmhaaQE

/-
  The document's bank in memory; at.
-/
namespace Go.Proofs.Ytbbfpllffcfmhaa
open Go.RowKit Go.Maps

/-- A node of the document's bank. -/
structure Dn where
  id : Int
  t : T
  s : Value
  kept : Int

def flat5 (ns : List Dn) : List Value := ns.flatMap fun n => [.int .i64 n.id, .int .i64 n.t.v, .string n.t.fn, n.s, .int .i64 n.kept]
theorem flat5_snoc (ns : List Dn) (n : Dn) : flat5 (ns ++ [n]) = flat5 ns ++ [.int .i64 n.id, .int .i64 n.t.v, .string n.t.fn, n.s, .int .i64 n.kept] := by simp [flat5]
theorem flat5_len (ns : List Dn) : (flat5 ns).length = ns.length * 5 := by
  induction ns with
  | nil => rfl
  | cons a r ih =>
    rw [show flat5 (a :: r) = [.int .i64 a.id, .int .i64 a.t.v, .string a.t.fn, a.s, .int .i64 a.kept] ++ flat5 r from rfl, List.length_append, ih, List.length_cons]
    simp
    omega
theorem flat5_get : ∀ (ns : List Dn) (i : Nat) (h : i < ns.length), (flat5 ns)[i * 5]? = some (.int .i64 ns[i].id) ∧ (flat5 ns)[i * 5 + 1]? = some (.int .i64 ns[i].t.v) ∧ (flat5 ns)[i * 5 + 2]? = some (.string ns[i].t.fn) ∧ (flat5 ns)[i * 5 + 3]? = some ns[i].s ∧ (flat5 ns)[i * 5 + 4]? = some (.int .i64 ns[i].kept)
  | [], i, h => absurd h (by simp)
  | a :: r, 0, _ => ⟨rfl, rfl, rfl, rfl, rfl⟩
  | a :: r, i + 1, h => by
    have ih := flat5_get r i (by simpa using h)
    have e : ∀ k, (flat5 (a :: r))[(i + 1) * 5 + k]? = (flat5 r)[i * 5 + k]? := fun k => by
      rw [show flat5 (a :: r) = [.int .i64 a.id, .int .i64 a.t.v, .string a.t.fn, a.s, .int .i64 a.kept] ++ flat5 r from rfl, List.getElem?_append_right (by simp; omega)]
      congr 1
      simp
      omega
    have e0 := e 0
    simp only [Nat.add_zero] at e0
    rw [e0, e 1, e 2, e 3, e 4]
    simpa using ih

/-- The document's bank in memory: the terms lie where they came from. -/
structure DB (w0 : World) (n0 Bd : Nat) (limit : Int) (ns : List Dn) (lv : Value) (W : World) : Prop where
  head : W.heap[Bd]? = some (.cells [Value.int .i64 limit, lv].toArray 55 (0, 0))
  row : W.ownsRow n0 89 5 lv ns.length (flat5 ns)
  args : ∀ n ∈ ns, ArgsAt w0 n.s n.t.args
  ne : lv.ownBlock ≠ some Bd
  low : n0 ≤ Bd
  hn0 : w0.heap.size ≤ n0

section
variable {w0 : World} {n0 Bd : Nat} {limit : Int} {ns : List Dn} {lv : Value} {W W' : World}

theorem DB.slice (h : DB w0 n0 Bd limit ns lv W) : ∃ a c, lv = .slice a ns.length c := row_slice h.row

theorem DB.keep (h : DB w0 n0 Bd limit ns lv W) (h1 : W'.heap[Bd]? = W.heap[Bd]?) (h2 : ∀ g, lv.ownBlock = some g → W'.heap[g]? = W.heap[g]?) : DB w0 n0 Bd limit ns lv W' :=
  ⟨h1.trans h.head, row_keep h.row h2, h.args, h.ne, h.low, h.hn0⟩

theorem DB.lt (h : DB w0 n0 Bd limit ns lv W) : Bd < W.heap.size ∧ ∀ g, lv.ownBlock = some g → n0 ≤ g ∧ g < W.heap.size :=
  ⟨(Array.getElem?_eq_some_iff.1 h.head).1, fun g hg => by obtain ⟨q1, cq, hq⟩ := row_block h.row hg; exact ⟨q1, (Array.getElem?_eq_some_iff.1 hq).1⟩⟩

theorem DB.below (h : DB w0 n0 Bd limit ns lv W) (hb : Below W.heap.size W W') : DB w0 n0 Bd limit ns lv W' :=
  h.keep (hb.block _ h.lt.1) (fun g hg => hb.block g (h.lt.2 g hg).2)

theorem DB.cells (h : DB w0 n0 Bd limit ns lv W) : W.cell? ⟨Bd, 0, none⟩ = some (.int .i64 limit) ∧ W.cell? ⟨Bd, 1, none⟩ = some lv := by
  refine ⟨?_, ?_⟩ <;> rw [cell_of_row _ _ _ _ 55 (0, 0) h.head] <;> rfl

/-- The i-th node's cells. -/
theorem DB.nth {a : Option Addr} {c : Nat} (h : DB w0 n0 Bd limit ns (.slice a ns.length c) W) {i : Nat} (hi : i < ns.length) : ∃ g, a = some ⟨g, 0, none⟩ ∧ g < W.heap.size ∧ W.cell? ⟨g, i * 5, none⟩ = some (.int .i64 ns[i].id) ∧ W.cell? ⟨g, i * 5 + 1, none⟩ = some (.int .i64 ns[i].t.v) ∧ W.cell? ⟨g, i * 5 + 2, none⟩ = some (.string ns[i].t.fn) ∧ W.cell? ⟨g, i * 5 + 3, none⟩ = some ns[i].s ∧ W.cell? ⟨g, i * 5 + 4, none⟩ = some (.int .i64 ns[i].kept) := by
  rcases h.row.2 with ⟨e0, h0⟩ | ⟨g, cap, cur, e0, hb, hg, hn, hm, hs, ht⟩
  · omega
  · cases e0
    obtain ⟨f0, f1, f2, f3, f4⟩ := flat5_get ns i hi
    have look : ∀ j u, (flat5 ns)[j]? = some u → W.cell? ⟨g, j, none⟩ = some u := fun j u hj => by
      have := h.row.cells rfl j u hj
      have ea : (⟨g, 0, none⟩ : Addr).add j = ⟨g, j, none⟩ := by unfold Addr.add; split <;> simp_all
      rwa [ea] at this
    exact ⟨g, rfl, (Array.getElem?_eq_some_iff.1 hg).1, look _ _ f0, look _ _ f1, look _ _ f2, look _ _ f3, look _ _ f4⟩

/-- The first one of which p holds, or -1. -/
def AtP (ns : List Dn) (p : Dn → Prop) (r : Int) : Prop := (r = -1 ∧ ∀ n ∈ ns, ¬ p n) ∨ ∃ k, ∃ h : k < ns.length, r = (k : Nat) ∧ p ns[k] ∧ ∀ j (hj : j < ns.length), j < k → ¬ p ns[j]

set_option maxHeartbeats 1000000 in
theorem dat_any (h : DB w0 n0 Bd limit ns lv W) (id : Int) (hl : ns.length ≤ 1073741824) :
    Calls Try.prog 53 #[.pointer (some ⟨Bd, 0, none⟩), .int .i64 id] W fun e W' => ∃ r : Int, e = .returned (.int .i64 r) ∧ AtP ns (fun n => n.id = id) r ∧ W' = W := by
  obtain ⟨a, c, rfl⟩ := h.slice
  obtain ⟨_, c1⟩ := h.cells
  have HB : Hid (DB w0 n0 Bd limit ns (.slice a ns.length c) W) := h
  clear h
  go_enter Try.func53, Try.ntmps53
  go_wp2
  go_loopw [5] (fun vi wr => ∃ i : Nat, vi = .int .i64 i ∧ i ≤ ns.length ∧ Hid (∀ j (hj : j < ns.length), j < i → ns[j].id ≠ id) ∧ wr = W) (fun vi _ => ns.length - (intOf vi).toNat)
  case atStart => exact ⟨0, rfl, Nat.zero_le _, fun j _ hj => absurd hj (by omega), rfl⟩
  case round =>
    obtain ⟨i, rfl, hi, HI, rfl⟩ := hrel
    by_cases hlt : i < ns.length
    · have hiI : (i : Int) < (ns.length : Int) := by omega
      have hi0 : (0 : Int) ≤ (i : Int) := by omega
      obtain ⟨g, rfl, hg, d0, _⟩ := HB.out.nth hlt
      obtain ⟨x, hx⟩ : ∃ x, ns[i].id = x := ⟨_, rfl⟩
      have HX : Hid (ns[i].id = x) := hx
      rw [hx] at d0
      clear hx
      by_cases he : x = id
      · subst he
        have HE : Hid (AtP ns (fun n => n.id = x) (i : Nat)) := .inr ⟨i, hlt, rfl, HX.out, HI.out⟩
        clear HI HX
        go_wp2
        go_ret
        exact ⟨_, rfl, HE.out, rfl⟩
      · have HN : Hid (∀ j (hj : j < ns.length), j < i + 1 → ns[j].id ≠ id) := fun j hj h1 => by
          by_cases e : j = i
          · subst e; rw [HX.out]; exact he
          · exact HI.out j hj (by omega)
        clear HI HX
        go_wp2
        go_roundw
        case rel => exact ⟨i + 1, by go_num, by omega, HN, by first | rfl | trivial⟩
        case measure => simp [intOf]; omega
    · have hiI : ¬ (i : Int) < (ns.length : Int) := by omega
      have HE : Hid (AtP ns (fun n => n.id = id) (-1)) := .inl ⟨rfl, fun n hn e => by
        obtain ⟨j, hj, rfl⟩ := List.getElem_of_mem hn
        exact HI.out j hj (by omega) e⟩
      clear HI
      go_wp2
      go_ret
      exact ⟨_, rfl, HE.out, rfl⟩

end

end Go.Proofs.Ytbbfpllffcfmhaa

/-
  The document's New, find, Get.
-/
namespace Go.Proofs.Ytbbfpllffcfmhaa
open Go.RowKit Go.Maps

set_option maxHeartbeats 1000000 in
theorem dnew_bad (limit : Int) (w : World) (h : limit < 1 ∨ 1000000 < limit) : Calls Try.prog 23 #[.int .i64 limit] w fun e w' => e = .returned (.pointer none) ∧ w' = w := by
  go_enter Try.func23, Try.ntmps23
  go_wp2
  all_goals go_ret
  all_goals exact ⟨rfl, rfl⟩

set_option maxHeartbeats 1000000 in
theorem dnew_ok (w0 : World) (limit : Int) (w : World) (h1 : 1 ≤ limit) (h2 : limit ≤ 1000000) (n0 : Nat) (hn : n0 ≤ w.heap.size) (hn0 : w0.heap.size ≤ n0) : Calls Try.prog 23 #[.int .i64 limit] w fun e w' => e = .returned (.pointer (some ⟨w.heap.size, 0, none⟩)) ∧ DB w0 n0 w.heap.size limit [] (.slice none 0 0) w' ∧ Below w.heap.size w w' := by
  have HE : Hid (DB w0 n0 w.heap.size limit [] (.slice none 0 0) (w.alloc (.cells #[.int .i64 limit, .slice none 0 0] 55)) ∧ Below w.heap.size w (w.alloc (.cells #[.int .i64 limit, .slice none 0 0] 55))) :=
    ⟨⟨(MapKept.heap_alloc w _).1, World.ownsRow_nil _ _ _ _, fun n hn => (by cases hn), by simp [Value.ownBlock], hn, hn0⟩, below_box w _⟩
  go_enter Try.func23, Try.ntmps23
  go_wp2
  go_ret
  exact ⟨rfl, HE.out⟩

section
variable {w0 : World} {n0 Bd : Nat} {limit : Int} {ns : List Dn} {lv : Value} {W : World}

set_option maxRecDepth 100000 in
set_option maxHeartbeats 2000000 in
theorem dfind_any (h : DB w0 n0 Bd limit ns lv W) (hw : Below w0.heap.size w0 W) (t : T) (sl : Value) (ha : ArgsAt w0 sl t.args) (hl : ns.length ≤ 1073741824) :
    Calls Try.prog 52 #[.pointer (some ⟨Bd, 0, none⟩), tval t sl] W fun e W' => ∃ r : Int, e = .returned (.int .i64 r) ∧ AtP ns (fun n => n.t = t) r ∧ Below W.heap.size W W' := by
  obtain ⟨a, c, rfl⟩ := h.slice
  obtain ⟨ta, tc, rfl, _, _⟩ := ha.slice
  have hbx0 := below_box W (tbox t (.slice ta t.args.length tc))
  have HB : Hid (DB w0 n0 Bd limit ns (.slice a ns.length c) (W.alloc (tbox t (.slice ta t.args.length tc)))) := h.below hbx0
  have HW : Hid (Below w0.heap.size w0 (W.alloc (tbox t (.slice ta t.args.length tc))) ∧ ArgsAt w0 (.slice ta t.args.length tc) t.args ∧ Below W.heap.size W (W.alloc (tbox t (.slice ta t.args.length tc)))) := ⟨hw.trans (hbx0.mono hw.size), ha, hbx0⟩
  have HT : Hid ((W.alloc (tbox t (.slice ta t.args.length tc))).cell? ⟨W.heap.size, 0, none⟩ = some (.int .i64 t.v) ∧ (W.alloc (tbox t (.slice ta t.args.length tc))).cell? ⟨W.heap.size, 1, none⟩ = some (.string t.fn) ∧ (W.alloc (tbox t (.slice ta t.args.length tc))).cell? ⟨W.heap.size, 2, none⟩ = some (.slice ta t.args.length tc)) := tbox_cells W t _
  obtain ⟨_, c1⟩ := HB.out.cells
  clear h hw ha hbx0
  go_enter Try.func52, Try.ntmps52
  go_wp2
  obtain ⟨W1, hW1⟩ : ∃ X, W.alloc (tbox t (.slice ta t.args.length tc)) = X := ⟨_, rfl⟩
  have HS : Hid (W.heap.size < W1.heap.size) := by show _ < _; rw [← hW1]; simp
  simp only [hW1] at HB HW HT c1 ⊢
  clear hW1
  go_loopw [5] (fun vi wr => ∃ i : Nat, vi = .int .i64 i ∧ i ≤ ns.length ∧ Hid (∀ j (hj : j < ns.length), j < i → ns[j].t ≠ t) ∧ Below W1.heap.size W1 wr) (fun vi _ => ns.length - (intOf vi).toNat)
  case atStart => exact ⟨0, rfl, Nat.zero_le _, fun j _ hj => absurd hj (by omega), Below.refl _ _⟩
  case round =>
    obtain ⟨i, rfl, hi, HI, hb1⟩ := hrel
    have hD := HB.out.below hb1
    obtain ⟨_, c1⟩ := hD.cells
    have HB1 : Hid (Below W1.heap.size W1 wr ∧ Below W.heap.size W wr) := ⟨hb1, HW.out.2.2.trans (hb1.mono HW.out.2.2.size)⟩
    by_cases hlt : i < ns.length
    · have hiI : (i : Int) < (ns.length : Int) := by omega
      have hi0 : (0 : Int) ≤ (i : Int) := by omega
      obtain ⟨g, rfl, hg, _, d1, d2, d3, _⟩ := hD.nth hlt
      have hus := hD.args ns[i] (List.getElem_mem hlt)
      have hBl := hD.lt.1
      have hbx : W.heap.size < wr.heap.size := Nat.lt_of_lt_of_le HS.out hb1.size
      have t0 := kc hb1 HS.out HT.out.1
      have t1 := kc hb1 HS.out HT.out.2.1
      have t2 := kc hb1 HS.out HT.out.2.2
      obtain ⟨u, hu⟩ : ∃ u, ns[i].t = u := ⟨_, rfl⟩
      have HU : Hid (ns[i].t = u) := hu
      rw [hu] at d1 d2 hus
      obtain ⟨ua, uc, hsu, _, _⟩ := hus.slice
      rw [hsu] at d3 hus
      have hwr := HW.out.1.trans (hb1.mono HW.out.1.size)
      have hdr : Below wr.heap.size wr wr.drew := (Below.refl _ wr).drew
      have ih' := (rsame_any u t (.slice ua u.args.length uc) (.slice ta t.args.length tc) wr.drew (ArgsAt.keep hdr (Nat.le_refl _) (ArgsAt.keep hwr (Nat.le_refl _) hus)) (ArgsAt.keep hdr (Nat.le_refl _) (ArgsAt.keep hwr (Nat.le_refl _) HW.out.2.1))).mono (R' := fun e w' => e = .returned (.bool (same u t)) ∧ Below wr.heap.size wr w') (fun e w' h => ⟨h.1, hdr.trans h.2⟩)
      clear hD hus hdr hwr hu hsu hb1
      by_cases he : u = t
      · have HE : Hid (AtP ns (fun n => n.t = t) (i : Nat)) := .inr ⟨i, hlt, rfl, HU.out.trans he, HI.out⟩
        rw [same_iff.2 he] at ih'
        clear HI HU he
        go_wp2
        go_region_held3 (fun X => (X.cell? ⟨Bd, 1, none⟩ = some (.slice (some ⟨g, 0, none⟩) ns.length c)) ∧ (X.cell? ⟨g, i * 5 + 1, none⟩ = some (.int .i64 u.v) ∧ X.cell? ⟨g, i * 5 + 2, none⟩ = some (.string u.fn) ∧ X.cell? ⟨g, i * 5 + 3, none⟩ = some (.slice ua u.args.length uc)) ∧ (X.cell? ⟨W.heap.size, 0, none⟩ = some (.int .i64 t.v) ∧ X.cell? ⟨W.heap.size, 1, none⟩ = some (.string t.fn) ∧ X.cell? ⟨W.heap.size, 2, none⟩ = some (.slice ta t.args.length tc))) (first | exact ⟨c1, ⟨d1, d2, d3⟩, t0, t1, t2⟩ | exact ⟨kc hb' hBl c1, ⟨kc hb' hg d1, kc hb' hg d2, kc hb' hg d3⟩, kc hb' hbx t0, kc hb' hbx t1, kc hb' hbx t2⟩) (first | (go_at_call 19; refine ih'.mono ?_; rintro e w' ⟨rfl, hb'⟩))
        go_wp2
        go_ret
        exact ⟨_, rfl, HE.out, HB1.out.2.trans (hb'.mono HB1.out.2.size)⟩
      · have HN : Hid (∀ j (hj : j < ns.length), j < i + 1 → ns[j].t ≠ t) := fun j hj h1 => by
          by_cases e : j = i
          · subst e; rw [HU.out]; exact he
          · exact HI.out j hj (by omega)
        rw [same_false.2 he] at ih'
        clear HI HU he
        go_wp2
        go_region_held3 (fun X => (X.cell? ⟨Bd, 1, none⟩ = some (.slice (some ⟨g, 0, none⟩) ns.length c)) ∧ (X.cell? ⟨g, i * 5 + 1, none⟩ = some (.int .i64 u.v) ∧ X.cell? ⟨g, i * 5 + 2, none⟩ = some (.string u.fn) ∧ X.cell? ⟨g, i * 5 + 3, none⟩ = some (.slice ua u.args.length uc)) ∧ (X.cell? ⟨W.heap.size, 0, none⟩ = some (.int .i64 t.v) ∧ X.cell? ⟨W.heap.size, 1, none⟩ = some (.string t.fn) ∧ X.cell? ⟨W.heap.size, 2, none⟩ = some (.slice ta t.args.length tc))) (first | exact ⟨c1, ⟨d1, d2, d3⟩, t0, t1, t2⟩ | exact ⟨kc hb' hBl c1, ⟨kc hb' hg d1, kc hb' hg d2, kc hb' hg d3⟩, kc hb' hbx t0, kc hb' hbx t1, kc hb' hbx t2⟩) (first | (go_at_call 19; refine ih'.mono ?_; rintro e w' ⟨rfl, hb'⟩))
        go_wp2
        go_roundw
        case rel => exact ⟨i + 1, by go_num, by omega, HN, HB1.out.1.trans (hb'.mono HB1.out.1.size)⟩
        case measure => simp [intOf]; omega
    · have hiI : ¬ (i : Int) < (ns.length : Int) := by omega
      have HE : Hid (AtP ns (fun n => n.t = t) (-1)) := .inl ⟨rfl, fun n hn e => by
        obtain ⟨j, hj, rfl⟩ := List.getElem_of_mem hn
        exact HI.out j hj (by omega) e⟩
      clear HI hD
      go_wp2
      go_ret
      exact ⟨_, rfl, HE.out, HB1.out.2⟩

end

end Go.Proofs.Ytbbfpllffcfmhaa

/-
  The document's Get.
-/
namespace Go.Proofs.Ytbbfpllffcfmhaa
open Go.RowKit Go.Maps

section
variable {w0 : World} {n0 Bd : Nat} {limit : Int} {ns : List Dn} {lv : Value} {W : World}

set_option maxRecDepth 100000 in
set_option maxHeartbeats 2000000 in
theorem dget_any (h : DB w0 n0 Bd limit ns lv W) (id : Int) (hl : ns.length ≤ 1073741824) :
    Calls Try.prog 30 #[.pointer (some ⟨Bd, 0, none⟩), .int .i64 id] W fun e W' => ((∃ n ∈ ns, n.id = id ∧ e = .returned (.tuple #[tval n.t n.s, .bool true])) ∨ ((∀ n ∈ ns, n.id ≠ id) ∧ e = .returned (.tuple #[.agg #[.int .i64 0, .string ⟨#[]⟩, .slice none 0 0], .bool false]))) ∧ Below W.heap.size W W' := by
  obtain ⟨a, c, rfl⟩ := h.slice
  have hbx := below_box W (.cells #[.int .i64 0, .string ⟨#[]⟩, .slice none 0 0] 24)
  have h1 := (MapKept.heap_alloc W (.cells #[.int .i64 0, .string ⟨#[]⟩, .slice none 0 0] 24)).1
  obtain ⟨⟨d0, d1, d2⟩, e0, e1, e2⟩ := box_facts h1
  have hD := h.below hbx
  have hat := dat_any hD id hl
  have HD : Hid (DB w0 n0 Bd limit ns (.slice a ns.length c) (W.alloc (.cells #[.int .i64 0, .string ⟨#[]⟩, .slice none 0 0] 24)) ∧ Below W.heap.size W (W.alloc (.cells #[.int .i64 0, .string ⟨#[]⟩, .slice none 0 0] 24))) := ⟨hD, hbx⟩
  clear h hbx h1 hD
  go_enter Try.func30, Try.ntmps30
  go_wp2_with fail
  refine hat.mono ?_
  rintro e W2 ⟨r, rfl, hr, rfl⟩
  clear hat
  rcases hr with ⟨rfl, hn⟩ | ⟨k, hk, rfl, hp, _⟩
  · have HN : Hid (∀ n ∈ ns, n.id ≠ id) := hn
    clear hn
    go_wp2
    refine bodyPost_ret (v := .tuple #[.agg #[.int .i64 0, .string ⟨#[]⟩, .slice none 0 0], .bool false]) (by simp [results, Try.results30, go_sem, *]) rfl ?_
    exact ⟨.inr ⟨HN.out, rfl⟩, below_box W _⟩
  · obtain ⟨_, c1⟩ := HD.out.1.cells
    obtain ⟨g, rfl, hg, _, q1, q2, q3, _⟩ := HD.out.1.nth hk
    have hkI : (k : Int) < (ns.length : Int) := by omega
    have hk0 : (0 : Int) ≤ (k : Int) := by omega
    have hk1 : ¬ (k : Int) < 0 := by omega
    have hus := HD.out.1.args ns[k] (List.getElem_mem hk)
    obtain ⟨ua, uc, hsu, _, _⟩ := hus.slice
    have HK : Hid (∃ n ∈ ns, n.id = id ∧ n.t = ns[k].t ∧ n.s = ns[k].s) := ⟨_, List.getElem_mem hk, hp, rfl, rfl⟩
    have hgn : g ≠ W.heap.size := fun e => by
      obtain ⟨_, cq, hq⟩ := row_block HD.out.1.row (g := g) rfl
      rw [e, (MapKept.heap_alloc W _).1] at hq
      simp at hq
    obtain ⟨u, hu⟩ : ∃ u, ns[k].t = u := ⟨_, rfl⟩
    obtain ⟨s, hs⟩ : ∃ s, ns[k].s = s := ⟨_, rfl⟩
    rw [hu] at q1 q2 hsu HK
    rw [hs] at q3 hsu HK
    subst hsu
    clear hus hu hs hp
    go_wp2
    refine bodyPost_ret (v := .tuple #[tval u (.slice ua u.args.length uc), .bool true]) (by simp [results, Try.results30, go_sem, *]) rfl ?_
    refine ⟨.inl ?_, below_box W _⟩
    obtain ⟨n, n1, n2, n3, n4⟩ := HK.out
    exact ⟨n, n1, n2, by rw [n3, n4]⟩

end

end Go.Proofs.Ytbbfpllffcfmhaa

/-
  The document's parts.
-/
namespace Go.Proofs.Ytbbfpllffcfmhaa
open Go.RowKit Go.Maps

theorem hid {p : Prop} (h : p) : Hid p := h
theorem lit3 (W : World) (u v s : Value) : ∀ j x, [u, v, s][j]? = some x → (W.alloc (.cells #[u, v, s] 24)).cell? ((⟨W.heap.size, 0, none⟩ : Addr).add j) = some x := fun j x hj => by
  rw [Addr.add_mid, Nat.zero_add]
  exact cell_at (MapKept.heap_alloc W _).1 (by simpa using hj)

/-- All parts, arguments ahead of what they are of. -/
def T.post : T → List T
  | .mk v fn args => posts args ++ [.mk v fn args]
where posts : List T → List T
  | [] => []
  | a :: r => a.post ++ posts r

theorem T.posts_eq : ∀ l : List T, T.post.posts l = l.flatMap T.post
  | [] => rfl
  | a :: r => by simp [T.post.posts, T.posts_eq r]
theorem T.post_eq (t : T) : t.post = t.args.flatMap T.post ++ [t] := by
  cases t with
  | mk v fn args => simp only [T.post, T.args, T.posts_eq]
theorem post_len (t : T) : (t.post.length : Int) = t.size := by
  induction t using T.ind with
  | _ t ih =>
    have h : ∀ l : List T, (∀ a ∈ l, a ∈ t.args) → (((l.flatMap T.post).length : Nat) : Int) = (l.map T.size).sum := by
      intro l
      induction l with
      | nil => intro _; rfl
      | cons a r ihl =>
        intro hm
        have h1 := ih a (hm a List.mem_cons_self)
        have h2 := ihl fun b hb => hm b (List.mem_cons_of_mem _ hb)
        rw [List.flatMap_cons, List.length_append, List.map_cons, List.sum_cons]
        omega
    rw [T.post_eq, List.length_append, T.size_eq]
    have := h t.args fun _ h => h
    rw [List.length_singleton]
    omega

/-- A row of terms that came from elsewhere. -/
structure PAt (w0 : World) (base : Nat) (v : Value) (ps : List (T × Value)) (W : World) : Prop where
  row : W.ownsRow base 24 3 v ps.length (flat ps)
  args : ∀ p ∈ ps, ArgsAt w0 p.2 p.1.args

theorem flat_one {w0 : World} {ps : List (T × Value)} (h : ∀ p ∈ ps, ArgsAt w0 p.2 p.1.args) : ∀ u ∈ flat ps, u.oneCell' = true := by
  intro u hu
  unfold flat at hu
  obtain ⟨p, hp, hu⟩ := List.mem_flatMap.1 hu
  obtain ⟨a, c, e, _⟩ := (h p hp).slice
  simp only [List.mem_cons, List.not_mem_nil, or_false] at hu
  rcases hu with rfl | rfl | rfl
  · rfl
  · rfl
  · rw [e]; rfl

theorem flat_len (ps : List (T × Value)) : (flat ps).length = ps.length * 3 := by
  induction ps with
  | nil => rfl
  | cons a r ih =>
    rw [show flat (a :: r) = [.int .i64 a.1.v, .string a.1.fn, a.2] ++ flat r from rfl, List.length_append, ih, List.length_cons]
    simp
    omega
theorem flat_append (a b : List (T × Value)) : flat (a ++ b) = flat a ++ flat b := by simp [flat]

theorem flat_take (l : List T) (i : Nat) : ((l.take i).flatMap T.post).length ≤ (l.flatMap T.post).length := by
  have e : (l.flatMap T.post).length = ((l.take i).flatMap T.post).length + ((l.drop i).flatMap T.post).length := by
    rw [← List.length_append, ← List.flatMap_append, List.take_append_drop]
  omega
theorem flat_mem : ∀ (l : List T) (a : T), a ∈ l → a.post.length ≤ (l.flatMap T.post).length
  | [], _, h => by cases h
  | b :: r, a, h => by
    rw [List.flatMap_cons, List.length_append]
    rcases List.mem_cons.1 h with rfl | h
    · omega
    · have := flat_mem r a h
      omega

theorem row_lowB {W : World} {b b' : Nat} {e : TypeId} {s : Nat} {v : Value} {n : Nat} {xs : List Value} (h : W.ownsRow b e s v n xs) (hb : b' ≤ b) : W.ownsRow b' e s v n xs := by
  refine ⟨h.1, ?_⟩
  rcases h.2 with h0 | ⟨g, cap, cur, e0, hg, r⟩
  · exact .inl h0
  · exact .inr ⟨g, cap, cur, e0, Nat.le_trans hb hg, r⟩

theorem row_some {W : World} {b : Nat} {e : TypeId} {s : Nat} {v : Value} {n : Nat} {xs : List Value} (h : W.ownsRow b e s v n xs) (h0 : 0 < n) : ∃ g c, v = .slice (some ⟨g, 0, none⟩) n c := by
  rcases h.2 with ⟨_, h1⟩ | ⟨g, cap, cur, e0, _⟩
  · omega
  · exact ⟨g, cap, e0⟩

theorem grown_below {n : Nat} {A X w' : World} {row : Option Nat} (h : Below n A X) (hg : X.grownBy w' row) (hr : ∀ g, row = some g → n ≤ g) (hn : n ≤ X.heap.size) : Below n A w' :=
  h.trans ⟨hg.os, hg.tape, hg.output, hg.size, fun k hk => hg.block k (by omega) (fun e => by have := hr k e.symm; omega)⟩

/-- What the loop over the arguments keeps. -/
def PL (w0 : World) (base : Nat) (l : List T) (i : Nat) (n : Nat) (v : Value) (W1 wr : World) : Prop := ∃ ps : List (T × Value), ps.length = n ∧ PAt w0 base v ps wr ∧ ps.map (·.1) = (l.take i).flatMap T.post ∧ Below base W1 wr

set_option maxRecDepth 100000 in
set_option maxHeartbeats 4000000 in
theorem dparts_any (w0 : World) (t : T) : ∀ (sl : Value) (W : World), ArgsAt w0 sl t.args → Below w0.heap.size w0 W → t.size ≤ 1048576 →
    Calls Try.prog 51 #[tval t sl] W fun e W' => ∃ v ps, e = .returned v ∧ PAt w0 W.heap.size v ps W' ∧ ps.map (·.1) = t.post ∧ Below W.heap.size W W' := by
  induction t using T.ind with
  | _ t ih =>
  intro sl W ha hw hsz
  obtain ⟨a, c, rfl, hc, hm⟩ := ha.slice
  have hbx0 := below_box W (tbox t (.slice a t.args.length c))
  obtain ⟨t0, t1, t2⟩ := tbox_cells W t (.slice a t.args.length c)
  obtain ⟨i0, hi0, hiz⟩ := Option.map_eq_some_iff.1 info24
  simp only [Prod.mk.injEq] at hiz
  obtain ⟨hz0, hz1, hz2⟩ := hiz
  have HT : Hid ((W.alloc (tbox t (.slice a t.args.length c))).cell? ⟨W.heap.size, 0, none⟩ = some (.int .i64 t.v) ∧ (W.alloc (tbox t (.slice a t.args.length c))).cell? ⟨W.heap.size, 1, none⟩ = some (.string t.fn) ∧ (W.alloc (tbox t (.slice a t.args.length c))).cell? ⟨W.heap.size, 2, none⟩ = some (.slice a t.args.length c)) := ⟨t0, t1, t2⟩
  have HW : Hid (ArgsAt w0 (.slice a t.args.length c) t.args ∧ Below w0.heap.size w0 (W.alloc (tbox t (.slice a t.args.length c))) ∧ t.size ≤ 1048576 ∧ Below W.heap.size W (W.alloc (tbox t (.slice a t.args.length c))) ∧ w0.heap.size ≤ W.heap.size) := ⟨ha, hw.trans (hbx0.mono hw.size), hsz, hbx0, hw.size⟩
  have HIH : Hid (∀ b ∈ t.args, ∀ (sl : Value) (W : World), ArgsAt w0 sl b.args → Below w0.heap.size w0 W → b.size ≤ 1048576 → Calls Try.prog 51 #[tval b sl] W fun e W' => ∃ v ps, e = .returned v ∧ PAt w0 W.heap.size v ps W' ∧ ps.map (·.1) = b.post ∧ Below W.heap.size W W') := ih
  clear ih ha hw hbx0 t0 t1 t2
  go_enter Try.func51, Try.ntmps51
  go_wp2
  obtain ⟨W1, hW1⟩ : ∃ X, W.alloc (tbox t (.slice a t.args.length c)) = X := ⟨_, rfl⟩
  have HS : Hid (W1.heap.size = W.heap.size + 1) := by show _ = _; rw [← hW1]; simp
  simp only [hW1] at HT HW ⊢
  clear hW1
  go_loopw [3, 4] (fun vo vi wr => ∃ (i n : Nat) (va : Option Addr) (vc : Nat), vi = .int .i64 i ∧ i ≤ t.args.length ∧ vo = .slice va n vc ∧ Hid (PL w0 (W.heap.size + 1) t.args i n (.slice va n vc) W1 wr)) (fun _ vi _ => t.args.length - (intOf vi).toNat)
  case atStart => exact ⟨0, 0, none, 0, rfl, Nat.zero_le _, rfl, [], rfl, ⟨World.ownsRow_nil _ _ _ _, fun p hp => (by cases hp)⟩, by simp, Below.refl _ _⟩
  case round =>
    obtain ⟨i, n, va, vc, rfl, hi, rfl, HI⟩ := hrel
    have hb : Below (W.heap.size + 1) W1 wr := by obtain ⟨ps, _, _, _, h⟩ := HI.out; exact h
    have e0 := kc hb (Nat.lt_succ_self _) HT.out.1
    have e1 := kc hb (Nat.lt_succ_self _) HT.out.2.1
    have e2 := kc hb (Nat.lt_succ_self _) HT.out.2.2
    have hws : W.heap.size + 1 ≤ wr.heap.size := by have := hb.size; have := HS.out; omega
    have hw0 : Below w0.heap.size w0 wr := HW.out.2.1.trans (hb.mono (by have := HW.out.2.2.2.2; omega))
    have hn : n ≤ 1048576 := by
      obtain ⟨ps, h1, _, h2, _⟩ := HI.out
      have h3 := congrArg List.length h2
      rw [List.length_map, h1] at h3
      have h4 : ((t.args.take i).flatMap T.post).length ≤ t.post.length := by
        rw [T.post_eq, List.length_append]
        have := flat_take t.args i
        omega
      have := post_len t
      have := HW.out.2.2.1
      omega
    by_cases hlt : i < t.args.length
    · have hiI : (i : Int) < (t.args.length : Int) := by omega
      have hi1 : (0 : Int) ≤ (i : Int) := by omega
      obtain ⟨b0, o0, s0, rfl, hb0, a0, a1, a2, has⟩ := HW.out.1.nth hlt
      have c0 := kc hw0 hb0 a0
      have c1 := kc hw0 hb0 a1
      have c2 := kc hw0 hb0 a2
      have hsz1 : t.args[i].size ≤ 1048576 := by
        have h1 := post_len t.args[i]
        have h2 := post_len t
        have h3 : t.args[i].post.length ≤ t.post.length := by
          rw [T.post_eq t, List.length_append]
          have := flat_mem t.args _ (List.getElem_mem hlt)
          omega
        have := HW.out.2.2.1
        omega
      have hcall := HIH.out t.args[i] (List.getElem_mem hlt) s0 wr has hw0 hsz1
      obtain ⟨sa, sc, rfl, _, _⟩ := has.slice
      obtain ⟨u, hu⟩ : ∃ u, t.args[i] = u := ⟨_, rfl⟩
      have HU : Hid ((t.args.take (i + 1)).flatMap T.post = (t.args.take i).flatMap T.post ++ u.post ∧ u.size ≤ 1048576) := ⟨by rw [List.take_succ_eq_append_getElem hlt, List.flatMap_append, hu]; simp, by rw [← hu]; exact hsz1⟩
      rw [hu] at c0 c1 c2 hcall
      clear hu hsz1 has a0 a1 a2
      have HB : Hid (W.heap.size + 1 ≤ wr.heap.size) := hws
      clear hb hw0 hws e0 e1
      go_wp2_with fail
      refine hcall.mono ?_
      rintro e W2 ⟨v2, ps2, rfl, hP2, hm2, hb2⟩
      have hp0 : 0 < ps2.length ∧ ps2.length ≤ 1048576 := by
        have h3 := congrArg List.length hm2
        rw [List.length_map] at h3
        have := post_len u
        have := HU.out.2
        have := size_pos u
        omega
      obtain ⟨g2, k2, rfl⟩ := row_some hP2.row hp0.1
      have hcell : ∀ j x, (flat ps2)[j]? = some x → W2.cell? ((⟨g2, 0, none⟩ : Addr).add j) = some x := hP2.row.cells rfl
      have hone := flat_one hP2.args
      have HM : Hid (∃ ps : List (T × Value), ps.length = n ∧ W2.ownsRow (W.heap.size + 1) 24 3 (.slice va n vc) n (flat ps) ∧ ∀ (v' : Value) (w' : World), w'.ownsRow (W.heap.size + 1) 24 3 v' (n + ps2.length) (flat ps ++ flat ps2) → W2.grownBy w' (Value.slice va n vc).ownBlock → PL w0 (W.heap.size + 1) t.args (i + 1) (n + ps2.length) v' W1 w') := by
        obtain ⟨ps, h1, h2, h3, h4⟩ := HI.out
        subst h1
        have hr2 := row_keep h2.row (W' := W2) (fun g hg => hb2.block g (by obtain ⟨_, cq, hq⟩ := row_block h2.row hg; exact (Array.getElem?_eq_some_iff.1 hq).1))
        refine ⟨ps, rfl, hr2, fun v' w' k1 k3 => ⟨ps ++ ps2, by simp, ⟨by rw [List.length_append, flat_append]; exact k1, fun p hp => ?_⟩, ?_, ?_⟩⟩
        · rcases List.mem_append.1 hp with hp | hp
          · exact h2.args p hp
          · exact hP2.args p hp
        · rw [List.map_append, h3, hm2, HU.out.1]
        · exact grown_below (h4.trans (hb2.mono HB.out)) k3 (fun g hg => (row_block h2.row hg).1) (Nat.le_trans HB.out hb2.size)
      obtain ⟨ps, hpn, hrow, HN⟩ := HM.out
      have HN' := hid HN
      have hW2 : W.heap.size + 1 ≤ W2.heap.size := Nat.le_trans HB.out hb2.size
      have hl2 := flat_len ps2
      clear HM HN hP2 hm2 hb2 hcall HI HU HB hpn
      go_wp2_with (at_builtin; refine wpList_append_own_at _ rfl _ _ 22 rfl (W.heap.size + 1) 24 i0 (.agg #[.int .i64 0, .string ⟨#[]⟩, .slice none 0 0]) 3 48 Try.underlying22 hi0 hz0 hz1 hz2 rfl (by decide) _ _ _ rfl hrow ⟨g2, 0, none⟩ ps2.length k2 (flat ps2) rfl hl2 hcell hone (by unfold maxLen; omega) (by omega) hW2 ?_; intro v3 w3 k1 k3 _ _; obtain ⟨a3, c3, rfl⟩ := row_slice k1; have HE := hid (HN'.out _ w3 k1 k3); clear k1 k3)
      go_roundw
      case rel => exact ⟨i + 1, n + ps2.length, a3, c3, by go_num, by omega, rfl, HE⟩
      case measure => simp [intOf]; omega
    · have hiI : ¬ (i : Int) < (t.args.length : Int) := by omega
      have HM : Hid (∃ ps : List (T × Value), ps.length = n ∧ (wr.alloc (.cells #[.int .i64 t.v, .string t.fn, .slice a t.args.length c] 24)).ownsRow (W.heap.size + 1) 24 3 (.slice va n vc) n (flat ps) ∧ ∀ (v' : Value) (w' : World), w'.ownsRow (W.heap.size + 1) 24 3 v' (n + 1) (flat ps ++ [.int .i64 t.v, .string t.fn, .slice a t.args.length c]) → (wr.alloc (.cells #[.int .i64 t.v, .string t.fn, .slice a t.args.length c] 24)).grownBy w' (Value.slice va n vc).ownBlock → ∃ ps, PAt w0 W.heap.size v' ps w' ∧ ps.map (·.1) = t.post ∧ Below W.heap.size W w') := by
        obtain ⟨ps, h1, h2, h3, h4⟩ := HI.out
        subst h1
        have hbx := below_box wr (.cells #[.int .i64 t.v, .string t.fn, .slice a t.args.length c] 24)
        have hr2 := row_keep h2.row (W' := wr.alloc (.cells #[.int .i64 t.v, .string t.fn, .slice a t.args.length c] 24)) (fun g hg => hbx.block g (by obtain ⟨_, cq, hq⟩ := row_block h2.row hg; exact (Array.getElem?_eq_some_iff.1 hq).1))
        refine ⟨ps, rfl, hr2, fun v' w' k1 k3 => ⟨ps ++ [(t, .slice a t.args.length c)], ⟨by rw [List.length_append, flat_append]; exact row_lowB k1 (Nat.le_succ _), fun p hp => ?_⟩, ?_, ?_⟩⟩
        · rcases List.mem_append.1 hp with hp | hp
          · exact h2.args p hp
          · obtain rfl := List.mem_singleton.1 hp
            exact HW.out.1
        · rw [List.map_append, h3, T.post_eq, List.take_of_length_le (by omega)]
          rfl
        · have hb3 := grown_below (h4.trans (hbx.mono hws)) k3 (fun g hg => (row_block h2.row hg).1) (Nat.le_trans hws hbx.size)
          exact HW.out.2.2.2.1.trans (hb3.mono (Nat.le_succ _))
      obtain ⟨ps, hpn, hrow, HN⟩ := HM.out
      have HN' := hid HN
      have hW2 : W.heap.size + 1 ≤ (wr.alloc (.cells #[.int .i64 t.v, .string t.fn, .slice a t.args.length c] 24)).heap.size := by simp; omega
      clear HM HN HI hb hw0 hpn
      go_wp2_with (at_builtin; refine wpList_append_own_at _ rfl _ _ 22 rfl (W.heap.size + 1) 24 i0 (.agg #[.int .i64 0, .string ⟨#[]⟩, .slice none 0 0]) 3 48 Try.underlying22 hi0 hz0 hz1 hz2 rfl (by decide) _ _ _ rfl hrow ⟨wr.heap.size, 0, none⟩ 1 1 [.int .i64 t.v, .string t.fn, .slice a t.args.length c] rfl rfl (lit3 wr _ _ _) (by simp [Value.oneCell']) (by unfold maxLen; omega) (by omega) hW2 ?_; intro v3 w3 k1 k3 _ _; have HE := hid (HN'.out _ w3 k1 k3); clear k1 k3)
      go_ret
      obtain ⟨ps3, r1, r2, r3⟩ := HE.out
      exact ⟨_, rfl, ps3, r1, r2, r3⟩

end Go.Proofs.Ytbbfpllffcfmhaa

/-
  The document's has.
-/
namespace Go.Proofs.Ytbbfpllffcfmhaa
open Go.RowKit Go.Maps

open Classical in
/-- Is s a part of t? -/
noncomputable def hasB (t s : T) : Bool := decide (s ∈ t.post)

theorem hasB_iff {t s : T} : hasB t s = true ↔ s ∈ t.post := by simp [hasB]

theorem PAt.kept {w0 : World} {base : Nat} {v : Value} {ps : List (T × Value)} {W : World} (h : PAt w0 base v ps W) (hw : Below w0.heap.size w0 W) : ArgsAt W v (ps.map (·.1)) :=
  (argsP_of_row (P := fun _ => True) h.row (by simp) rfl (fun _ _ => trivial) (fun p hp => ((ArgsAt.keep hw (Nat.le_refl _) (h.args p hp)).belowP).keep (Nat.le_refl _) (fun _ _ _ => ⟨trivial, rfl⟩))).args

set_option maxRecDepth 100000 in
set_option maxHeartbeats 4000000 in
theorem dhas_any (w0 : World) (t s : T) (st ss : Value) (W : World) (ha : ArgsAt w0 st t.args) (hb : ArgsAt w0 ss s.args) (hw : Below w0.heap.size w0 W) (hsz : t.size ≤ 1048576) :
    Calls Try.prog 55 #[tval t st, tval s ss] W fun e W' => e = .returned (.bool (hasB t s)) ∧ Below W.heap.size W W' := by
  obtain ⟨aa, ac, rfl, _, _⟩ := ha.slice
  obtain ⟨ba, bc, rfl, _, _⟩ := hb.slice
  have hbx0 := below_box2 W (tbox t (.slice aa t.args.length ac)) (tbox s (.slice ba s.args.length bc))
  obtain ⟨⟨p0, p1, p2⟩, ⟨t0, t1, t2⟩⟩ := tbox2_cells W t (.slice aa t.args.length ac) s (.slice ba s.args.length bc)
  have hw1 : Below w0.heap.size w0 (tbox2 W t (.slice aa t.args.length ac) s (.slice ba s.args.length bc)) := hw.trans (hbx0.mono hw.size)
  have hpa := dparts_any w0 t (.slice aa t.args.length ac) _ ha hw1 hsz
  have HW : Hid (ArgsAt w0 (.slice ba s.args.length bc) s.args ∧ Below w0.heap.size w0 (tbox2 W t (.slice aa t.args.length ac) s (.slice ba s.args.length bc)) ∧ Below W.heap.size W (tbox2 W t (.slice aa t.args.length ac) s (.slice ba s.args.length bc)) ∧ W.heap.size + 1 < (tbox2 W t (.slice aa t.args.length ac) s (.slice ba s.args.length bc)).heap.size) := ⟨hb, hw1, hbx0, by simp [tbox2]⟩
  have HT := hid (And.intro t0 (And.intro t1 t2))
  have HZ : Hid (t.size ≤ 1048576) := hsz
  clear ha hb hw hbx0 hw1 hsz t0 t1 t2
  go_enter Try.func55, Try.ntmps55
  go_wp2_with fail
  refine hpa.mono ?_
  rintro e W2 ⟨v2, ps, rfl, hP, hm, hb2⟩
  have HM : Hid (ps.map (·.1) = t.post) := hm
  have hpl : ps.length ≤ 1048576 := by
    have h1 := congrArg List.length hm
    rw [List.length_map] at h1
    have := post_len t
    have := HZ.out
    omega
  have hA := hP.kept (HW.out.2.1.trans (hb2.mono HW.out.2.1.size))
  obtain ⟨ka, kp, hv2⟩ := row_slice hP.row
  subst hv2
  have HA : Hid (ArgsAt W2 (.slice ka ps.length kp) (ps.map (·.1)) ∧ Below W.heap.size W W2 ∧ Below w0.heap.size w0 W2 ∧ W.heap.size + 1 < W2.heap.size) := ⟨hA, HW.out.2.2.1.trans (hb2.mono HW.out.2.2.1.size), HW.out.2.1.trans (hb2.mono HW.out.2.1.size), Nat.lt_of_lt_of_le HW.out.2.2.2 hb2.size⟩
  have HT2 := hid (And.intro (kc hb2 HW.out.2.2.2 HT.out.1) (And.intro (kc hb2 HW.out.2.2.2 HT.out.2.1) (kc hb2 HW.out.2.2.2 HT.out.2.2)))
  clear hpa hP hm hA hb2 HT p0 p1 p2
  go_wp2
  go_loopw [6] (fun vi wr => ∃ i : Nat, vi = .int .i64 i ∧ i ≤ ps.length ∧ Hid (∀ j (hj : j < (ps.map (·.1)).length), j < i → (ps.map (·.1))[j] ≠ s) ∧ Below W2.heap.size W2 wr) (fun vi _ => ps.length - (intOf vi).toNat)
  case atStart => exact ⟨0, rfl, Nat.zero_le _, fun j _ hj => absurd hj (by omega), Below.refl _ _⟩
  case round =>
    obtain ⟨i, rfl, hi, HI, hb1⟩ := hrel
    have HB1 : Hid (Below W2.heap.size W2 wr ∧ Below W.heap.size W wr) := ⟨hb1, HA.out.2.1.trans (hb1.mono HA.out.2.1.size)⟩
    by_cases hlt : i < ps.length
    · have hiI : (i : Int) < (ps.length : Int) := by omega
      have hi0 : (0 : Int) ≤ (i : Int) := by omega
      have hlt2 : i < (ps.map (·.1)).length := by simpa using hlt
      obtain ⟨gk, ok, su, hka, hgk, q1, q2, q3, hus⟩ := HA.out.1.nth hlt2
      subst hka
      have d1 := kc hb1 hgk q1
      have d2 := kc hb1 hgk q2
      have d3 := kc hb1 hgk q3
      have hg : gk < wr.heap.size := Nat.lt_of_lt_of_le hgk hb1.size
      have hbx : W.heap.size + 1 < wr.heap.size := Nat.lt_of_lt_of_le HA.out.2.2.2 hb1.size
      have t0 := kc hb1 HA.out.2.2.2 HT2.out.1
      have t1 := kc hb1 HA.out.2.2.2 HT2.out.2.1
      have t2 := kc hb1 HA.out.2.2.2 HT2.out.2.2
      obtain ⟨u, hu⟩ : ∃ u, (ps.map (·.1))[i] = u := ⟨_, rfl⟩
      have HU : Hid ((ps.map (·.1))[i] = u) := hu
      rw [hu] at d1 d2 hus
      obtain ⟨ua, uc, hsu, _, _⟩ := hus.slice
      rw [hsu] at d3 hus
      have hwr := HA.out.2.2.1.trans (hb1.mono HA.out.2.2.1.size)
      have hdr : Below wr.heap.size wr wr.drew := (Below.refl _ wr).drew
      have ih' := (rsame_any u s (.slice ua u.args.length uc) (.slice ba s.args.length bc) wr.drew (ArgsAt.keep hdr (Nat.le_refl _) (ArgsAt.keep hb1 (Nat.le_refl _) hus)) (ArgsAt.keep hdr (Nat.le_refl _) (ArgsAt.keep hwr (Nat.le_refl _) HW.out.1))).mono (R' := fun e w' => e = .returned (.bool (same u s)) ∧ Below wr.heap.size wr w') (fun e w' h => ⟨h.1, hdr.trans h.2⟩)
      clear hus hdr hwr hu hsu hb1 q1 q2 q3
      by_cases he : u = s
      · have HE : Hid (hasB t s = true) := by
          exact hasB_iff.2 (by rw [← HM.out, ← he, ← HU.out]; exact List.getElem_mem _)
        rw [same_iff.2 he] at ih'
        clear HI HU he
        go_wp2
        go_region_held3 (fun X => (X.cell? ⟨gk, ok + i * 3, none⟩ = some (.int .i64 u.v) ∧ X.cell? ⟨gk, ok + i * 3 + 1, none⟩ = some (.string u.fn) ∧ X.cell? ⟨gk, ok + i * 3 + 2, none⟩ = some (.slice ua u.args.length uc)) ∧ (X.cell? ⟨W.heap.size + 1, 0, none⟩ = some (.int .i64 s.v) ∧ X.cell? ⟨W.heap.size + 1, 1, none⟩ = some (.string s.fn) ∧ X.cell? ⟨W.heap.size + 1, 2, none⟩ = some (.slice ba s.args.length bc))) (first | exact ⟨⟨d1, d2, d3⟩, t0, t1, t2⟩ | exact ⟨⟨kc hb' hg d1, kc hb' hg d2, kc hb' hg d3⟩, kc hb' hbx t0, kc hb' hbx t1, kc hb' hbx t2⟩) (first | (go_at_call 19; refine ih'.mono ?_; rintro e w' ⟨rfl, hb'⟩))
        go_wp2
        go_ret
        exact ⟨ret_bool (by rw [HE]), HB1.out.2.trans (hb'.mono HB1.out.2.size)⟩
      · have HN : Hid (∀ j (hj : j < (ps.map (·.1)).length), j < i + 1 → (ps.map (·.1))[j] ≠ s) := fun j hj h1 => by
          by_cases e : j = i
          · subst e; rw [HU.out]; exact he
          · exact HI.out j hj (by omega)
        rw [same_false.2 he] at ih'
        clear HI HU he
        go_wp2
        go_region_held3 (fun X => (X.cell? ⟨gk, ok + i * 3, none⟩ = some (.int .i64 u.v) ∧ X.cell? ⟨gk, ok + i * 3 + 1, none⟩ = some (.string u.fn) ∧ X.cell? ⟨gk, ok + i * 3 + 2, none⟩ = some (.slice ua u.args.length uc)) ∧ (X.cell? ⟨W.heap.size + 1, 0, none⟩ = some (.int .i64 s.v) ∧ X.cell? ⟨W.heap.size + 1, 1, none⟩ = some (.string s.fn) ∧ X.cell? ⟨W.heap.size + 1, 2, none⟩ = some (.slice ba s.args.length bc))) (first | exact ⟨⟨d1, d2, d3⟩, t0, t1, t2⟩ | exact ⟨⟨kc hb' hg d1, kc hb' hg d2, kc hb' hg d3⟩, kc hb' hbx t0, kc hb' hbx t1, kc hb' hbx t2⟩) (first | (go_at_call 19; refine ih'.mono ?_; rintro e w' ⟨rfl, hb'⟩))
        go_wp2
        go_roundw
        case rel => exact ⟨i + 1, by go_num, by omega, HN, HB1.out.1.trans (hb'.mono HB1.out.1.size)⟩
        case measure => simp [intOf]; omega
    · have hiI : ¬ (i : Int) < (ps.length : Int) := by omega
      have HE : Hid (hasB t s = false) := by
        show _ = _
        rw [Bool.eq_false_iff]
        intro hh
        have hm := hasB_iff.1 hh
        rw [← HM.out] at hm
        obtain ⟨j, hj, e⟩ := List.getElem_of_mem hm
        exact HI.out j hj (by simp at hj; omega) e
      clear HI
      go_wp2
      go_ret
      exact ⟨ret_bool (by rw [HE]), HB1.out.2⟩

end Go.Proofs.Ytbbfpllffcfmhaa

/-
  The document's bank: how often a node is kept is written anew.
-/
namespace Go.Proofs.Ytbbfpllffcfmhaa
open Go.RowKit Go.Maps

/-- A node that is kept so often. -/
def Dn.put (n : Dn) (z : Int) : Dn := { n with kept := z }

theorem flat5_cons (a : Dn) (r : List Dn) : flat5 (a :: r) = .int .i64 a.id :: .int .i64 a.t.v :: .string a.t.fn :: a.s :: .int .i64 a.kept :: flat5 r := rfl

theorem flat5_put (z : Int) : ∀ (ns : List Dn) (k : Nat) (h : k < ns.length), flat5 (ns.set k (ns[k].put z)) = (flat5 ns).set (k * 5 + 4) (.int .i64 z)
  | [], k, h => absurd h (by simp)
  | a :: r, 0, _ => rfl
  | a :: r, k + 1, h => by
    have ih := flat5_put z r k (by simpa using h)
    rw [List.set_cons_succ, flat5_cons, flat5_cons, show (k + 1) * 5 + 4 = (k * 5 + 4) + 1 + 1 + 1 + 1 + 1 by omega]
    simp only [List.set_cons_succ, List.getElem_cons_succ]
    rw [ih]

theorem row_put {W : World} {base : Nat} {e : TypeId} {s : Nat} {g n c : Nat} {xs : List Value} (h : W.ownsRow base e s (.slice (some ⟨g, 0, none⟩) n c) n xs) (i : Nat) (x : Value) : (W.setCell ⟨g, i, none⟩ x).ownsRow base e s (.slice (some ⟨g, 0, none⟩) n c) n (xs.set i x) := by
  obtain ⟨hl, ⟨e0, _⟩ | ⟨g', cap, cur, e0, hb, hg, hc, hm, hs, ht⟩⟩ := h
  · cases e0
  · cases e0
    refine ⟨by rw [List.length_set]; exact hl, .inr ⟨g, c, cur.setIfInBounds i x, rfl, hb, heap_setCell_same W g i cur e x hg, hc, hm, by simpa using hs, ?_⟩⟩
    rw [← ht, Array.toList_setIfInBounds, List.take_set]

section
variable {w0 : World} {n0 Bd : Nat} {limit : Int} {ns : List Dn} {W : World} {g c : Nat}

theorem DB.put (h : DB w0 n0 Bd limit ns (.slice (some ⟨g, 0, none⟩) ns.length c) W) {k : Nat} (hk : k < ns.length) (z : Int) : DB w0 n0 Bd limit (ns.set k (ns[k].put z)) (.slice (some ⟨g, 0, none⟩) ns.length c) (W.setCell ⟨g, k * 5 + 4, none⟩ (.int .i64 z)) := by
  have hne : g ≠ Bd := fun e => h.ne (by rw [← e]; rfl)
  refine ⟨(Below.heap_setCell _ _ _ Bd (by show Bd ≠ g; exact Ne.symm hne)).trans h.head, ?_, fun n hn => ?_, h.ne, h.low, h.hn0⟩
  · rw [List.length_set, flat5_put]
    exact row_put h.row _ _
  · rcases List.mem_or_eq_of_mem_set hn with h1 | h1
    · exact h.args n h1
    · rw [h1]
      exact h.args ns[k] (List.getElem_mem hk)

theorem DB.froz (h : DB w0 n0 Bd limit ns (.slice (some ⟨g, 0, none⟩) ns.length c) W) : (∀ o, W.frozen? ⟨Bd, o, none⟩ = false) ∧ ∀ o, W.frozen? ⟨g, o, none⟩ = false := by
  refine ⟨fun o => by simp [World.frozen?, h.head], fun o => ?_⟩
  obtain ⟨_, cq, hq⟩ := row_block h.row (g := g) rfl
  simp [World.frozen?, hq]

end

end Go.Proofs.Ytbbfpllffcfmhaa

/-
  The document's Drop.
-/
namespace Go.Proofs.Ytbbfpllffcfmhaa
open Go.RowKit Go.Maps

theorem Try.info89 : (Try.prog.info? 89).map (fun i => (i.zero, i.size, i.bytes)) = some (some (.agg #[.int .i64 0, .int .i64 0, .string ⟨#[]⟩, .slice none 0 0, .int .i64 0]), 5, 64) := by kernel_rfl

/-- Is the node part of one that is kept? -/
noncomputable def needB (ns : List Dn) (n : Dn) : Bool := ns.any fun m => decide (0 < m.kept) && hasB m.t n.t

/-- The loop over what may keep the k-th node. -/
theorem need_snoc (ns : List Dn) (q : Dn) (j : Nat) (hj : j < ns.length) : needB (ns.take (j + 1)) q = (needB (ns.take j) q || (decide (0 < ns[j].kept) && hasB ns[j].t q.t)) := by
  unfold needB
  rw [List.take_succ_eq_append_getElem hj, List.any_append]
  simp

section
variable {w0 : World} {n0 Bd : Nat} {limit : Int} {ns : List Dn} {W : World} {g c : Nat}

set_option maxRecDepth 100000 in
set_option maxHeartbeats 2000000 in
theorem ddrop_no {lv : Value} (h : DB w0 n0 Bd limit ns lv W) (id : Int) (hl : ns.length ≤ 1073741824) (hn : ∀ (k : Nat) (hk : k < ns.length), ns[k].id = id → (∀ j (hj : j < ns.length), j < k → ns[j].id ≠ id) → ns[k].kept = 0) :
    Calls Try.prog 28 #[.pointer (some ⟨Bd, 0, none⟩), .int .i64 id] W fun e W' => e = .returned (.bool false) ∧ W' = W := by
  obtain ⟨a, c, rfl⟩ := h.slice
  have hat := dat_any h id hl
  have HD := hid h
  have HN := hid hn
  clear h hn
  go_enter Try.func28, Try.ntmps28
  go_wp2_with fail
  refine hat.mono ?_
  rintro e W2 ⟨r, rfl, hr, rfl⟩
  clear hat
  rcases hr with ⟨rfl, _⟩ | ⟨k, hk, rfl, hp, hq⟩
  · go_wp2
    go_ret
    exact ⟨rfl, rfl⟩
  · have hz := HN.out k hk hp hq
    obtain ⟨_, c1⟩ := HD.out.cells
    obtain ⟨g, rfl, hg, _, _, _, _, q4⟩ := HD.out.nth hk
    rw [hz] at q4
    have hkI : (k : Int) < (ns.length : Int) := by omega
    have hk0 : (0 : Int) ≤ (k : Int) := by omega
    have hk1 : ¬ (k : Int) < 0 := by omega
    clear hp hq hz
    go_wp2
    go_ret
    exact ⟨rfl, rfl⟩

end

end Go.Proofs.Ytbbfpllffcfmhaa
