/-
  FingerPlays' walk.
-/
import Derived.Test.YtiklbkkimmgbcaaGN
import Derived.Test.YtiklbkkimmgbcaaFN
namespace Go.Proofs.Ytiklbkkimmgbcaa
open Go.RowKit Go.Maps

/-- A step of a script: what to do, a number, a term, and where its arguments lie. -/
abbrev Sc := Int × Int × T × Value
def ScAt (W : World) (v : Value) (c : List Sc) : Prop :=
  ∃ a d, v = .slice a c.length d ∧ c.length ≤ d ∧ d ≤ 9223372036854775807 ∧ (0 < c.length → ∃ b o, b < W.heap.size ∧ a = some ⟨b, o, none⟩ ∧ ∀ i (h : i < c.length), W.cell? ⟨b, o + i * 5, none⟩ = some (.int .i64 c[i].1) ∧ W.cell? ⟨b, o + i * 5 + 1, none⟩ = some (.int .i64 c[i].2.1) ∧ W.cell? ⟨b, o + i * 5 + 2, none⟩ = some (.int .i64 c[i].2.2.1.v) ∧ W.cell? ⟨b, o + i * 5 + 3, none⟩ = some (.string c[i].2.2.1.fn) ∧ W.cell? ⟨b, o + i * 5 + 4, none⟩ = some c[i].2.2.2)
theorem ScAt.slice {W : World} {v : Value} {c : List Sc} (h : ScAt W v c) : ∃ a d, v = .slice a c.length d ∧ c.length ≤ d ∧ d ≤ 9223372036854775807 := by
  obtain ⟨a, d, h1, h2, h3, h4⟩ := h
  exact ⟨a, d, h1, h2, h3⟩
theorem ScAt.nth {W W' : World} {a : Option Addr} {n d : Nat} {c : List Sc} (h : ScAt W (.slice a n d) c) (hb : Below W.heap.size W W') {i : Nat} (hi : i < c.length) : ∃ b o, a = some ⟨b, o, none⟩ ∧ W'.cell? ⟨b, o + i * 5, none⟩ = some (.int .i64 c[i].1) ∧ W'.cell? ⟨b, o + i * 5 + 1, none⟩ = some (.int .i64 c[i].2.1) ∧ W'.cell? ⟨b, o + i * 5 + 2, none⟩ = some (.int .i64 c[i].2.2.1.v) ∧ W'.cell? ⟨b, o + i * 5 + 3, none⟩ = some (.string c[i].2.2.1.fn) ∧ W'.cell? ⟨b, o + i * 5 + 4, none⟩ = some c[i].2.2.2 := by
  obtain ⟨a', d', h1, h2, h3, h4⟩ := h
  obtain ⟨b, o, hlt, ha, hc⟩ := h4 (by omega)
  cases h1
  obtain ⟨q0, q1, q2, q3, q4⟩ := hc i hi
  exact ⟨b, o, ha, kc hb hlt q0, kc hb hlt q1, kc hb hlt q2, kc hb hlt q3, kc hb hlt q4⟩
theorem Try.info43z : (Try.prog.info? 43).map (·.size) = some 5 := by kernel_rfl
/-- Both, without entries. -/
theorem Bo.new {W1 W2 W3 : World} {bx m1 m2 : Nat} (h : Ix0 W1 bx m1 m2 W2) (hb : Below W2.heap.size W2 W3) (hx : W3.heap[W2.heap.size]? = some (.cells #[.slice none 0 0] 41 (0, 0))) : Bo W1 bx W2.heap.size 0 (absE []) [] [] W3 := by
  have hI : Ixs W1 bx m1 m2 0 (absE []) (fun _ => (0, 0)) W2 := Ixs.of_new h _ 0
  exact ⟨m1, m2, _, .slice none 0 0, hI.keep hb, ⟨hx, none, 0, rfl, Nat.le_refl _, by omega, fun h => absurd h (by simp)⟩, hI.apart_new (Nat.le_refl _), h.bel.size, fun g hg => (by cases hg), fun p hp => (by cases hp)⟩

set_option maxRecDepth 100000 in
set_option maxHeartbeats 16000000 in
theorem plays_any (c : List Sc) (v : Value) (t : T) (s : Value) (w : World) (hc : ScAt w v c) (hx : ∀ x ∈ c, ArgsAt w x.2.2.2 x.2.2.1.args ∧ Short x.2.2.1 ∧ Fit64 x.2.1) (ha : ArgsAt w s t.args) (hst : Short t) :
    Calls Try.prog 5 #[v, tval t s] w fun e w' => e = .returned (.bool true) ∧ Below w.heap.size w w' := by
  obtain ⟨W1, h1⟩ : ∃ X, w.alloc (tbox t s) = X := ⟨_, rfl⟩
  have b1 : Below w.heap.size w W1 := by rw [← h1]; exact below_box _ _
  have s1 : W1.heap.size = w.heap.size + 1 := by rw [← h1]; simp
  obtain ⟨x0, x1, x2⟩ := tbox_cells w t s
  rw [h1] at x0 x1 x2
  obtain ⟨va, vc, rfl, _, _⟩ := hc.slice
  obtain ⟨sa, sc, rfl, _, _⟩ := ha.slice
  have HT : Hid (∀ Z, Below W1.heap.size W1 Z → Z.cell? ⟨w.heap.size, 0, none⟩ = some (.int .i64 t.v) ∧ Z.cell? ⟨w.heap.size, 1, none⟩ = some (.string t.fn) ∧ Z.cell? ⟨w.heap.size, 2, none⟩ = some (.slice sa t.args.length sc) ∧ True) := fun Z hZ => ⟨kc hZ (by omega) x0, kc hZ (by omega) x1, kc hZ (by omega) x2, trivial⟩
  have HC : Hid (ScAt w (.slice va c.length vc) c ∧ (∀ x ∈ c, ArgsAt W1 x.2.2.2 x.2.2.1.args ∧ Short x.2.2.1 ∧ Fit64 x.2.1)) := ⟨hc, fun x hx' => ⟨ArgsAt.keep b1 (Nat.le_refl _) (hx x hx').1, (hx x hx').2⟩⟩
  have HXt : Hid (Short t ∧ ∀ Z, Below W1.heap.size W1 Z → ArgsAt Z (.slice sa t.args.length sc) t.args) := ⟨hst, fun Z hZ => ArgsAt.keep (b1.trans (hZ.mono b1.size)) (Nat.le_refl _) ha⟩
  have HB1 : Hid (Below w.heap.size w W1) := b1
  have hc17 := new_any W1
  clear hc hx ha hst b1 s1 x0 x1 x2
  go_enter Try.func5, Try.ntmps5
  try rw [h1]
  go_wp2_with fail
  try rw [h1]
  refine hc17.mono ?_
  rintro e W2 ⟨bx, m1, m2, rfl, hI2⟩
  obtain ⟨W3, h3⟩ : ∃ X, W2.alloc (.cells #[.slice none 0 0] 41) = X := ⟨_, rfl⟩
  have b3 : Below W2.heap.size W2 W3 := by rw [← h3]; exact below_box _ _
  have z3 : W3.heap[W2.heap.size]? = some (.cells #[.slice none 0 0] 41 (0, 0)) := by rw [← h3]; exact (MapKept.heap_alloc _ _).1
  have HB3 : Hid (Bo W1 bx W2.heap.size 0 (absE []) [] [] W3) := Bo.new hI2 b3 z3
  obtain ⟨rx, hrx⟩ : ∃ n, W2.heap.size = n := ⟨_, rfl⟩
  rw [hrx] at HB3
  have hc11 := alive_any W3
  clear hI2 b3 z3 hc17
  go_wp2_with fail
  try rw [h3]
  try rw [hrx]
  refine hc11.mono ?_
  rintro e W4 ⟨rfl, b4⟩
  have HB4 : Hid (Bo W1 bx rx 0 (absE []) [] [] W4) := HB3.out.keep b4
  clear b4 hc11
  by_cases hl : 200 < c.length
  · have hlI : (200 : Int) < (c.length : Int) := by omega
    have hc11 := alive_any W4
    go_wp2_with fail
    refine hc11.mono ?_
    rintro e W5 ⟨rfl, b5⟩
    have HF : Hid (Below w.heap.size w W5) := HB1.out.trans ((HB4.out.keep b5).bel.mono HB1.out.size)
    clear b5 hc11
    go_wp2
    go_ret
    exact ⟨rfl, HF.out⟩
  · have hlI : ¬ (200 : Int) < (c.length : Int) := by omega
    go_wp2
    go_loopw [7] (fun vi wr => ∃ (i : Nat) (l : List En) (K : Nat), vi = .int .i64 i ∧ i ≤ c.length ∧ Hid (Bo W1 bx rx K (absE l) l [] wr ∧ Good W1 l ∧ l.length ≤ i ∧ K ≤ i)) (fun vi _ => c.length - (intOf vi).toNat)
    case atStart => exact ⟨0, [], 0, rfl, Nat.zero_le _, HB4.out, ⟨List.Pairwise.nil, by simp⟩, Nat.le_refl _, Nat.le_refl _⟩
    case round =>
      obtain ⟨i, l, K, rfl, hi, HI⟩ := hrel
      by_cases hlt : i < c.length
      · have hiI : (i : Int) < (c.length : Int) := by omega
        have hn0 : (0 : Int) ≤ (i : Int) := by omega
        obtain ⟨b, o, rfl, y0, y1, y2, y3, y4⟩ := HC.out.1.nth (HB1.out.trans (HI.out.1.bel.mono HB1.out.size)) hlt
        obtain ⟨xx, hxx⟩ : ∃ x, c[i] = x := ⟨_, rfl⟩
        have hxm := HC.out.2 c[i] (List.getElem_mem hlt)
        rw [hxx] at y0 y1 y2 y3 y4 hxm
        obtain ⟨k, id, u, us⟩ := xx
        simp only at y0 y1 y2 y3 y4 hxm
        obtain ⟨ua, uc, rfl, _, _⟩ := hxm.1.slice
        have HXs : Hid (Short u ∧ ∀ Z, Below W1.heap.size W1 Z → ArgsAt Z (.slice ua u.args.length uc) u.args) := ⟨hxm.2.1, fun Z hZ => ArgsAt.keep hZ (Nat.le_refl _) hxm.1⟩
        have HId : Hid (Fit64 id ∧ ArgsAt W1 (.slice ua u.args.length uc) u.args) := ⟨hxm.2.2, hxm.1⟩
        have HE : Hid (i < c.length ∧ c.length ≤ 200) := ⟨hlt, by omega⟩
        have HK : Hid (K ≤ i) := HI.out.2.2.2
        obtain ⟨ob, hob⟩ : ∃ n, wr.heap.size = n := ⟨_, rfl⟩
        obtain ⟨Wz, hz⟩ : ∃ X, wr.alloc (.cells #[.int .i64 0, .int .i64 0, .int .i64 0, .string ⟨#[]⟩, .slice none 0 0] 43) = X := ⟨_, rfl⟩
        have bz : Below wr.heap.size wr Wz := by rw [← hz]; exact below_box _ _
        have hzz : Wz.heap[ob]? = some (.cells #[.int .i64 0, .int .i64 0, .int .i64 0, .string ⟨#[]⟩, .slice none 0 0] 43 (0, 0)) := by rw [← hz, ← hob]; exact (MapKept.heap_alloc _ _).1
        obtain ⟨W5, hrun, hx5, hon⟩ := agg_store 43 Wz ob _ [.int .i64 k, .int .i64 id, .int .i64 u.v, .string u.fn, .slice ua u.args.length uc] hzz rfl Try.info43z (by intro z hz; simp only [List.mem_cons, List.not_mem_nil, or_false] at hz; rcases hz with rfl | rfl | rfl | rfl | rfl <;> rfl)
        have b5 : Below wr.heap.size wr W5 := bz.trans (hon.below bz.size (by simp [hob]))
        have HB5 : Hid (Bo W1 bx rx K (absE l) l [(ob, (.cells #[.int .i64 k, .int .i64 id, .int .i64 u.v, .string u.fn, .slice ua u.args.length uc] 43 (0, 0)))] W5) := by rw [← hob]; exact HI.out.1.add b5 (by rw [hob]; exact hx5)
        have d0 : W5.cell? ⟨ob, 0, none⟩ = some (.int .i64 k) := cell_store (vs := [.int .i64 k, .int .i64 id, .int .i64 u.v, .string u.fn, .slice ua u.args.length uc]) hx5 rfl
        have HG : Hid (Good W1 l ∧ l.length ≤ i) := ⟨HI.out.2.1, HI.out.2.2.1⟩
        clear hxm hxx bz hzz hon b5 HI
        by_cases hk1 : k = 1
        · subst hk1
          have HO5 : Hid (W5.heap[ob]? = some (.cells #[.int .i64 1, .int .i64 id, .int .i64 u.v, .string u.fn, .slice ua u.args.length uc] 43 (0, 0))) := hx5
          clear hx5
          go_wp2_with (first | (refine wpList_store_run rfl 43 _ _ rfl (.pointer (some ⟨ob, 0, none⟩)) (.agg #[.int .i64 1, .int .i64 id, .int .i64 u.v, .string u.fn, .slice ua u.args.length uc]) rfl rfl hrun ?_))
          obtain ⟨We, hWe⟩ : ∃ X, W5.drew = X := ⟨_, rfl⟩
          have hde : Below W5.heap.size W5 We := by rw [← hWe]; exact (Below.refl _ W5).drew
          have HB6 : Hid (Bo W1 bx rx K (absE l) l [(ob, (.cells #[.int .i64 1, .int .i64 id, .int .i64 u.v, .string u.fn, .slice ua u.args.length uc] 43 (0, 0)))] We) := HB5.out.keep hde
          have HOB : Hid (∀ Z : World, Z.heap[ob]? = some (.cells #[.int .i64 1, .int .i64 id, .int .i64 u.v, .string u.fn, .slice ua u.args.length uc] 43 (0, 0)) → Z.cell? ⟨ob, 1, none⟩ = some (.int .i64 id) ∧ Z.cell? ⟨ob, 2, none⟩ = some (.int .i64 u.v) ∧ Z.cell? ⟨ob, 3, none⟩ = some (.string u.fn) ∧ Z.cell? ⟨ob, 4, none⟩ = some (.slice ua u.args.length uc)) := fun Z h => ⟨cell_store (vs := [.int .i64 1, .int .i64 id, .int .i64 u.v, .string u.fn, .slice ua u.args.length uc]) h rfl, cell_store (vs := [.int .i64 1, .int .i64 id, .int .i64 u.v, .string u.fn, .slice ua u.args.length uc]) h rfl, cell_store (vs := [.int .i64 1, .int .i64 id, .int .i64 u.v, .string u.fn, .slice ua u.args.length uc]) h rfl, cell_store (vs := [.int .i64 1, .int .i64 id, .int .i64 u.v, .string u.fn, .slice ua u.args.length uc]) h rfl⟩
          clear hde hrun d0
          refine wp_region_held_drew (S := fun Z => Z.heap[ob]? = some (.cells #[.int .i64 1, .int .i64 id, .int .i64 u.v, .string u.fn, .slice ua u.args.length uc] 43 (0, 0))) (by kernel_rfl) (by rw [hWe]; exact HB6.out.block (p := (ob, (.cells #[.int .i64 1, .int .i64 id, .int .i64 u.v, .string u.fn, .slice ua u.args.length uc] 43 (0, 0)))) (by simp)) (fun hHeld => ?_)
          rw [hWe] at hHeld ⊢
          refine take_mk 0 (.pointer (some ⟨bx, 0, none⟩)) rfl (by kernel_rfl) (by kernel_rfl) (by kernel_rfl) (fun _ _ _ h => h) (Or.inl ⟨by rfl, fun Z hZ => by go_simp⟩) (by assumption) ?_
          try simp only [Act.put, List.setIfInBounds_toArray, List.set_cons_zero, List.set_cons_succ]
          refine take_mk 1 (.pointer (some ⟨ob, 1, none⟩)) rfl (by kernel_rfl) (by kernel_rfl) (by kernel_rfl) (fun _ _ _ h => h) (Or.inl ⟨by rfl, fun Z hZ => by go_simp⟩) (by assumption) ?_
          try simp only [Act.put, List.setIfInBounds_toArray, List.set_cons_zero, List.set_cons_succ]
          refine take_mk 2 (.int .i64 id) rfl (by kernel_rfl) (by kernel_rfl) (by kernel_rfl) (fun _ _ _ h => h) (Or.inl ⟨by rfl, fun Z hZ => by obtain ⟨f0, f1, f2, f3⟩ := HOB.out Z hZ; go_simp⟩) (by assumption) ?_
          try simp only [Act.put, List.setIfInBounds_toArray, List.set_cons_zero, List.set_cons_succ]
          refine take_mk 3 (.pointer (some ⟨ob, 2, none⟩)) rfl (by kernel_rfl) (by kernel_rfl) (by kernel_rfl) (fun _ _ _ h => h) (Or.inl ⟨by rfl, fun Z hZ => by go_simp⟩) (by assumption) ?_
          try simp only [Act.put, List.setIfInBounds_toArray, List.set_cons_zero, List.set_cons_succ]
          refine take_mk 4 (tval u (.slice ua u.args.length uc)) rfl (by kernel_rfl) (by kernel_rfl) (by kernel_rfl) (fun _ _ _ h => h) (Or.inl ⟨by rfl, fun Z hZ => by obtain ⟨f0, f1, f2, f3⟩ := HOB.out Z hZ; go_simp⟩) (by assumption) ?_
          try simp only [Act.put, List.setIfInBounds_toArray, List.set_cons_zero, List.set_cons_succ]
          refine take_mk 6 (.pointer (some ⟨rx, 0, none⟩)) rfl (by kernel_rfl) (by kernel_rfl) (by kernel_rfl) (fun _ _ _ h => h) (Or.inl ⟨by rfl, fun Z hZ => by go_simp⟩) (by assumption) ?_
          try simp only [Act.put, List.setIfInBounds_toArray, List.set_cons_zero, List.set_cons_succ]
          refine take_mk 7 (.pointer (some ⟨ob, 1, none⟩)) rfl (by kernel_rfl) (by kernel_rfl) (by kernel_rfl) (fun _ _ _ h => h) (Or.inl ⟨by rfl, fun Z hZ => by go_simp⟩) (by assumption) ?_
          try simp only [Act.put, List.setIfInBounds_toArray, List.set_cons_zero, List.set_cons_succ]
          refine take_mk 8 (.int .i64 id) rfl (by kernel_rfl) (by kernel_rfl) (by kernel_rfl) (fun _ _ _ h => h) (Or.inl ⟨by rfl, fun Z hZ => by obtain ⟨f0, f1, f2, f3⟩ := HOB.out Z hZ; go_simp⟩) (by assumption) ?_
          try simp only [Act.put, List.setIfInBounds_toArray, List.set_cons_zero, List.set_cons_succ]
          refine take_mk 9 (.pointer (some ⟨ob, 2, none⟩)) rfl (by kernel_rfl) (by kernel_rfl) (by kernel_rfl) (fun _ _ _ h => h) (Or.inl ⟨by rfl, fun Z hZ => by go_simp⟩) (by assumption) ?_
          try simp only [Act.put, List.setIfInBounds_toArray, List.set_cons_zero, List.set_cons_succ]
          refine take_mk 10 (tval u (.slice ua u.args.length uc)) rfl (by kernel_rfl) (by kernel_rfl) (by kernel_rfl) (fun _ _ _ h => h) (Or.inl ⟨by rfl, fun Z hZ => by obtain ⟨f0, f1, f2, f3⟩ := HOB.out Z hZ; go_simp⟩) (by assumption) ?_
          try simp only [Act.put, List.setIfInBounds_toArray, List.set_cons_zero, List.set_cons_succ]
          refine wpAnyH_ready (rs := [5]) (by kernel_rfl) (by simp) (AllReadyH.cons (o := ⟨_, _, _, _, _, _⟩) rfl (fun KK hK => ?_) AllReadyH.nil)
          rw [if_pos (by rfl)]
          go_simp
          refine (prog_ins HB6.out HG.out.1.rise (by have := HK.out; have := HE.out; omega) (by have := HG.out.2; have := HE.out; omega) id HId.out.1 u _ HXs.out.1 (HXs.out.2 _ HB6.out.bel)).mono ?_
          rintro e P5 ⟨rfl, hP5⟩
          obtain ⟨r7, hr7⟩ : ∃ r, (opI id u (.slice ua u.args.length uc) l).1 = r := ⟨_, rfl⟩
          obtain ⟨l7, hl7⟩ : ∃ r, (opI id u (.slice ua u.args.length uc) l).2 = r := ⟨_, rfl⟩
          have HG7 := HG.out.1.ins (id := id) (t := u) (s := .slice ua u.args.length uc) HId.out.2
          have hc19 := doc_ins hP5 (by have := HG.out.2; have := HE.out; omega) HG.out.1.ones id u _ (HXs.out.2 _ hP5.bel)
          rw [hr7, hl7] at hc19
          rw [hl7] at HG7 hP5
          rw [hr7]
          have hrr : (r7 != r7) = false := by simp
          have HP5 : Hid (Bo W1 bx rx (K + 1) (absE l7) l [(ob, (.cells #[.int .i64 1, .int .i64 id, .int .i64 u.v, .string u.fn, .slice ua u.args.length uc] 43 (0, 0)))] P5) := hP5
          have hH5 := hP5.block (p := (ob, (.cells #[.int .i64 1, .int .i64 id, .int .i64 u.v, .string u.fn, .slice ua u.args.length uc] 43 (0, 0)))) (by simp)
          clear hP5 hr7 hl7
          refine hK.out _ _ (hH5) (fun _ => ?_)
          clear hK KK
          try simp only [Act.put, List.setIfInBounds_toArray, List.set_cons_zero, List.set_cons_succ]
          refine wpAnyH_ready (rs := [11]) (by kernel_rfl) (by simp) (AllReadyH.cons (o := ⟨_, _, _, _, _, _⟩) rfl (fun KK hK => ?_) AllReadyH.nil)
          rw [if_pos (by rfl)]
          go_simp
          refine hc19.mono ?_
          rintro e W7 ⟨rfl, hP7⟩
          have HB7 : Hid (Bo W1 bx rx (K + 1) (absE l7) l7 [(ob, (.cells #[.int .i64 1, .int .i64 id, .int .i64 u.v, .string u.fn, .slice ua u.args.length uc] 43 (0, 0)))] W7) := hP7
          have HGR : Hid (Good W1 l7 ∧ l7.length ≤ i + 1 ∧ i + 1 ≤ 1048576) := ⟨HG7.1, by have := HG7.2; have := HG.out.2; omega, by have := HE.out; omega⟩
          have hH7 := hP7.block (p := (ob, (.cells #[.int .i64 1, .int .i64 id, .int .i64 u.v, .string u.fn, .slice ua u.args.length uc] 43 (0, 0)))) (by simp)
          clear hP7 HG7
          refine hK.out _ _ (hH7) (fun _ => ?_)
          clear hK KK
          try simp only [Act.put, List.setIfInBounds_toArray, List.set_cons_zero, List.set_cons_succ]
          refine take_mk 12 (.bool false) rfl (by kernel_rfl) (by kernel_rfl) (by kernel_rfl) (fun _ _ _ h => h) (Or.inl ⟨by rfl, fun Z hZ => by go_simp⟩) (by assumption) ?_
          try simp only [Act.put, List.setIfInBounds_toArray, List.set_cons_zero, List.set_cons_succ]
          refine wpAnyH_done (by kernel_rfl) ?_ _
          try simp only [Act.put]
          clear hHeld hH5 hH7 hc19 HOB
          obtain ⟨Wd, hWd⟩ : ∃ X, W7.drew = X := ⟨_, rfl⟩
          have hd : Below W7.heap.size W7 Wd := by rw [← hWd]; exact (Below.refl _ W7).drew
          have HBd : Hid (Bo W1 bx rx (K + 1) (absE l7) l7 [(ob, (.cells #[.int .i64 1, .int .i64 id, .int .i64 u.v, .string u.fn, .slice ua u.args.length uc] 43 (0, 0)))] Wd) := HB7.out.keep hd
          have HBR : Hid (∀ Z, Below Wd.heap.size Wd Z → Bo W1 bx rx (K + 1) (absE l7) l7 [(ob, (.cells #[.int .i64 1, .int .i64 id, .int .i64 u.v, .string u.fn, .slice ua u.args.length uc] 43 (0, 0)))] Z) := fun Z hZ => HBd.out.keep hZ
          have HOB : Hid (∀ Z, Below Wd.heap.size Wd Z → Z.cell? ⟨ob, 2, none⟩ = some (.int .i64 u.v) ∧ Z.cell? ⟨ob, 3, none⟩ = some (.string u.fn) ∧ Z.cell? ⟨ob, 4, none⟩ = some (.slice ua u.args.length uc) ∧ True) := fun Z hZ => by
            have h := (HBR.out Z hZ).block (p := (ob, (.cells #[.int .i64 1, .int .i64 id, .int .i64 u.v, .string u.fn, .slice ua u.args.length uc] 43 (0, 0)))) (by simp)
            exact ⟨cell_store (vs := [.int .i64 1, .int .i64 id, .int .i64 u.v, .string u.fn, .slice ua u.args.length uc]) h rfl, cell_store (vs := [.int .i64 1, .int .i64 id, .int .i64 u.v, .string u.fn, .slice ua u.args.length uc]) h rfl, cell_store (vs := [.int .i64 1, .int .i64 id, .int .i64 u.v, .string u.fn, .slice ua u.args.length uc]) h rfl, trivial⟩
          have HUA : Hid (∀ Z, Below Wd.heap.size Wd Z → ArgsAt Z (.slice ua u.args.length uc) u.args) := fun Z hZ => HXs.out.2 Z (HBR.out Z hZ).bel
          obtain ⟨mm1, mm2, gam, vL, hIL, hDL, _⟩ := HBd.out
          obtain ⟨la, lc, rfl, _, _⟩ := hDL.row.slice
          have HRX : Hid (∀ Z, Below Wd.heap.size Wd Z → Z.cell? ⟨rx, 0, none⟩ = some (.slice la l7.length lc)) := fun Z hZ => (hDL.keep hZ).cell
          have hc22 := len_any W1 bx mm1 mm2 _ (absE l7) gam Wd hIL
          rw [absE_len] at hc22
          have hnn : ((l7.length : Int) != (l7.length : Int)) = false := by simp
          clear hIL hDL hd
          go_wp2
          refine wp_region_held_drew (S := fun Z => Below Wd.heap.size Wd Z) (by kernel_rfl) (by rw [hWd]; exact Below.refl _ _) (fun hHeld => ?_)
          rw [hWd] at hHeld ⊢
          refine take_mk 0 (.pointer (some ⟨bx, 0, none⟩)) rfl (by kernel_rfl) (by kernel_rfl) (by kernel_rfl) (fun _ _ _ h => h) (Or.inl ⟨by rfl, fun Z hZ => by go_simp⟩) (by assumption) ?_
          try simp only [Act.put, List.setIfInBounds_toArray, List.set_cons_zero, List.set_cons_succ]
          refine take_mk 2 (.pointer (some ⟨rx, 0, none⟩)) rfl (by kernel_rfl) (by kernel_rfl) (by kernel_rfl) (fun _ _ _ h => h) (Or.inl ⟨by rfl, fun Z hZ => by go_simp⟩) (by assumption) ?_
          try simp only [Act.put, List.setIfInBounds_toArray, List.set_cons_zero, List.set_cons_succ]
          refine take_mk 3 (.pointer (some ⟨rx, 0, none⟩)) rfl (by kernel_rfl) (by kernel_rfl) (by kernel_rfl) (fun _ _ _ h => h) (Or.inl ⟨by rfl, fun Z hZ => by go_simp⟩) (by assumption) ?_
          try simp only [Act.put, List.setIfInBounds_toArray, List.set_cons_zero, List.set_cons_succ]
          refine take_mk 4 (.pointer (some ⟨rx, 0, none⟩)) rfl (by kernel_rfl) (by kernel_rfl) (by kernel_rfl) (fun _ _ _ h => h) (Or.inl ⟨by rfl, fun Z hZ => by go_simp⟩) (by assumption) ?_
          try simp only [Act.put, List.setIfInBounds_toArray, List.set_cons_zero, List.set_cons_succ]
          refine take_mk 5 (.slice la l7.length lc) rfl (by kernel_rfl) (by kernel_rfl) (by kernel_rfl) (fun _ _ _ h => h) (Or.inl ⟨by rfl, fun Z hZ => by have f0 := HRX.out Z hZ; go_simp⟩) (by assumption) ?_
          try simp only [Act.put, List.setIfInBounds_toArray, List.set_cons_zero, List.set_cons_succ]
          refine take_mk 6 (.int .i64 (l7.length : Int)) rfl (by kernel_rfl) (by kernel_rfl) (by kernel_rfl) (fun _ _ _ h => h) (Or.inl ⟨by rfl, fun Z hZ => by go_simp⟩) (by assumption) ?_
          try simp only [Act.put, List.setIfInBounds_toArray, List.set_cons_zero, List.set_cons_succ]
          refine wpAnyH_ready (rs := [1]) (by kernel_rfl) (by simp) (AllReadyH.cons (o := ⟨_, _, _, _, _, _⟩) rfl (fun KK hK => ?_) AllReadyH.nil)
          rw [if_pos (by rfl)]
          go_simp
          refine hc22.mono ?_
          rintro e P0 ⟨rfl, b0⟩
          refine hK.out _ _ (b0) (fun _ => ?_)
          clear hK KK
          try simp only [Act.put, List.setIfInBounds_toArray, List.set_cons_zero, List.set_cons_succ]
          refine take_mk 7 (.bool false) rfl (by kernel_rfl) (by kernel_rfl) (by kernel_rfl) (fun _ _ _ h => h) (Or.inl ⟨by rfl, fun Z hZ => by go_simp⟩) (by assumption) ?_
          try simp only [Act.put, List.setIfInBounds_toArray, List.set_cons_zero, List.set_cons_succ]
          refine take_mk 8 (.bool false) rfl (by kernel_rfl) (by kernel_rfl) (by kernel_rfl) (fun _ _ _ h => h) (Or.inl ⟨by rfl, fun Z hZ => by go_simp⟩) (by assumption) ?_
          try simp only [Act.put, List.setIfInBounds_toArray, List.set_cons_zero, List.set_cons_succ]
          refine take_mk 9 (.pointer (some ⟨bx, 0, none⟩)) rfl (by kernel_rfl) (by kernel_rfl) (by kernel_rfl) (fun _ _ _ h => h) (Or.inl ⟨by rfl, fun Z hZ => by go_simp⟩) (by assumption) ?_
          try simp only [Act.put, List.setIfInBounds_toArray, List.set_cons_zero, List.set_cons_succ]
          refine take_mk 10 (.pointer (some ⟨ob, 2, none⟩)) rfl (by kernel_rfl) (by kernel_rfl) (by kernel_rfl) (fun _ _ _ h => h) (Or.inl ⟨by rfl, fun Z hZ => by go_simp⟩) (by assumption) ?_
          try simp only [Act.put, List.setIfInBounds_toArray, List.set_cons_zero, List.set_cons_succ]
          refine take_mk 11 (tval u (.slice ua u.args.length uc)) rfl (by kernel_rfl) (by kernel_rfl) (by kernel_rfl) (fun _ _ _ h => h) (Or.inl ⟨by rfl, fun Z hZ => by obtain ⟨f0, f1, f2, f3⟩ := HOB.out Z hZ; go_simp⟩) (by assumption) ?_
          try simp only [Act.put, List.setIfInBounds_toArray, List.set_cons_zero, List.set_cons_succ]
          refine take_mk 13 (.pointer (some ⟨rx, 0, none⟩)) rfl (by kernel_rfl) (by kernel_rfl) (by kernel_rfl) (fun _ _ _ h => h) (Or.inl ⟨by rfl, fun Z hZ => by go_simp⟩) (by assumption) ?_
          try simp only [Act.put, List.setIfInBounds_toArray, List.set_cons_zero, List.set_cons_succ]
          refine take_mk 14 (.pointer (some ⟨ob, 2, none⟩)) rfl (by kernel_rfl) (by kernel_rfl) (by kernel_rfl) (fun _ _ _ h => h) (Or.inl ⟨by rfl, fun Z hZ => by go_simp⟩) (by assumption) ?_
          try simp only [Act.put, List.setIfInBounds_toArray, List.set_cons_zero, List.set_cons_succ]
          refine take_mk 15 (tval u (.slice ua u.args.length uc)) rfl (by kernel_rfl) (by kernel_rfl) (by kernel_rfl) (fun _ _ _ h => h) (Or.inl ⟨by rfl, fun Z hZ => by obtain ⟨f0, f1, f2, f3⟩ := HOB.out Z hZ; go_simp⟩) (by assumption) ?_
          try simp only [Act.put, List.setIfInBounds_toArray, List.set_cons_zero, List.set_cons_succ]
          refine wpAnyH_ready (rs := [12]) (by kernel_rfl) (by simp) (AllReadyH.cons (o := ⟨_, _, _, _, _, _⟩) rfl (fun KK hK => ?_) AllReadyH.nil)
          rw [if_pos (by rfl)]
          go_simp
          refine (prog_t1 (HBR.out _ b0) HGR.out.1.rise (by have := HGR.out.2; omega) u _ HXs.out.1 (HUA.out _ b0)).mono ?_
          rintro e P1 ⟨vp1, rfl, rp1, bp1⟩
          have Bp1 := b0.trans (bp1.mono b0.size)
          obtain ⟨pa1, pc1, rfl, _, _⟩ := rp1.slice
          refine hK.out _ _ (Bp1) (fun _ => ?_)
          clear hK KK
          try simp only [Act.put, List.setIfInBounds_toArray, List.set_cons_zero, List.set_cons_succ]
          refine wpAnyH_ready (rs := [16]) (by kernel_rfl) (by simp) (AllReadyH.cons (o := ⟨_, _, _, _, _, _⟩) rfl (fun KK hK => ?_) AllReadyH.nil)
          rw [if_pos (by rfl)]
          go_simp
          refine (doc_t1 (HBR.out _ Bp1) HGR.out.1 (by have := HGR.out.2; omega) u _ (HUA.out _ Bp1)).mono ?_
          rintro e Q1 ⟨vq1, rfl, rq1, bq1⟩
          have Bq1 := Bp1.trans (bq1.mono Bp1.size)
          have rp'1 := rp1.keep bq1 (Nat.le_refl _)
          obtain ⟨qa1, qc1, rfl, _, _⟩ := rq1.slice
          refine hK.out _ _ (Bq1) (fun _ => ?_)
          clear hK KK
          try simp only [Act.put, List.setIfInBounds_toArray, List.set_cons_zero, List.set_cons_succ]
          refine wpAnyH_ready (rs := [17]) (by kernel_rfl) (by simp) (AllReadyH.cons (o := ⟨_, _, _, _, _, _⟩) rfl (fun KK hK => ?_) AllReadyH.nil)
          rw [if_pos (by rfl)]
          go_simp
          refine (ints_same _ _ _ _ rp'1 rq1).mono ?_
          rintro e R1 ⟨rfl, br1⟩
          have Br1 := Bq1.trans (br1.mono Bq1.size)
          refine hK.out _ _ (Br1) (fun _ => ?_)
          clear hK KK
          try simp only [Act.put, List.setIfInBounds_toArray, List.set_cons_zero, List.set_cons_succ]
          refine take_mk 18 (.bool false) rfl (by kernel_rfl) (by kernel_rfl) (by kernel_rfl) (fun _ _ _ h => h) (Or.inl ⟨by rfl, fun Z hZ => by go_simp⟩) (by assumption) ?_
          try simp only [Act.put, List.setIfInBounds_toArray, List.set_cons_zero, List.set_cons_succ]
          refine take_mk 19 (.bool false) rfl (by kernel_rfl) (by kernel_rfl) (by kernel_rfl) (fun _ _ _ h => h) (Or.inl ⟨by rfl, fun Z hZ => by go_simp⟩) (by assumption) ?_
          try simp only [Act.put, List.setIfInBounds_toArray, List.set_cons_zero, List.set_cons_succ]
          refine wpAnyH_done (by kernel_rfl) ?_ _
          try simp only [Act.put]
          have HN : Hid (Bo W1 bx rx (K + 1) (absE l7) l7 [] R1) := (HBR.out R1 Br1).less (by simp)
          clear hHeld hc22 b0 rp1 bp1 Bp1 rq1 bq1 Bq1 rp'1 br1 Br1
          go_wp2
          go_roundw
          case rel => exact ⟨i + 1, l7, (K + 1), by go_num, by have := HE.out.1; omega, HN.out, HGR.out.1, by have := HGR.out.2; omega, by have := HK.out; omega⟩
          case measure => simp [intOf]; have := HE.out.1; omega
        · by_cases hk2 : k = 2
          · subst hk2
            have HO5 : Hid (W5.heap[ob]? = some (.cells #[.int .i64 2, .int .i64 id, .int .i64 u.v, .string u.fn, .slice ua u.args.length uc] 43 (0, 0))) := hx5
            have d1 : W5.cell? ⟨ob, 1, none⟩ = some (.int .i64 id) := cell_store (vs := [.int .i64 2, .int .i64 id, .int .i64 u.v, .string u.fn, .slice ua u.args.length uc]) hx5 rfl
            have hc20 := prog_rem HB5.out HG.out.1.rise id HId.out.1
            obtain ⟨r7, hr7⟩ : ∃ r, (opR id l).1 = r := ⟨_, rfl⟩
            obtain ⟨l7, hl7⟩ : ∃ r, (opR id l).2 = r := ⟨_, rfl⟩
            have hc21 := fun Z (h : Bo W1 bx rx K (absE l7) l [(ob, (.cells #[.int .i64 2, .int .i64 id, .int .i64 u.v, .string u.fn, .slice ua u.args.length uc] 43 (0, 0)))] Z) => doc_rem h HG.out.1.rise (by have := HG.out.2; have := HE.out; omega) HG.out.1.ones id
            have HG7 := HG.out.1.rem (id := id)
            rw [hr7, hl7] at hc20
            obtain ⟨z7, hz7⟩ : ∃ z : Int, (if r7 = true then 0 else 4) = z := ⟨_, rfl⟩
            rw [hz7] at hc20
            have HZ : Hid ((if r7 = true then (0 : Int) else 4) = z7) := hz7
            rw [hr7, hl7] at hc21
            rw [hl7] at HG7
            have HGR : Hid (Good W1 l7 ∧ l7.length ≤ i + 1 ∧ i + 1 ≤ 1048576) := ⟨HG7.1, by have := HG7.2; have := HG.out.2; omega, by have := HE.out; omega⟩
            have HC21 : Hid (∀ Z, Bo W1 bx rx K (absE l7) l [(ob, (.cells #[.int .i64 2, .int .i64 id, .int .i64 u.v, .string u.fn, .slice ua u.args.length uc] 43 (0, 0)))] Z → Calls Try.prog 21 #[.pointer (some ⟨rx, 0, none⟩), .int .i64 id] Z fun e W' => e = .returned (.bool r7) ∧ Bo W1 bx rx K (absE l7) l7 [(ob, (.cells #[.int .i64 2, .int .i64 id, .int .i64 u.v, .string u.fn, .slice ua u.args.length uc] 43 (0, 0)))] W') := hc21
            clear hx5 HG7 hr7 hl7 hc21 hz7
            go_wp2_with (first | (refine wpList_store_run rfl 43 _ _ rfl (.pointer (some ⟨ob, 0, none⟩)) (.agg #[.int .i64 2, .int .i64 id, .int .i64 u.v, .string u.fn, .slice ua u.args.length uc]) rfl rfl hrun ?_))
            refine hc20.mono ?_
            rintro e P5 ⟨rfl, hP5⟩
            have d5 : P5.cell? ⟨ob, 1, none⟩ = some (.int .i64 id) := cell_store (vs := [.int .i64 2, .int .i64 id, .int .i64 u.v, .string u.fn, .slice ua u.args.length uc]) (hP5.block (p := (ob, (.cells #[.int .i64 2, .int .i64 id, .int .i64 u.v, .string u.fn, .slice ua u.args.length uc] 43 (0, 0)))) (by simp)) rfl
            have hc21 := HC21.out P5 hP5
            clear hP5 hrun d0 d1 hc20
            go_wp2_with fail
            refine hc21.mono ?_
            rintro e W7 ⟨rfl, hP7⟩
            have HB7 : Hid (Bo W1 bx rx K (absE l7) l7 [(ob, (.cells #[.int .i64 2, .int .i64 id, .int .i64 u.v, .string u.fn, .slice ua u.args.length uc] 43 (0, 0)))] W7) := hP7
            clear hP7 d5 hc21
            cases r7
            · obtain rfl : (4 : Int) = z7 := by simpa using HZ.out
              obtain ⟨Wd, hWd⟩ : ∃ X, W7.drew = X := ⟨_, rfl⟩
              have hd : Below W7.heap.size W7 Wd := by rw [← hWd]; exact (Below.refl _ W7).drew
              have HBd : Hid (Bo W1 bx rx K (absE l7) l7 [(ob, (.cells #[.int .i64 2, .int .i64 id, .int .i64 u.v, .string u.fn, .slice ua u.args.length uc] 43 (0, 0)))] Wd) := HB7.out.keep hd
              have HBR : Hid (∀ Z, Below Wd.heap.size Wd Z → Bo W1 bx rx K (absE l7) l7 [(ob, (.cells #[.int .i64 2, .int .i64 id, .int .i64 u.v, .string u.fn, .slice ua u.args.length uc] 43 (0, 0)))] Z) := fun Z hZ => HBd.out.keep hZ
              have HOB : Hid (∀ Z, Below Wd.heap.size Wd Z → Z.cell? ⟨ob, 2, none⟩ = some (.int .i64 u.v) ∧ Z.cell? ⟨ob, 3, none⟩ = some (.string u.fn) ∧ Z.cell? ⟨ob, 4, none⟩ = some (.slice ua u.args.length uc) ∧ True) := fun Z hZ => by
                have h := (HBR.out Z hZ).block (p := (ob, (.cells #[.int .i64 2, .int .i64 id, .int .i64 u.v, .string u.fn, .slice ua u.args.length uc] 43 (0, 0)))) (by simp)
                exact ⟨cell_store (vs := [.int .i64 2, .int .i64 id, .int .i64 u.v, .string u.fn, .slice ua u.args.length uc]) h rfl, cell_store (vs := [.int .i64 2, .int .i64 id, .int .i64 u.v, .string u.fn, .slice ua u.args.length uc]) h rfl, cell_store (vs := [.int .i64 2, .int .i64 id, .int .i64 u.v, .string u.fn, .slice ua u.args.length uc]) h rfl, trivial⟩
              have HUA : Hid (∀ Z, Below Wd.heap.size Wd Z → ArgsAt Z (.slice ua u.args.length uc) u.args) := fun Z hZ => HXs.out.2 Z (HBR.out Z hZ).bel
              obtain ⟨mm1, mm2, gam, vL, hIL, hDL, _⟩ := HBd.out
              obtain ⟨la, lc, rfl, _, _⟩ := hDL.row.slice
              have HRX : Hid (∀ Z, Below Wd.heap.size Wd Z → Z.cell? ⟨rx, 0, none⟩ = some (.slice la l7.length lc)) := fun Z hZ => (hDL.keep hZ).cell
              have hc22 := len_any W1 bx mm1 mm2 _ (absE l7) gam Wd hIL
              rw [absE_len] at hc22
              have hnn : ((l7.length : Int) != (l7.length : Int)) = false := by simp
              clear hIL hDL hd
              go_wp2
              refine wp_region_held_drew (S := fun Z => Below Wd.heap.size Wd Z) (by kernel_rfl) (by rw [hWd]; exact Below.refl _ _) (fun hHeld => ?_)
              rw [hWd] at hHeld ⊢
              refine take_mk 0 (.pointer (some ⟨bx, 0, none⟩)) rfl (by kernel_rfl) (by kernel_rfl) (by kernel_rfl) (fun _ _ _ h => h) (Or.inl ⟨by rfl, fun Z hZ => by go_simp⟩) (by assumption) ?_
              try simp only [Act.put, List.setIfInBounds_toArray, List.set_cons_zero, List.set_cons_succ]
              refine take_mk 2 (.pointer (some ⟨rx, 0, none⟩)) rfl (by kernel_rfl) (by kernel_rfl) (by kernel_rfl) (fun _ _ _ h => h) (Or.inl ⟨by rfl, fun Z hZ => by go_simp⟩) (by assumption) ?_
              try simp only [Act.put, List.setIfInBounds_toArray, List.set_cons_zero, List.set_cons_succ]
              refine take_mk 3 (.pointer (some ⟨rx, 0, none⟩)) rfl (by kernel_rfl) (by kernel_rfl) (by kernel_rfl) (fun _ _ _ h => h) (Or.inl ⟨by rfl, fun Z hZ => by go_simp⟩) (by assumption) ?_
              try simp only [Act.put, List.setIfInBounds_toArray, List.set_cons_zero, List.set_cons_succ]
              refine take_mk 4 (.pointer (some ⟨rx, 0, none⟩)) rfl (by kernel_rfl) (by kernel_rfl) (by kernel_rfl) (fun _ _ _ h => h) (Or.inl ⟨by rfl, fun Z hZ => by go_simp⟩) (by assumption) ?_
              try simp only [Act.put, List.setIfInBounds_toArray, List.set_cons_zero, List.set_cons_succ]
              refine take_mk 5 (.slice la l7.length lc) rfl (by kernel_rfl) (by kernel_rfl) (by kernel_rfl) (fun _ _ _ h => h) (Or.inl ⟨by rfl, fun Z hZ => by have f0 := HRX.out Z hZ; go_simp⟩) (by assumption) ?_
              try simp only [Act.put, List.setIfInBounds_toArray, List.set_cons_zero, List.set_cons_succ]
              refine take_mk 6 (.int .i64 (l7.length : Int)) rfl (by kernel_rfl) (by kernel_rfl) (by kernel_rfl) (fun _ _ _ h => h) (Or.inl ⟨by rfl, fun Z hZ => by go_simp⟩) (by assumption) ?_
              try simp only [Act.put, List.setIfInBounds_toArray, List.set_cons_zero, List.set_cons_succ]
              refine wpAnyH_ready (rs := [1]) (by kernel_rfl) (by simp) (AllReadyH.cons (o := ⟨_, _, _, _, _, _⟩) rfl (fun KK hK => ?_) AllReadyH.nil)
              rw [if_pos (by rfl)]
              go_simp
              refine hc22.mono ?_
              rintro e P0 ⟨rfl, b0⟩
              refine hK.out _ _ (b0) (fun _ => ?_)
              clear hK KK
              try simp only [Act.put, List.setIfInBounds_toArray, List.set_cons_zero, List.set_cons_succ]
              refine take_mk 7 (.bool false) rfl (by kernel_rfl) (by kernel_rfl) (by kernel_rfl) (fun _ _ _ h => h) (Or.inl ⟨by rfl, fun Z hZ => by go_simp⟩) (by assumption) ?_
              try simp only [Act.put, List.setIfInBounds_toArray, List.set_cons_zero, List.set_cons_succ]
              refine take_mk 8 (.bool false) rfl (by kernel_rfl) (by kernel_rfl) (by kernel_rfl) (fun _ _ _ h => h) (Or.inl ⟨by rfl, fun Z hZ => by go_simp⟩) (by assumption) ?_
              try simp only [Act.put, List.setIfInBounds_toArray, List.set_cons_zero, List.set_cons_succ]
              refine take_mk 9 (.pointer (some ⟨bx, 0, none⟩)) rfl (by kernel_rfl) (by kernel_rfl) (by kernel_rfl) (fun _ _ _ h => h) (Or.inl ⟨by rfl, fun Z hZ => by go_simp⟩) (by assumption) ?_
              try simp only [Act.put, List.setIfInBounds_toArray, List.set_cons_zero, List.set_cons_succ]
              refine take_mk 10 (.pointer (some ⟨ob, 2, none⟩)) rfl (by kernel_rfl) (by kernel_rfl) (by kernel_rfl) (fun _ _ _ h => h) (Or.inl ⟨by rfl, fun Z hZ => by go_simp⟩) (by assumption) ?_
              try simp only [Act.put, List.setIfInBounds_toArray, List.set_cons_zero, List.set_cons_succ]
              refine take_mk 11 (tval u (.slice ua u.args.length uc)) rfl (by kernel_rfl) (by kernel_rfl) (by kernel_rfl) (fun _ _ _ h => h) (Or.inl ⟨by rfl, fun Z hZ => by obtain ⟨f0, f1, f2, f3⟩ := HOB.out Z hZ; go_simp⟩) (by assumption) ?_
              try simp only [Act.put, List.setIfInBounds_toArray, List.set_cons_zero, List.set_cons_succ]
              refine take_mk 13 (.pointer (some ⟨rx, 0, none⟩)) rfl (by kernel_rfl) (by kernel_rfl) (by kernel_rfl) (fun _ _ _ h => h) (Or.inl ⟨by rfl, fun Z hZ => by go_simp⟩) (by assumption) ?_
              try simp only [Act.put, List.setIfInBounds_toArray, List.set_cons_zero, List.set_cons_succ]
              refine take_mk 14 (.pointer (some ⟨ob, 2, none⟩)) rfl (by kernel_rfl) (by kernel_rfl) (by kernel_rfl) (fun _ _ _ h => h) (Or.inl ⟨by rfl, fun Z hZ => by go_simp⟩) (by assumption) ?_
              try simp only [Act.put, List.setIfInBounds_toArray, List.set_cons_zero, List.set_cons_succ]
              refine take_mk 15 (tval u (.slice ua u.args.length uc)) rfl (by kernel_rfl) (by kernel_rfl) (by kernel_rfl) (fun _ _ _ h => h) (Or.inl ⟨by rfl, fun Z hZ => by obtain ⟨f0, f1, f2, f3⟩ := HOB.out Z hZ; go_simp⟩) (by assumption) ?_
              try simp only [Act.put, List.setIfInBounds_toArray, List.set_cons_zero, List.set_cons_succ]
              refine wpAnyH_ready (rs := [12]) (by kernel_rfl) (by simp) (AllReadyH.cons (o := ⟨_, _, _, _, _, _⟩) rfl (fun KK hK => ?_) AllReadyH.nil)
              rw [if_pos (by rfl)]
              go_simp
              refine (prog_t1 (HBR.out _ b0) HGR.out.1.rise (by have := HGR.out.2; omega) u _ HXs.out.1 (HUA.out _ b0)).mono ?_
              rintro e P1 ⟨vp1, rfl, rp1, bp1⟩
              have Bp1 := b0.trans (bp1.mono b0.size)
              obtain ⟨pa1, pc1, rfl, _, _⟩ := rp1.slice
              refine hK.out _ _ (Bp1) (fun _ => ?_)
              clear hK KK
              try simp only [Act.put, List.setIfInBounds_toArray, List.set_cons_zero, List.set_cons_succ]
              refine wpAnyH_ready (rs := [16]) (by kernel_rfl) (by simp) (AllReadyH.cons (o := ⟨_, _, _, _, _, _⟩) rfl (fun KK hK => ?_) AllReadyH.nil)
              rw [if_pos (by rfl)]
              go_simp
              refine (doc_t1 (HBR.out _ Bp1) HGR.out.1 (by have := HGR.out.2; omega) u _ (HUA.out _ Bp1)).mono ?_
              rintro e Q1 ⟨vq1, rfl, rq1, bq1⟩
              have Bq1 := Bp1.trans (bq1.mono Bp1.size)
              have rp'1 := rp1.keep bq1 (Nat.le_refl _)
              obtain ⟨qa1, qc1, rfl, _, _⟩ := rq1.slice
              refine hK.out _ _ (Bq1) (fun _ => ?_)
              clear hK KK
              try simp only [Act.put, List.setIfInBounds_toArray, List.set_cons_zero, List.set_cons_succ]
              refine wpAnyH_ready (rs := [17]) (by kernel_rfl) (by simp) (AllReadyH.cons (o := ⟨_, _, _, _, _, _⟩) rfl (fun KK hK => ?_) AllReadyH.nil)
              rw [if_pos (by rfl)]
              go_simp
              refine (ints_same _ _ _ _ rp'1 rq1).mono ?_
              rintro e R1 ⟨rfl, br1⟩
              have Br1 := Bq1.trans (br1.mono Bq1.size)
              refine hK.out _ _ (Br1) (fun _ => ?_)
              clear hK KK
              try simp only [Act.put, List.setIfInBounds_toArray, List.set_cons_zero, List.set_cons_succ]
              refine take_mk 18 (.bool false) rfl (by kernel_rfl) (by kernel_rfl) (by kernel_rfl) (fun _ _ _ h => h) (Or.inl ⟨by rfl, fun Z hZ => by go_simp⟩) (by assumption) ?_
              try simp only [Act.put, List.setIfInBounds_toArray, List.set_cons_zero, List.set_cons_succ]
              refine take_mk 19 (.bool false) rfl (by kernel_rfl) (by kernel_rfl) (by kernel_rfl) (fun _ _ _ h => h) (Or.inl ⟨by rfl, fun Z hZ => by go_simp⟩) (by assumption) ?_
              try simp only [Act.put, List.setIfInBounds_toArray, List.set_cons_zero, List.set_cons_succ]
              refine wpAnyH_done (by kernel_rfl) ?_ _
              try simp only [Act.put]
              have HN : Hid (Bo W1 bx rx K (absE l7) l7 [] R1) := (HBR.out R1 Br1).less (by simp)
              clear hHeld hc22 b0 rp1 bp1 Bp1 rq1 bq1 Bq1 rp'1 br1 Br1
              go_wp2
              go_roundw
              case rel => exact ⟨i + 1, l7, K, by go_num, by have := HE.out.1; omega, HN.out, HGR.out.1, by have := HGR.out.2; omega, by have := HK.out; omega⟩
              case measure => simp [intOf]; have := HE.out.1; omega
            · obtain rfl : (0 : Int) = z7 := by simpa using HZ.out
              obtain ⟨Wd, hWd⟩ : ∃ X, W7.drew = X := ⟨_, rfl⟩
              have hd : Below W7.heap.size W7 Wd := by rw [← hWd]; exact (Below.refl _ W7).drew
              have HBd : Hid (Bo W1 bx rx K (absE l7) l7 [(ob, (.cells #[.int .i64 2, .int .i64 id, .int .i64 u.v, .string u.fn, .slice ua u.args.length uc] 43 (0, 0)))] Wd) := HB7.out.keep hd
              have HBR : Hid (∀ Z, Below Wd.heap.size Wd Z → Bo W1 bx rx K (absE l7) l7 [(ob, (.cells #[.int .i64 2, .int .i64 id, .int .i64 u.v, .string u.fn, .slice ua u.args.length uc] 43 (0, 0)))] Z) := fun Z hZ => HBd.out.keep hZ
              have HOB : Hid (∀ Z, Below Wd.heap.size Wd Z → Z.cell? ⟨ob, 2, none⟩ = some (.int .i64 u.v) ∧ Z.cell? ⟨ob, 3, none⟩ = some (.string u.fn) ∧ Z.cell? ⟨ob, 4, none⟩ = some (.slice ua u.args.length uc) ∧ True) := fun Z hZ => by
                have h := (HBR.out Z hZ).block (p := (ob, (.cells #[.int .i64 2, .int .i64 id, .int .i64 u.v, .string u.fn, .slice ua u.args.length uc] 43 (0, 0)))) (by simp)
                exact ⟨cell_store (vs := [.int .i64 2, .int .i64 id, .int .i64 u.v, .string u.fn, .slice ua u.args.length uc]) h rfl, cell_store (vs := [.int .i64 2, .int .i64 id, .int .i64 u.v, .string u.fn, .slice ua u.args.length uc]) h rfl, cell_store (vs := [.int .i64 2, .int .i64 id, .int .i64 u.v, .string u.fn, .slice ua u.args.length uc]) h rfl, trivial⟩
              have HUA : Hid (∀ Z, Below Wd.heap.size Wd Z → ArgsAt Z (.slice ua u.args.length uc) u.args) := fun Z hZ => HXs.out.2 Z (HBR.out Z hZ).bel
              obtain ⟨mm1, mm2, gam, vL, hIL, hDL, _⟩ := HBd.out
              obtain ⟨la, lc, rfl, _, _⟩ := hDL.row.slice
              have HRX : Hid (∀ Z, Below Wd.heap.size Wd Z → Z.cell? ⟨rx, 0, none⟩ = some (.slice la l7.length lc)) := fun Z hZ => (hDL.keep hZ).cell
              have hc22 := len_any W1 bx mm1 mm2 _ (absE l7) gam Wd hIL
              rw [absE_len] at hc22
              have hnn : ((l7.length : Int) != (l7.length : Int)) = false := by simp
              clear hIL hDL hd
              go_wp2
              refine wp_region_held_drew (S := fun Z => Below Wd.heap.size Wd Z) (by kernel_rfl) (by rw [hWd]; exact Below.refl _ _) (fun hHeld => ?_)
              rw [hWd] at hHeld ⊢
              refine take_mk 0 (.pointer (some ⟨bx, 0, none⟩)) rfl (by kernel_rfl) (by kernel_rfl) (by kernel_rfl) (fun _ _ _ h => h) (Or.inl ⟨by rfl, fun Z hZ => by go_simp⟩) (by assumption) ?_
              try simp only [Act.put, List.setIfInBounds_toArray, List.set_cons_zero, List.set_cons_succ]
              refine take_mk 2 (.pointer (some ⟨rx, 0, none⟩)) rfl (by kernel_rfl) (by kernel_rfl) (by kernel_rfl) (fun _ _ _ h => h) (Or.inl ⟨by rfl, fun Z hZ => by go_simp⟩) (by assumption) ?_
              try simp only [Act.put, List.setIfInBounds_toArray, List.set_cons_zero, List.set_cons_succ]
              refine take_mk 3 (.pointer (some ⟨rx, 0, none⟩)) rfl (by kernel_rfl) (by kernel_rfl) (by kernel_rfl) (fun _ _ _ h => h) (Or.inl ⟨by rfl, fun Z hZ => by go_simp⟩) (by assumption) ?_
              try simp only [Act.put, List.setIfInBounds_toArray, List.set_cons_zero, List.set_cons_succ]
              refine take_mk 4 (.pointer (some ⟨rx, 0, none⟩)) rfl (by kernel_rfl) (by kernel_rfl) (by kernel_rfl) (fun _ _ _ h => h) (Or.inl ⟨by rfl, fun Z hZ => by go_simp⟩) (by assumption) ?_
              try simp only [Act.put, List.setIfInBounds_toArray, List.set_cons_zero, List.set_cons_succ]
              refine take_mk 5 (.slice la l7.length lc) rfl (by kernel_rfl) (by kernel_rfl) (by kernel_rfl) (fun _ _ _ h => h) (Or.inl ⟨by rfl, fun Z hZ => by have f0 := HRX.out Z hZ; go_simp⟩) (by assumption) ?_
              try simp only [Act.put, List.setIfInBounds_toArray, List.set_cons_zero, List.set_cons_succ]
              refine take_mk 6 (.int .i64 (l7.length : Int)) rfl (by kernel_rfl) (by kernel_rfl) (by kernel_rfl) (fun _ _ _ h => h) (Or.inl ⟨by rfl, fun Z hZ => by go_simp⟩) (by assumption) ?_
              try simp only [Act.put, List.setIfInBounds_toArray, List.set_cons_zero, List.set_cons_succ]
              refine wpAnyH_ready (rs := [1]) (by kernel_rfl) (by simp) (AllReadyH.cons (o := ⟨_, _, _, _, _, _⟩) rfl (fun KK hK => ?_) AllReadyH.nil)
              rw [if_pos (by rfl)]
              go_simp
              refine hc22.mono ?_
              rintro e P0 ⟨rfl, b0⟩
              refine hK.out _ _ (b0) (fun _ => ?_)
              clear hK KK
              try simp only [Act.put, List.setIfInBounds_toArray, List.set_cons_zero, List.set_cons_succ]
              refine take_mk 7 (.bool false) rfl (by kernel_rfl) (by kernel_rfl) (by kernel_rfl) (fun _ _ _ h => h) (Or.inl ⟨by rfl, fun Z hZ => by go_simp⟩) (by assumption) ?_
              try simp only [Act.put, List.setIfInBounds_toArray, List.set_cons_zero, List.set_cons_succ]
              refine take_mk 8 (.bool false) rfl (by kernel_rfl) (by kernel_rfl) (by kernel_rfl) (fun _ _ _ h => h) (Or.inl ⟨by rfl, fun Z hZ => by go_simp⟩) (by assumption) ?_
              try simp only [Act.put, List.setIfInBounds_toArray, List.set_cons_zero, List.set_cons_succ]
              refine take_mk 9 (.pointer (some ⟨bx, 0, none⟩)) rfl (by kernel_rfl) (by kernel_rfl) (by kernel_rfl) (fun _ _ _ h => h) (Or.inl ⟨by rfl, fun Z hZ => by go_simp⟩) (by assumption) ?_
              try simp only [Act.put, List.setIfInBounds_toArray, List.set_cons_zero, List.set_cons_succ]
              refine take_mk 10 (.pointer (some ⟨ob, 2, none⟩)) rfl (by kernel_rfl) (by kernel_rfl) (by kernel_rfl) (fun _ _ _ h => h) (Or.inl ⟨by rfl, fun Z hZ => by go_simp⟩) (by assumption) ?_
              try simp only [Act.put, List.setIfInBounds_toArray, List.set_cons_zero, List.set_cons_succ]
              refine take_mk 11 (tval u (.slice ua u.args.length uc)) rfl (by kernel_rfl) (by kernel_rfl) (by kernel_rfl) (fun _ _ _ h => h) (Or.inl ⟨by rfl, fun Z hZ => by obtain ⟨f0, f1, f2, f3⟩ := HOB.out Z hZ; go_simp⟩) (by assumption) ?_
              try simp only [Act.put, List.setIfInBounds_toArray, List.set_cons_zero, List.set_cons_succ]
              refine take_mk 13 (.pointer (some ⟨rx, 0, none⟩)) rfl (by kernel_rfl) (by kernel_rfl) (by kernel_rfl) (fun _ _ _ h => h) (Or.inl ⟨by rfl, fun Z hZ => by go_simp⟩) (by assumption) ?_
              try simp only [Act.put, List.setIfInBounds_toArray, List.set_cons_zero, List.set_cons_succ]
              refine take_mk 14 (.pointer (some ⟨ob, 2, none⟩)) rfl (by kernel_rfl) (by kernel_rfl) (by kernel_rfl) (fun _ _ _ h => h) (Or.inl ⟨by rfl, fun Z hZ => by go_simp⟩) (by assumption) ?_
              try simp only [Act.put, List.setIfInBounds_toArray, List.set_cons_zero, List.set_cons_succ]
              refine take_mk 15 (tval u (.slice ua u.args.length uc)) rfl (by kernel_rfl) (by kernel_rfl) (by kernel_rfl) (fun _ _ _ h => h) (Or.inl ⟨by rfl, fun Z hZ => by obtain ⟨f0, f1, f2, f3⟩ := HOB.out Z hZ; go_simp⟩) (by assumption) ?_
              try simp only [Act.put, List.setIfInBounds_toArray, List.set_cons_zero, List.set_cons_succ]
              refine wpAnyH_ready (rs := [12]) (by kernel_rfl) (by simp) (AllReadyH.cons (o := ⟨_, _, _, _, _, _⟩) rfl (fun KK hK => ?_) AllReadyH.nil)
              rw [if_pos (by rfl)]
              go_simp
              refine (prog_t1 (HBR.out _ b0) HGR.out.1.rise (by have := HGR.out.2; omega) u _ HXs.out.1 (HUA.out _ b0)).mono ?_
              rintro e P1 ⟨vp1, rfl, rp1, bp1⟩
              have Bp1 := b0.trans (bp1.mono b0.size)
              obtain ⟨pa1, pc1, rfl, _, _⟩ := rp1.slice
              refine hK.out _ _ (Bp1) (fun _ => ?_)
              clear hK KK
              try simp only [Act.put, List.setIfInBounds_toArray, List.set_cons_zero, List.set_cons_succ]
              refine wpAnyH_ready (rs := [16]) (by kernel_rfl) (by simp) (AllReadyH.cons (o := ⟨_, _, _, _, _, _⟩) rfl (fun KK hK => ?_) AllReadyH.nil)
              rw [if_pos (by rfl)]
              go_simp
              refine (doc_t1 (HBR.out _ Bp1) HGR.out.1 (by have := HGR.out.2; omega) u _ (HUA.out _ Bp1)).mono ?_
              rintro e Q1 ⟨vq1, rfl, rq1, bq1⟩
              have Bq1 := Bp1.trans (bq1.mono Bp1.size)
              have rp'1 := rp1.keep bq1 (Nat.le_refl _)
              obtain ⟨qa1, qc1, rfl, _, _⟩ := rq1.slice
              refine hK.out _ _ (Bq1) (fun _ => ?_)
              clear hK KK
              try simp only [Act.put, List.setIfInBounds_toArray, List.set_cons_zero, List.set_cons_succ]
              refine wpAnyH_ready (rs := [17]) (by kernel_rfl) (by simp) (AllReadyH.cons (o := ⟨_, _, _, _, _, _⟩) rfl (fun KK hK => ?_) AllReadyH.nil)
              rw [if_pos (by rfl)]
              go_simp
              refine (ints_same _ _ _ _ rp'1 rq1).mono ?_
              rintro e R1 ⟨rfl, br1⟩
              have Br1 := Bq1.trans (br1.mono Bq1.size)
              refine hK.out _ _ (Br1) (fun _ => ?_)
              clear hK KK
              try simp only [Act.put, List.setIfInBounds_toArray, List.set_cons_zero, List.set_cons_succ]
              refine take_mk 18 (.bool false) rfl (by kernel_rfl) (by kernel_rfl) (by kernel_rfl) (fun _ _ _ h => h) (Or.inl ⟨by rfl, fun Z hZ => by go_simp⟩) (by assumption) ?_
              try simp only [Act.put, List.setIfInBounds_toArray, List.set_cons_zero, List.set_cons_succ]
              refine take_mk 19 (.bool false) rfl (by kernel_rfl) (by kernel_rfl) (by kernel_rfl) (fun _ _ _ h => h) (Or.inl ⟨by rfl, fun Z hZ => by go_simp⟩) (by assumption) ?_
              try simp only [Act.put, List.setIfInBounds_toArray, List.set_cons_zero, List.set_cons_succ]
              refine wpAnyH_done (by kernel_rfl) ?_ _
              try simp only [Act.put]
              have HN : Hid (Bo W1 bx rx K (absE l7) l7 [] R1) := (HBR.out R1 Br1).less (by simp)
              clear hHeld hc22 b0 rp1 bp1 Bp1 rq1 bq1 Bq1 rp'1 br1 Br1
              go_wp2
              go_roundw
              case rel => exact ⟨i + 1, l7, K, by go_num, by have := HE.out.1; omega, HN.out, HGR.out.1, by have := HGR.out.2; omega, by have := HK.out; omega⟩
              case measure => simp [intOf]; have := HE.out.1; omega
          · have hk1I : (k == 1) = false := by simpa using hk1
            have hk2I : (k == 2) = false := by simpa using hk2
            obtain ⟨l7, hl7⟩ : ∃ r, l = r := ⟨_, rfl⟩
            obtain ⟨W7, hW7⟩ : ∃ r, W5 = r := ⟨_, rfl⟩
            rw [hl7, hW7] at HB5
            rw [hl7] at HG
            rw [hW7] at hrun d0
            have HB7 : Hid (Bo W1 bx rx K (absE l7) l7 [(ob, (.cells #[.int .i64 k, .int .i64 id, .int .i64 u.v, .string u.fn, .slice ua u.args.length uc] 43 (0, 0)))] W7) := HB5.out
            have HGR : Hid (Good W1 l7 ∧ l7.length ≤ i + 1 ∧ i + 1 ≤ 1048576) := ⟨HG.out.1, by have := HG.out.2; omega, by have := HE.out; omega⟩
            clear hx5
            go_wp2_with (first | (refine wpList_store_run rfl 43 _ _ rfl (.pointer (some ⟨ob, 0, none⟩)) (.agg #[.int .i64 k, .int .i64 id, .int .i64 u.v, .string u.fn, .slice ua u.args.length uc]) rfl rfl hrun ?_))
            obtain ⟨Wd, hWd⟩ : ∃ X, W7.drew = X := ⟨_, rfl⟩
            have hd : Below W7.heap.size W7 Wd := by rw [← hWd]; exact (Below.refl _ W7).drew
            have HBd : Hid (Bo W1 bx rx K (absE l7) l7 [(ob, (.cells #[.int .i64 k, .int .i64 id, .int .i64 u.v, .string u.fn, .slice ua u.args.length uc] 43 (0, 0)))] Wd) := HB7.out.keep hd
            have HBR : Hid (∀ Z, Below Wd.heap.size Wd Z → Bo W1 bx rx K (absE l7) l7 [(ob, (.cells #[.int .i64 k, .int .i64 id, .int .i64 u.v, .string u.fn, .slice ua u.args.length uc] 43 (0, 0)))] Z) := fun Z hZ => HBd.out.keep hZ
            have HOB : Hid (∀ Z, Below Wd.heap.size Wd Z → Z.cell? ⟨ob, 2, none⟩ = some (.int .i64 u.v) ∧ Z.cell? ⟨ob, 3, none⟩ = some (.string u.fn) ∧ Z.cell? ⟨ob, 4, none⟩ = some (.slice ua u.args.length uc) ∧ True) := fun Z hZ => by
              have h := (HBR.out Z hZ).block (p := (ob, (.cells #[.int .i64 k, .int .i64 id, .int .i64 u.v, .string u.fn, .slice ua u.args.length uc] 43 (0, 0)))) (by simp)
              exact ⟨cell_store (vs := [.int .i64 k, .int .i64 id, .int .i64 u.v, .string u.fn, .slice ua u.args.length uc]) h rfl, cell_store (vs := [.int .i64 k, .int .i64 id, .int .i64 u.v, .string u.fn, .slice ua u.args.length uc]) h rfl, cell_store (vs := [.int .i64 k, .int .i64 id, .int .i64 u.v, .string u.fn, .slice ua u.args.length uc]) h rfl, trivial⟩
            have HUA : Hid (∀ Z, Below Wd.heap.size Wd Z → ArgsAt Z (.slice ua u.args.length uc) u.args) := fun Z hZ => HXs.out.2 Z (HBR.out Z hZ).bel
            obtain ⟨mm1, mm2, gam, vL, hIL, hDL, _⟩ := HBd.out
            obtain ⟨la, lc, rfl, _, _⟩ := hDL.row.slice
            have HRX : Hid (∀ Z, Below Wd.heap.size Wd Z → Z.cell? ⟨rx, 0, none⟩ = some (.slice la l7.length lc)) := fun Z hZ => (hDL.keep hZ).cell
            have hc22 := len_any W1 bx mm1 mm2 _ (absE l7) gam Wd hIL
            rw [absE_len] at hc22
            have hnn : ((l7.length : Int) != (l7.length : Int)) = false := by simp
            clear hIL hDL hd
            go_wp2
            refine wp_region_held_drew (S := fun Z => Below Wd.heap.size Wd Z) (by kernel_rfl) (by rw [hWd]; exact Below.refl _ _) (fun hHeld => ?_)
            rw [hWd] at hHeld ⊢
            refine take_mk 0 (.pointer (some ⟨bx, 0, none⟩)) rfl (by kernel_rfl) (by kernel_rfl) (by kernel_rfl) (fun _ _ _ h => h) (Or.inl ⟨by rfl, fun Z hZ => by go_simp⟩) (by assumption) ?_
            try simp only [Act.put, List.setIfInBounds_toArray, List.set_cons_zero, List.set_cons_succ]
            refine take_mk 2 (.pointer (some ⟨rx, 0, none⟩)) rfl (by kernel_rfl) (by kernel_rfl) (by kernel_rfl) (fun _ _ _ h => h) (Or.inl ⟨by rfl, fun Z hZ => by go_simp⟩) (by assumption) ?_
            try simp only [Act.put, List.setIfInBounds_toArray, List.set_cons_zero, List.set_cons_succ]
            refine take_mk 3 (.pointer (some ⟨rx, 0, none⟩)) rfl (by kernel_rfl) (by kernel_rfl) (by kernel_rfl) (fun _ _ _ h => h) (Or.inl ⟨by rfl, fun Z hZ => by go_simp⟩) (by assumption) ?_
            try simp only [Act.put, List.setIfInBounds_toArray, List.set_cons_zero, List.set_cons_succ]
            refine take_mk 4 (.pointer (some ⟨rx, 0, none⟩)) rfl (by kernel_rfl) (by kernel_rfl) (by kernel_rfl) (fun _ _ _ h => h) (Or.inl ⟨by rfl, fun Z hZ => by go_simp⟩) (by assumption) ?_
            try simp only [Act.put, List.setIfInBounds_toArray, List.set_cons_zero, List.set_cons_succ]
            refine take_mk 5 (.slice la l7.length lc) rfl (by kernel_rfl) (by kernel_rfl) (by kernel_rfl) (fun _ _ _ h => h) (Or.inl ⟨by rfl, fun Z hZ => by have f0 := HRX.out Z hZ; go_simp⟩) (by assumption) ?_
            try simp only [Act.put, List.setIfInBounds_toArray, List.set_cons_zero, List.set_cons_succ]
            refine take_mk 6 (.int .i64 (l7.length : Int)) rfl (by kernel_rfl) (by kernel_rfl) (by kernel_rfl) (fun _ _ _ h => h) (Or.inl ⟨by rfl, fun Z hZ => by go_simp⟩) (by assumption) ?_
            try simp only [Act.put, List.setIfInBounds_toArray, List.set_cons_zero, List.set_cons_succ]
            refine wpAnyH_ready (rs := [1]) (by kernel_rfl) (by simp) (AllReadyH.cons (o := ⟨_, _, _, _, _, _⟩) rfl (fun KK hK => ?_) AllReadyH.nil)
            rw [if_pos (by rfl)]
            go_simp
            refine hc22.mono ?_
            rintro e P0 ⟨rfl, b0⟩
            refine hK.out _ _ (b0) (fun _ => ?_)
            clear hK KK
            try simp only [Act.put, List.setIfInBounds_toArray, List.set_cons_zero, List.set_cons_succ]
            refine take_mk 7 (.bool false) rfl (by kernel_rfl) (by kernel_rfl) (by kernel_rfl) (fun _ _ _ h => h) (Or.inl ⟨by rfl, fun Z hZ => by go_simp⟩) (by assumption) ?_
            try simp only [Act.put, List.setIfInBounds_toArray, List.set_cons_zero, List.set_cons_succ]
            refine take_mk 8 (.bool false) rfl (by kernel_rfl) (by kernel_rfl) (by kernel_rfl) (fun _ _ _ h => h) (Or.inl ⟨by rfl, fun Z hZ => by go_simp⟩) (by assumption) ?_
            try simp only [Act.put, List.setIfInBounds_toArray, List.set_cons_zero, List.set_cons_succ]
            refine take_mk 9 (.pointer (some ⟨bx, 0, none⟩)) rfl (by kernel_rfl) (by kernel_rfl) (by kernel_rfl) (fun _ _ _ h => h) (Or.inl ⟨by rfl, fun Z hZ => by go_simp⟩) (by assumption) ?_
            try simp only [Act.put, List.setIfInBounds_toArray, List.set_cons_zero, List.set_cons_succ]
            refine take_mk 10 (.pointer (some ⟨ob, 2, none⟩)) rfl (by kernel_rfl) (by kernel_rfl) (by kernel_rfl) (fun _ _ _ h => h) (Or.inl ⟨by rfl, fun Z hZ => by go_simp⟩) (by assumption) ?_
            try simp only [Act.put, List.setIfInBounds_toArray, List.set_cons_zero, List.set_cons_succ]
            refine take_mk 11 (tval u (.slice ua u.args.length uc)) rfl (by kernel_rfl) (by kernel_rfl) (by kernel_rfl) (fun _ _ _ h => h) (Or.inl ⟨by rfl, fun Z hZ => by obtain ⟨f0, f1, f2, f3⟩ := HOB.out Z hZ; go_simp⟩) (by assumption) ?_
            try simp only [Act.put, List.setIfInBounds_toArray, List.set_cons_zero, List.set_cons_succ]
            refine take_mk 13 (.pointer (some ⟨rx, 0, none⟩)) rfl (by kernel_rfl) (by kernel_rfl) (by kernel_rfl) (fun _ _ _ h => h) (Or.inl ⟨by rfl, fun Z hZ => by go_simp⟩) (by assumption) ?_
            try simp only [Act.put, List.setIfInBounds_toArray, List.set_cons_zero, List.set_cons_succ]
            refine take_mk 14 (.pointer (some ⟨ob, 2, none⟩)) rfl (by kernel_rfl) (by kernel_rfl) (by kernel_rfl) (fun _ _ _ h => h) (Or.inl ⟨by rfl, fun Z hZ => by go_simp⟩) (by assumption) ?_
            try simp only [Act.put, List.setIfInBounds_toArray, List.set_cons_zero, List.set_cons_succ]
            refine take_mk 15 (tval u (.slice ua u.args.length uc)) rfl (by kernel_rfl) (by kernel_rfl) (by kernel_rfl) (fun _ _ _ h => h) (Or.inl ⟨by rfl, fun Z hZ => by obtain ⟨f0, f1, f2, f3⟩ := HOB.out Z hZ; go_simp⟩) (by assumption) ?_
            try simp only [Act.put, List.setIfInBounds_toArray, List.set_cons_zero, List.set_cons_succ]
            refine wpAnyH_ready (rs := [12]) (by kernel_rfl) (by simp) (AllReadyH.cons (o := ⟨_, _, _, _, _, _⟩) rfl (fun KK hK => ?_) AllReadyH.nil)
            rw [if_pos (by rfl)]
            go_simp
            refine (prog_t1 (HBR.out _ b0) HGR.out.1.rise (by have := HGR.out.2; omega) u _ HXs.out.1 (HUA.out _ b0)).mono ?_
            rintro e P1 ⟨vp1, rfl, rp1, bp1⟩
            have Bp1 := b0.trans (bp1.mono b0.size)
            obtain ⟨pa1, pc1, rfl, _, _⟩ := rp1.slice
            refine hK.out _ _ (Bp1) (fun _ => ?_)
            clear hK KK
            try simp only [Act.put, List.setIfInBounds_toArray, List.set_cons_zero, List.set_cons_succ]
            refine wpAnyH_ready (rs := [16]) (by kernel_rfl) (by simp) (AllReadyH.cons (o := ⟨_, _, _, _, _, _⟩) rfl (fun KK hK => ?_) AllReadyH.nil)
            rw [if_pos (by rfl)]
            go_simp
            refine (doc_t1 (HBR.out _ Bp1) HGR.out.1 (by have := HGR.out.2; omega) u _ (HUA.out _ Bp1)).mono ?_
            rintro e Q1 ⟨vq1, rfl, rq1, bq1⟩
            have Bq1 := Bp1.trans (bq1.mono Bp1.size)
            have rp'1 := rp1.keep bq1 (Nat.le_refl _)
            obtain ⟨qa1, qc1, rfl, _, _⟩ := rq1.slice
            refine hK.out _ _ (Bq1) (fun _ => ?_)
            clear hK KK
            try simp only [Act.put, List.setIfInBounds_toArray, List.set_cons_zero, List.set_cons_succ]
            refine wpAnyH_ready (rs := [17]) (by kernel_rfl) (by simp) (AllReadyH.cons (o := ⟨_, _, _, _, _, _⟩) rfl (fun KK hK => ?_) AllReadyH.nil)
            rw [if_pos (by rfl)]
            go_simp
            refine (ints_same _ _ _ _ rp'1 rq1).mono ?_
            rintro e R1 ⟨rfl, br1⟩
            have Br1 := Bq1.trans (br1.mono Bq1.size)
            refine hK.out _ _ (Br1) (fun _ => ?_)
            clear hK KK
            try simp only [Act.put, List.setIfInBounds_toArray, List.set_cons_zero, List.set_cons_succ]
            refine take_mk 18 (.bool false) rfl (by kernel_rfl) (by kernel_rfl) (by kernel_rfl) (fun _ _ _ h => h) (Or.inl ⟨by rfl, fun Z hZ => by go_simp⟩) (by assumption) ?_
            try simp only [Act.put, List.setIfInBounds_toArray, List.set_cons_zero, List.set_cons_succ]
            refine take_mk 19 (.bool false) rfl (by kernel_rfl) (by kernel_rfl) (by kernel_rfl) (fun _ _ _ h => h) (Or.inl ⟨by rfl, fun Z hZ => by go_simp⟩) (by assumption) ?_
            try simp only [Act.put, List.setIfInBounds_toArray, List.set_cons_zero, List.set_cons_succ]
            refine wpAnyH_done (by kernel_rfl) ?_ _
            try simp only [Act.put]
            have HN : Hid (Bo W1 bx rx K (absE l7) l7 [] R1) := (HBR.out R1 Br1).less (by simp)
            clear hHeld hc22 b0 rp1 bp1 Bp1 rq1 bq1 Bq1 rp'1 br1 Br1
            go_wp2
            go_roundw
            case rel => exact ⟨i + 1, l7, K, by go_num, by have := HE.out.1; omega, HN.out, HGR.out.1, by have := HGR.out.2; omega, by have := HK.out; omega⟩
            case measure => simp [intOf]; have := HE.out.1; omega
      · have hiI : ¬ (i : Int) < (c.length : Int) := by omega
        obtain ⟨Wd, hWd⟩ : ∃ X, wr.drew = X := ⟨_, rfl⟩
        have hd : Below wr.heap.size wr Wd := by rw [← hWd]; exact (Below.refl _ wr).drew
        have HBd : Hid (Bo W1 bx rx K (absE l) l [] Wd) := HI.out.1.keep hd
        have HBR : Hid (∀ Z, Below Wd.heap.size Wd Z → Bo W1 bx rx K (absE l) l [] Z) := fun Z hZ => HBd.out.keep hZ
        have HGR : Hid (Good W1 l ∧ l.length ≤ 1048576) := ⟨HI.out.2.1, by have := HI.out.2.2.1; omega⟩
        have HOB : Hid (∀ Z, Below Wd.heap.size Wd Z → Z.cell? ⟨w.heap.size, 0, none⟩ = some (.int .i64 t.v) ∧ Z.cell? ⟨w.heap.size, 1, none⟩ = some (.string t.fn) ∧ Z.cell? ⟨w.heap.size, 2, none⟩ = some (.slice sa t.args.length sc) ∧ True) := fun Z hZ => HT.out Z (HBR.out Z hZ).bel
        have HTA : Hid (∀ Z, Below Wd.heap.size Wd Z → ArgsAt Z (.slice sa t.args.length sc) t.args) := fun Z hZ => HXt.out.2 Z (HBR.out Z hZ).bel
        clear hd
        go_wp2
        refine wp_region_held_drew (S := fun Z => Below Wd.heap.size Wd Z) (by kernel_rfl) (by rw [hWd]; exact Below.refl _ _) (fun hHeld => ?_)
        rw [hWd] at hHeld ⊢
        refine take_mk 0 (.pointer (some ⟨bx, 0, none⟩)) rfl (by kernel_rfl) (by kernel_rfl) (by kernel_rfl) (fun _ _ _ h => h) (Or.inl ⟨by rfl, fun Z hZ => by go_simp⟩) (by assumption) ?_
        try simp only [Act.put, List.setIfInBounds_toArray, List.set_cons_zero, List.set_cons_succ]
        refine take_mk 1 (tval t (.slice sa t.args.length sc)) rfl (by kernel_rfl) (by kernel_rfl) (by kernel_rfl) (fun _ _ _ h => h) (Or.inl ⟨by rfl, fun Z hZ => by obtain ⟨f0, f1, f2, f3⟩ := HOB.out Z hZ; go_simp⟩) (by assumption) ?_
        try simp only [Act.put, List.setIfInBounds_toArray, List.set_cons_zero, List.set_cons_succ]
        refine take_mk 3 (.pointer (some ⟨rx, 0, none⟩)) rfl (by kernel_rfl) (by kernel_rfl) (by kernel_rfl) (fun _ _ _ h => h) (Or.inl ⟨by rfl, fun Z hZ => by go_simp⟩) (by assumption) ?_
        try simp only [Act.put, List.setIfInBounds_toArray, List.set_cons_zero, List.set_cons_succ]
        refine take_mk 4 (tval t (.slice sa t.args.length sc)) rfl (by kernel_rfl) (by kernel_rfl) (by kernel_rfl) (fun _ _ _ h => h) (Or.inl ⟨by rfl, fun Z hZ => by obtain ⟨f0, f1, f2, f3⟩ := HOB.out Z hZ; go_simp⟩) (by assumption) ?_
        try simp only [Act.put, List.setIfInBounds_toArray, List.set_cons_zero, List.set_cons_succ]
        refine wpAnyH_ready (rs := [2]) (by kernel_rfl) (by simp) (AllReadyH.cons (o := ⟨_, _, _, _, _, _⟩) rfl (fun KK hK => ?_) AllReadyH.nil)
        rw [if_pos (by rfl)]
        go_simp
        refine (prog_t1 (HBR.out _ hHeld) HGR.out.1.rise (by have := HGR.out.2; omega) t _ HXt.out.1 (HTA.out _ hHeld)).mono ?_
        rintro e P1 ⟨vp1, rfl, rp1, bp1⟩
        have Bp1 := hHeld.trans (bp1.mono hHeld.size)
        obtain ⟨pa1, pc1, rfl, _, _⟩ := rp1.slice
        refine hK.out _ _ (Bp1) (fun _ => ?_)
        clear hK KK
        try simp only [Act.put, List.setIfInBounds_toArray, List.set_cons_zero, List.set_cons_succ]
        refine wpAnyH_ready (rs := [5]) (by kernel_rfl) (by simp) (AllReadyH.cons (o := ⟨_, _, _, _, _, _⟩) rfl (fun KK hK => ?_) AllReadyH.nil)
        rw [if_pos (by rfl)]
        go_simp
        refine (doc_t1 (HBR.out _ Bp1) HGR.out.1 (by have := HGR.out.2; omega) t _ (HTA.out _ Bp1)).mono ?_
        rintro e Q1 ⟨vq1, rfl, rq1, bq1⟩
        have Bq1 := Bp1.trans (bq1.mono Bp1.size)
        have rp'1 := rp1.keep bq1 (Nat.le_refl _)
        obtain ⟨qa1, qc1, rfl, _, _⟩ := rq1.slice
        refine hK.out _ _ (Bq1) (fun _ => ?_)
        clear hK KK
        try simp only [Act.put, List.setIfInBounds_toArray, List.set_cons_zero, List.set_cons_succ]
        refine wpAnyH_ready (rs := [6]) (by kernel_rfl) (by simp) (AllReadyH.cons (o := ⟨_, _, _, _, _, _⟩) rfl (fun KK hK => ?_) AllReadyH.nil)
        rw [if_pos (by rfl)]
        go_simp
        refine (ints_same _ _ _ _ rp'1 rq1).mono ?_
        rintro e R1 ⟨rfl, br1⟩
        have Br1 := Bq1.trans (br1.mono Bq1.size)
        refine hK.out _ _ (Br1) (fun _ => ?_)
        clear hK KK
        try simp only [Act.put, List.setIfInBounds_toArray, List.set_cons_zero, List.set_cons_succ]
        refine take_mk 7 (.bool true) rfl (by kernel_rfl) (by kernel_rfl) (by kernel_rfl) (fun _ _ _ h => h) (Or.inl ⟨by rfl, fun Z hZ => by go_simp⟩) (by assumption) ?_
        try simp only [Act.put, List.setIfInBounds_toArray, List.set_cons_zero, List.set_cons_succ]
        refine take_mk 8 (.pointer (some ⟨bx, 0, none⟩)) rfl (by kernel_rfl) (by kernel_rfl) (by kernel_rfl) (fun _ _ _ h => h) (Or.inl ⟨by rfl, fun Z hZ => by go_simp⟩) (by assumption) ?_
        try simp only [Act.put, List.setIfInBounds_toArray, List.set_cons_zero, List.set_cons_succ]
        refine take_mk 9 (tval t (.slice sa t.args.length sc)) rfl (by kernel_rfl) (by kernel_rfl) (by kernel_rfl) (fun _ _ _ h => h) (Or.inl ⟨by rfl, fun Z hZ => by obtain ⟨f0, f1, f2, f3⟩ := HOB.out Z hZ; go_simp⟩) (by assumption) ?_
        try simp only [Act.put, List.setIfInBounds_toArray, List.set_cons_zero, List.set_cons_succ]
        refine take_mk 11 (.pointer (some ⟨rx, 0, none⟩)) rfl (by kernel_rfl) (by kernel_rfl) (by kernel_rfl) (fun _ _ _ h => h) (Or.inl ⟨by rfl, fun Z hZ => by go_simp⟩) (by assumption) ?_
        try simp only [Act.put, List.setIfInBounds_toArray, List.set_cons_zero, List.set_cons_succ]
        refine take_mk 12 (tval t (.slice sa t.args.length sc)) rfl (by kernel_rfl) (by kernel_rfl) (by kernel_rfl) (fun _ _ _ h => h) (Or.inl ⟨by rfl, fun Z hZ => by obtain ⟨f0, f1, f2, f3⟩ := HOB.out Z hZ; go_simp⟩) (by assumption) ?_
        try simp only [Act.put, List.setIfInBounds_toArray, List.set_cons_zero, List.set_cons_succ]
        refine wpAnyH_ready (rs := [10]) (by kernel_rfl) (by simp) (AllReadyH.cons (o := ⟨_, _, _, _, _, _⟩) rfl (fun KK hK => ?_) AllReadyH.nil)
        rw [if_pos (by rfl)]
        go_simp
        refine (prog_t2 (HBR.out _ Br1) HGR.out.1.rise (by have := HGR.out.2; omega) t _ HXt.out.1 (HTA.out _ Br1)).mono ?_
        rintro e P2 ⟨vp2, rfl, rp2, bp2⟩
        have Bp2 := Br1.trans (bp2.mono Br1.size)
        obtain ⟨pa2, pc2, rfl, _, _⟩ := rp2.slice
        refine hK.out _ _ (Bp2) (fun _ => ?_)
        clear hK KK
        try simp only [Act.put, List.setIfInBounds_toArray, List.set_cons_zero, List.set_cons_succ]
        refine wpAnyH_ready (rs := [13]) (by kernel_rfl) (by simp) (AllReadyH.cons (o := ⟨_, _, _, _, _, _⟩) rfl (fun KK hK => ?_) AllReadyH.nil)
        rw [if_pos (by rfl)]
        go_simp
        refine (doc_t2 (HBR.out _ Bp2) HGR.out.1 (by have := HGR.out.2; omega) t _ (HTA.out _ Bp2)).mono ?_
        rintro e Q2 ⟨vq2, rfl, rq2, bq2⟩
        have Bq2 := Bp2.trans (bq2.mono Bp2.size)
        have rp'2 := rp2.keep bq2 (Nat.le_refl _)
        obtain ⟨qa2, qc2, rfl, _, _⟩ := rq2.slice
        refine hK.out _ _ (Bq2) (fun _ => ?_)
        clear hK KK
        try simp only [Act.put, List.setIfInBounds_toArray, List.set_cons_zero, List.set_cons_succ]
        refine wpAnyH_ready (rs := [14]) (by kernel_rfl) (by simp) (AllReadyH.cons (o := ⟨_, _, _, _, _, _⟩) rfl (fun KK hK => ?_) AllReadyH.nil)
        rw [if_pos (by rfl)]
        go_simp
        refine (ints_same _ _ _ _ rp'2 rq2).mono ?_
        rintro e R2 ⟨rfl, br2⟩
        have Br2 := Bq2.trans (br2.mono Bq2.size)
        refine hK.out _ _ (Br2) (fun _ => ?_)
        clear hK KK
        try simp only [Act.put, List.setIfInBounds_toArray, List.set_cons_zero, List.set_cons_succ]
        refine take_mk 15 (.bool true) rfl (by kernel_rfl) (by kernel_rfl) (by kernel_rfl) (fun _ _ _ h => h) (Or.inl ⟨by rfl, fun Z hZ => by go_simp⟩) (by assumption) ?_
        try simp only [Act.put, List.setIfInBounds_toArray, List.set_cons_zero, List.set_cons_succ]
        refine take_mk 16 (.bool true) rfl (by kernel_rfl) (by kernel_rfl) (by kernel_rfl) (fun _ _ _ h => h) (Or.inl ⟨by rfl, fun Z hZ => by go_simp⟩) (by assumption) ?_
        try simp only [Act.put, List.setIfInBounds_toArray, List.set_cons_zero, List.set_cons_succ]
        refine take_mk 17 (.pointer (some ⟨bx, 0, none⟩)) rfl (by kernel_rfl) (by kernel_rfl) (by kernel_rfl) (fun _ _ _ h => h) (Or.inl ⟨by rfl, fun Z hZ => by go_simp⟩) (by assumption) ?_
        try simp only [Act.put, List.setIfInBounds_toArray, List.set_cons_zero, List.set_cons_succ]
        refine take_mk 18 (tval t (.slice sa t.args.length sc)) rfl (by kernel_rfl) (by kernel_rfl) (by kernel_rfl) (fun _ _ _ h => h) (Or.inl ⟨by rfl, fun Z hZ => by obtain ⟨f0, f1, f2, f3⟩ := HOB.out Z hZ; go_simp⟩) (by assumption) ?_
        try simp only [Act.put, List.setIfInBounds_toArray, List.set_cons_zero, List.set_cons_succ]
        refine take_mk 20 (.pointer (some ⟨rx, 0, none⟩)) rfl (by kernel_rfl) (by kernel_rfl) (by kernel_rfl) (fun _ _ _ h => h) (Or.inl ⟨by rfl, fun Z hZ => by go_simp⟩) (by assumption) ?_
        try simp only [Act.put, List.setIfInBounds_toArray, List.set_cons_zero, List.set_cons_succ]
        refine take_mk 21 (tval t (.slice sa t.args.length sc)) rfl (by kernel_rfl) (by kernel_rfl) (by kernel_rfl) (fun _ _ _ h => h) (Or.inl ⟨by rfl, fun Z hZ => by obtain ⟨f0, f1, f2, f3⟩ := HOB.out Z hZ; go_simp⟩) (by assumption) ?_
        try simp only [Act.put, List.setIfInBounds_toArray, List.set_cons_zero, List.set_cons_succ]
        refine wpAnyH_ready (rs := [19]) (by kernel_rfl) (by simp) (AllReadyH.cons (o := ⟨_, _, _, _, _, _⟩) rfl (fun KK hK => ?_) AllReadyH.nil)
        rw [if_pos (by rfl)]
        go_simp
        refine (prog_t3 (HBR.out _ Br2) HGR.out.1.rise (by have := HGR.out.2; omega) t _ HXt.out.1 (HTA.out _ Br2)).mono ?_
        rintro e P3 ⟨vp3, rfl, rp3, bp3⟩
        have Bp3 := Br2.trans (bp3.mono Br2.size)
        obtain ⟨pa3, pc3, rfl, _, _⟩ := rp3.slice
        refine hK.out _ _ (Bp3) (fun _ => ?_)
        clear hK KK
        try simp only [Act.put, List.setIfInBounds_toArray, List.set_cons_zero, List.set_cons_succ]
        refine wpAnyH_ready (rs := [22]) (by kernel_rfl) (by simp) (AllReadyH.cons (o := ⟨_, _, _, _, _, _⟩) rfl (fun KK hK => ?_) AllReadyH.nil)
        rw [if_pos (by rfl)]
        go_simp
        refine (doc_t3 (HBR.out _ Bp3) HGR.out.1 (by have := HGR.out.2; omega) t _ (HTA.out _ Bp3)).mono ?_
        rintro e Q3 ⟨vq3, rfl, rq3, bq3⟩
        have Bq3 := Bp3.trans (bq3.mono Bp3.size)
        have rp'3 := rp3.keep bq3 (Nat.le_refl _)
        obtain ⟨qa3, qc3, rfl, _, _⟩ := rq3.slice
        refine hK.out _ _ (Bq3) (fun _ => ?_)
        clear hK KK
        try simp only [Act.put, List.setIfInBounds_toArray, List.set_cons_zero, List.set_cons_succ]
        refine wpAnyH_ready (rs := [23]) (by kernel_rfl) (by simp) (AllReadyH.cons (o := ⟨_, _, _, _, _, _⟩) rfl (fun KK hK => ?_) AllReadyH.nil)
        rw [if_pos (by rfl)]
        go_simp
        refine (ints_same _ _ _ _ rp'3 rq3).mono ?_
        rintro e R3 ⟨rfl, br3⟩
        have Br3 := Bq3.trans (br3.mono Bq3.size)
        refine hK.out _ _ (Br3) (fun _ => ?_)
        clear hK KK
        try simp only [Act.put, List.setIfInBounds_toArray, List.set_cons_zero, List.set_cons_succ]
        refine take_mk 24 (.bool true) rfl (by kernel_rfl) (by kernel_rfl) (by kernel_rfl) (fun _ _ _ h => h) (Or.inl ⟨by rfl, fun Z hZ => by go_simp⟩) (by assumption) ?_
        try simp only [Act.put, List.setIfInBounds_toArray, List.set_cons_zero, List.set_cons_succ]
        refine take_mk 25 (.bool true) rfl (by kernel_rfl) (by kernel_rfl) (by kernel_rfl) (fun _ _ _ h => h) (Or.inl ⟨by rfl, fun Z hZ => by go_simp⟩) (by assumption) ?_
        try simp only [Act.put, List.setIfInBounds_toArray, List.set_cons_zero, List.set_cons_succ]
        refine wpAnyH_done (by kernel_rfl) ?_ _
        try simp only [Act.put]
        have HF : Hid (Below w.heap.size w R3) := HB1.out.trans ((HBR.out R3 Br3).bel.mono HB1.out.size)
        clear hHeld
        go_wp2
        go_ret
        exact ⟨rfl, HF.out⟩

end Go.Proofs.Ytiklbkkimmgbcaa
