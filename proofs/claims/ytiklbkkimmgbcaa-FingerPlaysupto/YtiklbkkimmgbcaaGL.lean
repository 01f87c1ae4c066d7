/-
  The document's Find; the laws' Ints.
-/
import Derived.Test.YtiklbkkimmgbcaaGJ
import Derived.Test.YtiklbkkimmgbcaaGD
import Derived.Test.YtiklbkkimmgbcaaFR
import Derived.Test.YtiklbkkimmgbcaaFS
namespace Go.Proofs.Ytiklbkkimmgbcaa
open Go.RowKit Go.Maps

def finds (P : List Ft → Bool) (l : List En) : List Int := (l.filter (fun x => P (feats x.2.1))).map (·.1)
theorem finds_len (P : List Ft → Bool) (l : List En) : (finds P l).length ≤ l.length := by simp [finds]; exact List.length_filter_le _ _
theorem finds_snoc {P : List Ft → Bool} {l : List En} {i : Nat} {x : En} (h : l[i]? = some x) : finds P (l.take (i + 1)) = finds P (l.take i) ++ (if P (feats x.2.1) then [x.1] else []) := by
  obtain ⟨hi, hx⟩ := List.getElem?_eq_some_iff.1 h
  rw [List.take_succ_eq_append_getElem hi, hx]
  simp only [finds, List.filter_append, List.map_append]
  congr 1
  by_cases hp : P (feats x.2.1) <;> simp [hp]
theorem rowAt_nil (W : World) : RowAt (fun k : Int => .int .i64 k) W (.slice none 0 0) [] := ⟨none, 0, rfl, Nat.le_refl _, by omega, fun h => absurd h (by simp)⟩

set_option maxRecDepth 100000 in
set_option maxHeartbeats 8000000 in
theorem find1_any (rx : Nat) (v : Value) (l : List En) (hlen : l.length ≤ 1048576) (t : T) (s : Value) (W : World) (hD : Dx W rx v l) (hargs : ∀ x ∈ l, ArgsAt W x.2.2 x.2.1.args) (ha : ArgsAt W s t.args) :
    Calls Try.prog 25 #[.pointer (some ⟨rx, 0, none⟩), tval t s, .int .i64 1] W fun e W' => ∃ v', e = .returned v' ∧ RowAt (fun k : Int => .int .i64 k) W' v' (if t.rightW = 0 then finds (fun m => fitB uniB (feats t) m) l else []) ∧ Below W.heap.size W W' := by
  obtain ⟨R, hR⟩ : ∃ R, (if t.rightW = 0 then finds (fun m => fitB uniB (feats t) m) l else []) = R := ⟨_, rfl⟩
  have HRs : Hid ((if t.rightW = 0 then finds (fun m => fitB uniB (feats t) m) l else []) = R) := hR
  rw [hR]
  clear hR
  obtain ⟨W1, h1⟩ : ∃ X, W.alloc (tbox t s) = X := ⟨_, rfl⟩
  have b1 : Below W.heap.size W W1 := by rw [← h1]; exact below_box _ _
  have s1 : W1.heap.size = W.heap.size + 1 := by rw [← h1]; simp
  obtain ⟨x0, x1, x2⟩ := tbox_cells W t s
  rw [h1] at x0 x1 x2
  have hc28 := rright_any t s W1 (ArgsAt.keep b1 (Nat.le_refl _) ha)
  obtain ⟨i0, hi0, hz0, hz1, hz2⟩ := info_parts Try.info3q
  obtain ⟨a1, c1, rfl, hc1, hm1⟩ := hD.row.slice
  obtain ⟨sa, sc, rfl, _, _⟩ := ha.slice
  have HX : Hid (∀ Z, Below W1.heap.size W1 Z → Z.cell? ⟨W.heap.size, 0, none⟩ = some (.int .i64 t.v) ∧ Z.cell? ⟨W.heap.size, 1, none⟩ = some (.string t.fn) ∧ Z.cell? ⟨W.heap.size, 2, none⟩ = some (.slice sa t.args.length sc) ∧ Dx Z rx (.slice a1 l.length c1) l ∧ (∀ x ∈ l, ArgsAt Z x.2.2 x.2.1.args) ∧ ArgsAt Z (.slice sa t.args.length sc) t.args) := fun Z hZ => ⟨kc hZ (by omega) x0, kc hZ (by omega) x1, kc hZ (by omega) x2, (hD.keep b1).keep hZ, fun x hx => ArgsAt.keep (b1.trans (hZ.mono b1.size)) (Nat.le_refl _) (hargs x hx), ArgsAt.keep (b1.trans (hZ.mono b1.size)) (Nat.le_refl _) ha⟩
  have HB1 : Hid (Below W.heap.size W W1) := b1
  clear hD ha b1 hargs s1
  by_cases hr : t.rightW = 0
  · rw [hr] at hc28
    have HR0 : Hid (finds (fun m => fitB uniB (feats t) m) l = R) := by have := HRs.out; rw [if_pos hr] at this; exact this
    clear hr HRs
    go_enter Try.func25, Try.ntmps25
    try rw [h1]
    go_wp2_with fail
    try rw [h1]
    refine hc28.mono ?_
    rintro e W2 ⟨rfl, b2⟩
    obtain ⟨y0, y1, y2, _, _, hA2⟩ := HX.out W2 b2
    have hc10 := rof_any t _ W2 hA2
    have HB2 : Hid (Below W1.heap.size W1 W2) := b2
    clear b2 hc28 x0 x1 x2 hA2
    go_wp2_with fail
    refine hc10.mono ?_
    rintro e W3 ⟨vf, rfl, hf3, b3⟩
    have HB3 : Hid (Below W1.heap.size W1 W3) := HB2.out.trans (b3.mono HB2.out.size)
    have HF : Hid (∀ Z, Below W3.heap.size W3 Z → FtAt Z vf (feats t)) := fun Z hZ => hf3.keep hZ (Nat.le_refl _)
    obtain ⟨fa, fc, rfl, _, _⟩ := hf3.slice
    clear b3 hf3 hc10 y0 y1 y2
    go_wp2
    go_loopw [7, 9] (fun vo vi wr => ∃ (i n : Nat) (oa : Option Addr) (oc : Nat), vi = .int .i64 i ∧ vo = .slice oa n oc ∧ i ≤ l.length ∧ Hid (Below W3.heap.size W3 wr ∧ wr.ownsRow W3.heap.size 3 1 (.slice oa n oc) n ((finds (fun m => fitB uniB (feats t) m) (l.take i)).map (Value.int .i64)))) (fun _ vi _ => l.length - (intOf vi).toNat)
    case atStart => exact ⟨0, 0, none, 0, rfl, rfl, Nat.zero_le _, Below.refl _ _, World.ownsRow_nil _ _ _ _⟩
    case round =>
      obtain ⟨i, n, oa, oc, rfl, rfl, hi, HI⟩ := hrel
      have HB4 : Hid (Below W1.heap.size W1 wr) := HB3.out.trans (HI.out.1.mono HB3.out.size)
      obtain ⟨_, _, _, hDz, hAz, _⟩ := HX.out wr HB4.out
      have cx := hDz.cell
      by_cases hlt : i < l.length
      · have hiI : (i : Int) < (l.length : Int) := by omega
        have hn0 : (0 : Int) ≤ (i : Int) := by omega
        obtain ⟨bb, rfl, hbb, z0, z1, z2, z3⟩ := hDz.row.nth hlt
        obtain ⟨x, hx⟩ : ∃ x, l[i] = x := ⟨_, rfl⟩
        rw [hx] at z0 z1 z2 z3
        have HE : Hid (i < l.length ∧ l[i]? = some x) := ⟨hlt, by rw [List.getElem?_eq_getElem hlt, hx]⟩
        have hc10 := rof_any x.2.1 x.2.2 wr (hAz x (hx ▸ List.getElem_mem hlt))
        have hnb : n ≤ l.length := by
          have h1 := HI.out.2.1
          have h2 := finds_len (fun m => fitB uniB (feats t) m) (l.take i)
          have h3 : (l.take i).length ≤ l.length := by simp; omega
          simp at h1
          omega
        clear hDz hAz hbb
        go_wp2_with fail
        refine hc10.mono ?_
        rintro e W5 ⟨vg, rfl, hg5, b5⟩
        have B5 : Below W3.heap.size W3 W5 := HI.out.1.trans (b5.mono HI.out.1.size)
        have HG : Hid (FtAt W5 vg (feats x.2.1)) := hg5
        have hcq := rUnifies_any (feats t) (feats x.2.1) _ _ W5 (HF.out W5 B5) HG.out
        have hrow5 := row_keep HI.out.2 (W' := W5) (fun g hg => by
          obtain ⟨_, cq, hcq⟩ := row_block HI.out.2 hg
          exact b5.block g (Array.getElem?_eq_some_iff.1 hcq).1)
        have HB5 : Hid (Below W3.heap.size W3 W5 ∧ W5.ownsRow W3.heap.size 3 1 (.slice oa n oc) n ((finds (fun m => fitB uniB (feats t) m) (l.take i)).map (Value.int .i64))) := ⟨B5, hrow5⟩
        obtain ⟨ga, gc, rfl, _, _⟩ := hg5.slice
        clear b5 B5 hg5 hrow5 hc10 z0 z1 z2 z3 cx
        go_wp2_with fail
        refine hcq.mono ?_
        rintro e W6 ⟨rfl, b6⟩
        have B6 : Below W3.heap.size W3 W6 := HB5.out.1.trans (b6.mono HB5.out.1.size)
        have hrow6 := row_keep HB5.out.2 (W' := W6) (fun g hg => by
          obtain ⟨_, cq, hcq⟩ := row_block HB5.out.2 hg
          exact b6.block g (Array.getElem?_eq_some_iff.1 hcq).1)
        have HB6 : Hid (Below W3.heap.size W3 W6 ∧ W6.ownsRow W3.heap.size 3 1 (.slice oa n oc) n ((finds (fun m => fitB uniB (feats t) m) (l.take i)).map (Value.int .i64))) := ⟨B6, hrow6⟩
        clear b6 hcq
        cases hfb : fitB uniB (feats t) (feats x.2.1)
        · have HN : Hid (W6.ownsRow W3.heap.size 3 1 (.slice oa n oc) n ((finds (fun m => fitB uniB (feats t) m) (l.take (i + 1))).map (Value.int .i64))) := by
            show World.ownsRow _ _ _ _ _ _ _
            rw [finds_snoc HE.out.2, hfb]
            simpa using hrow6
          clear hrow6 B6 hfb
          go_wp2
          go_roundw
          case rel => exact ⟨i + 1, n, oa, oc, by go_num, rfl, by have := HE.out.1; omega, HB6.out.1, HN.out⟩
          case measure => simp [intOf]; have := HE.out.1; omega
        · have hrow7 := row_keep hrow6 (W' := W6.alloc (.cells #[.int .i64 x.1] 3)) (fun g hg => by
            obtain ⟨_, cq, hcq⟩ := row_block hrow6 hg
            exact (below_box W6 _).block g (Array.getElem?_eq_some_iff.1 hcq).1)
          have hbs : W3.heap.size ≤ (W6.alloc (.cells #[.int .i64 x.1] 3)).heap.size := by have := B6.size; simp; omega
          have B16 : Below W1.heap.size W1 W6 := HB3.out.trans (B6.mono HB3.out.size)
          obtain ⟨_, _, _, hDz, _, _⟩ := HX.out W6 B16
          have cx := hDz.cell
          obtain ⟨b', e', _, z0, _, _, _⟩ := hDz.row.nth HE.out.1
          obtain rfl : bb = b' := by injection e' with e'; injection e' with e'
          rw [(List.getElem?_eq_some_iff.1 HE.out.2).2] at z0
          have HFb : Hid (fitB uniB (feats t) (feats x.2.1) = true) := hfb
          clear hrow6 B6 hfb hDz B16
          go_wp2_with (first | (at_builtin; refine wpList_append_own_at _ rfl _ _ 50 rfl W3.heap.size 3 i0 _ 1 8 Try.underlying50 hi0 hz0 hz1 hz2 rfl (by decide) (.slice oa n oc) n _ rfl hrow7 ⟨W6.heap.size, 0, none⟩ 1 1 [.int .i64 x.1] rfl rfl (fun j u hj => by rw [Addr.add_mid, Nat.zero_add, cell_of_row _ _ _ _ 3 (0, 0) (MapKept.heap_alloc W6 _).1]; simpa using hj) (by intro u hu; obtain rfl : u = .int .i64 x.1 := (by simpa using hu); rfl) (by unfold maxLen; omega) (by omega) hbs ?_; intro v8 w8 hown8 hg8 hnil8 hat8))
          have HN : Hid (∃ a8 c8, v8 = .slice a8 (n + 1) c8 ∧ Below W3.heap.size W3 w8 ∧ w8.ownsRow W3.heap.size 3 1 v8 (n + 1) ((finds (fun m => fitB uniB (feats t) m) (l.take (i + 1))).map (Value.int .i64))) := by
            obtain ⟨a8, c8, e8⟩ := row_slice hown8
            have b0 : Below W3.heap.size W3 (W6.alloc (.cells #[.int .i64 x.1] 3)) := HB6.out.1.trans ((below_box W6 _).mono HB6.out.1.size)
            refine ⟨a8, c8, e8, b0.trans (below_of_grown hg8 b0.size (fun g e => (row_block HB6.out.2 e).1)), ?_⟩
            rw [finds_snoc HE.out.2, HFb.out]
            simpa using hown8
          go_roundw
          case rel => obtain ⟨a8, c8, rfl, hr⟩ := HN.out; exact ⟨i + 1, n + 1, a8, c8, by go_num, rfl, by have := HE.out.1; omega, hr⟩
          case measure => simp [intOf]; have := HE.out.1; omega
      · have hiI : ¬ (i : Int) < (l.length : Int) := by omega
        have e : l.take i = l := List.take_of_length_le (by omega)
        have HN : Hid (RowAt (fun k : Int => .int .i64 k) wr (.slice oa n oc) R ∧ Below W.heap.size W wr) := by
          have h2 := HI.out.2
          rw [e, HR0.out] at h2
          exact ⟨nums_row h2, HB1.out.trans (HB4.out.mono HB1.out.size)⟩
        clear hDz hAz
        go_wp2
        go_ret
        exact ⟨_, rfl, HN.out⟩
  · have hz : (t.rightW != 0) = true := by simpa using hr
    have HR0 : Hid (R = []) := by have := HRs.out; rw [if_neg hr] at this; exact this.symm
    obtain ⟨z, hzz⟩ : ∃ z, t.rightW = z := ⟨_, rfl⟩
    rw [hzz] at hc28 hz
    clear hr HRs hzz
    go_enter Try.func25, Try.ntmps25
    try rw [h1]
    go_wp2_with fail
    try rw [h1]
    refine hc28.mono ?_
    rintro e W2 ⟨rfl, b2⟩
    have HB2 : Hid (Below W.heap.size W W2) := HB1.out.trans (b2.mono HB1.out.size)
    clear b2 hc28 x0 x1 x2
    go_wp2
    go_ret
    exact ⟨_, rfl, by rw [HR0.out]; exact rowAt_nil _, HB2.out⟩

set_option maxRecDepth 100000 in
set_option maxHeartbeats 8000000 in
theorem find2_any (rx : Nat) (v : Value) (l : List En) (hlen : l.length ≤ 1048576) (t : T) (s : Value) (W : World) (hD : Dx W rx v l) (hargs : ∀ x ∈ l, ArgsAt W x.2.2 x.2.1.args) (ha : ArgsAt W s t.args) :
    Calls Try.prog 25 #[.pointer (some ⟨rx, 0, none⟩), tval t s, .int .i64 2] W fun e W' => ∃ v', e = .returned v' ∧ RowAt (fun k : Int => .int .i64 k) W' v' (if t.rightW = 0 then finds (fun m => fitB matB m (feats t)) l else []) ∧ Below W.heap.size W W' := by
  obtain ⟨R, hR⟩ : ∃ R, (if t.rightW = 0 then finds (fun m => fitB matB m (feats t)) l else []) = R := ⟨_, rfl⟩
  have HRs : Hid ((if t.rightW = 0 then finds (fun m => fitB matB m (feats t)) l else []) = R) := hR
  rw [hR]
  clear hR
  obtain ⟨W1, h1⟩ : ∃ X, W.alloc (tbox t s) = X := ⟨_, rfl⟩
  have b1 : Below W.heap.size W W1 := by rw [← h1]; exact below_box _ _
  have s1 : W1.heap.size = W.heap.size + 1 := by rw [← h1]; simp
  obtain ⟨x0, x1, x2⟩ := tbox_cells W t s
  rw [h1] at x0 x1 x2
  have hc28 := rright_any t s W1 (ArgsAt.keep b1 (Nat.le_refl _) ha)
  obtain ⟨i0, hi0, hz0, hz1, hz2⟩ := info_parts Try.info3q
  obtain ⟨a1, c1, rfl, hc1, hm1⟩ := hD.row.slice
  obtain ⟨sa, sc, rfl, _, _⟩ := ha.slice
  have HX : Hid (∀ Z, Below W1.heap.size W1 Z → Z.cell? ⟨W.heap.size, 0, none⟩ = some (.int .i64 t.v) ∧ Z.cell? ⟨W.heap.size, 1, none⟩ = some (.string t.fn) ∧ Z.cell? ⟨W.heap.size, 2, none⟩ = some (.slice sa t.args.length sc) ∧ Dx Z rx (.slice a1 l.length c1) l ∧ (∀ x ∈ l, ArgsAt Z x.2.2 x.2.1.args) ∧ ArgsAt Z (.slice sa t.args.length sc) t.args) := fun Z hZ => ⟨kc hZ (by omega) x0, kc hZ (by omega) x1, kc hZ (by omega) x2, (hD.keep b1).keep hZ, fun x hx => ArgsAt.keep (b1.trans (hZ.mono b1.size)) (Nat.le_refl _) (hargs x hx), ArgsAt.keep (b1.trans (hZ.mono b1.size)) (Nat.le_refl _) ha⟩
  have HB1 : Hid (Below W.heap.size W W1) := b1
  clear hD ha b1 hargs s1
  by_cases hr : t.rightW = 0
  · rw [hr] at hc28
    have HR0 : Hid (finds (fun m => fitB matB m (feats t)) l = R) := by have := HRs.out; rw [if_pos hr] at this; exact this
    clear hr HRs
    go_enter Try.func25, Try.ntmps25
    try rw [h1]
    go_wp2_with fail
    try rw [h1]
    refine hc28.mono ?_
    rintro e W2 ⟨rfl, b2⟩
    obtain ⟨y0, y1, y2, _, _, hA2⟩ := HX.out W2 b2
    have hc10 := rof_any t _ W2 hA2
    have HB2 : Hid (Below W1.heap.size W1 W2) := b2
    clear b2 hc28 x0 x1 x2 hA2
    go_wp2_with fail
    refine hc10.mono ?_
    rintro e W3 ⟨vf, rfl, hf3, b3⟩
    have HB3 : Hid (Below W1.heap.size W1 W3) := HB2.out.trans (b3.mono HB2.out.size)
    have HF : Hid (∀ Z, Below W3.heap.size W3 Z → FtAt Z vf (feats t)) := fun Z hZ => hf3.keep hZ (Nat.le_refl _)
    obtain ⟨fa, fc, rfl, _, _⟩ := hf3.slice
    clear b3 hf3 hc10 y0 y1 y2
    go_wp2
    go_loopw [7, 9] (fun vo vi wr => ∃ (i n : Nat) (oa : Option Addr) (oc : Nat), vi = .int .i64 i ∧ vo = .slice oa n oc ∧ i ≤ l.length ∧ Hid (Below W3.heap.size W3 wr ∧ wr.ownsRow W3.heap.size 3 1 (.slice oa n oc) n ((finds (fun m => fitB matB m (feats t)) (l.take i)).map (Value.int .i64)))) (fun _ vi _ => l.length - (intOf vi).toNat)
    case atStart => exact ⟨0, 0, none, 0, rfl, rfl, Nat.zero_le _, Below.refl _ _, World.ownsRow_nil _ _ _ _⟩
    case round =>
      obtain ⟨i, n, oa, oc, rfl, rfl, hi, HI⟩ := hrel
      have HB4 : Hid (Below W1.heap.size W1 wr) := HB3.out.trans (HI.out.1.mono HB3.out.size)
      obtain ⟨_, _, _, hDz, hAz, _⟩ := HX.out wr HB4.out
      have cx := hDz.cell
      by_cases hlt : i < l.length
      · have hiI : (i : Int) < (l.length : Int) := by omega
        have hn0 : (0 : Int) ≤ (i : Int) := by omega
        obtain ⟨bb, rfl, hbb, z0, z1, z2, z3⟩ := hDz.row.nth hlt
        obtain ⟨x, hx⟩ : ∃ x, l[i] = x := ⟨_, rfl⟩
        rw [hx] at z0 z1 z2 z3
        have HE : Hid (i < l.length ∧ l[i]? = some x) := ⟨hlt, by rw [List.getElem?_eq_getElem hlt, hx]⟩
        have hc10 := rof_any x.2.1 x.2.2 wr (hAz x (hx ▸ List.getElem_mem hlt))
        have hnb : n ≤ l.length := by
          have h1 := HI.out.2.1
          have h2 := finds_len (fun m => fitB matB m (feats t)) (l.take i)
          have h3 : (l.take i).length ≤ l.length := by simp; omega
          simp at h1
          omega
        clear hDz hAz hbb
        go_wp2_with fail
        refine hc10.mono ?_
        rintro e W5 ⟨vg, rfl, hg5, b5⟩
        have B5 : Below W3.heap.size W3 W5 := HI.out.1.trans (b5.mono HI.out.1.size)
        have HG : Hid (FtAt W5 vg (feats x.2.1)) := hg5
        have hcq := rMatches_any (feats x.2.1) (feats t) _ _ W5 HG.out (HF.out W5 B5)
        have hrow5 := row_keep HI.out.2 (W' := W5) (fun g hg => by
          obtain ⟨_, cq, hcq⟩ := row_block HI.out.2 hg
          exact b5.block g (Array.getElem?_eq_some_iff.1 hcq).1)
        have HB5 : Hid (Below W3.heap.size W3 W5 ∧ W5.ownsRow W3.heap.size 3 1 (.slice oa n oc) n ((finds (fun m => fitB matB m (feats t)) (l.take i)).map (Value.int .i64))) := ⟨B5, hrow5⟩
        obtain ⟨ga, gc, rfl, _, _⟩ := hg5.slice
        clear b5 B5 hg5 hrow5 hc10 z0 z1 z2 z3 cx
        go_wp2_with fail
        refine hcq.mono ?_
        rintro e W6 ⟨rfl, b6⟩
        have B6 : Below W3.heap.size W3 W6 := HB5.out.1.trans (b6.mono HB5.out.1.size)
        have hrow6 := row_keep HB5.out.2 (W' := W6) (fun g hg => by
          obtain ⟨_, cq, hcq⟩ := row_block HB5.out.2 hg
          exact b6.block g (Array.getElem?_eq_some_iff.1 hcq).1)
        have HB6 : Hid (Below W3.heap.size W3 W6 ∧ W6.ownsRow W3.heap.size 3 1 (.slice oa n oc) n ((finds (fun m => fitB matB m (feats t)) (l.take i)).map (Value.int .i64))) := ⟨B6, hrow6⟩
        clear b6 hcq
        cases hfb : fitB matB (feats x.2.1) (feats t)
        · have HN : Hid (W6.ownsRow W3.heap.size 3 1 (.slice oa n oc) n ((finds (fun m => fitB matB m (feats t)) (l.take (i + 1))).map (Value.int .i64))) := by
            show World.ownsRow _ _ _ _ _ _ _
            rw [finds_snoc HE.out.2, hfb]
            simpa using hrow6
          clear hrow6 B6 hfb
          go_wp2
          go_roundw
          case rel => exact ⟨i + 1, n, oa, oc, by go_num, rfl, by have := HE.out.1; omega, HB6.out.1, HN.out⟩
          case measure => simp [intOf]; have := HE.out.1; omega
        · have hrow7 := row_keep hrow6 (W' := W6.alloc (.cells #[.int .i64 x.1] 3)) (fun g hg => by
            obtain ⟨_, cq, hcq⟩ := row_block hrow6 hg
            exact (below_box W6 _).block g (Array.getElem?_eq_some_iff.1 hcq).1)
          have hbs : W3.heap.size ≤ (W6.alloc (.cells #[.int .i64 x.1] 3)).heap.size := by have := B6.size; simp; omega
          have B16 : Below W1.heap.size W1 W6 := HB3.out.trans (B6.mono HB3.out.size)
          obtain ⟨_, _, _, hDz, _, _⟩ := HX.out W6 B16
          have cx := hDz.cell
          obtain ⟨b', e', _, z0, _, _, _⟩ := hDz.row.nth HE.out.1
          obtain rfl : bb = b' := by injection e' with e'; injection e' with e'
          rw [(List.getElem?_eq_some_iff.1 HE.out.2).2] at z0
          have HFb : Hid (fitB matB (feats x.2.1) (feats t) = true) := hfb
          clear hrow6 B6 hfb hDz B16
          go_wp2_with (first | (at_builtin; refine wpList_append_own_at _ rfl _ _ 50 rfl W3.heap.size 3 i0 _ 1 8 Try.underlying50 hi0 hz0 hz1 hz2 rfl (by decide) (.slice oa n oc) n _ rfl hrow7 ⟨W6.heap.size, 0, none⟩ 1 1 [.int .i64 x.1] rfl rfl (fun j u hj => by rw [Addr.add_mid, Nat.zero_add, cell_of_row _ _ _ _ 3 (0, 0) (MapKept.heap_alloc W6 _).1]; simpa using hj) (by intro u hu; obtain rfl : u = .int .i64 x.1 := (by simpa using hu); rfl) (by unfold maxLen; omega) (by omega) hbs ?_; intro v8 w8 hown8 hg8 hnil8 hat8))
          have HN : Hid (∃ a8 c8, v8 = .slice a8 (n + 1) c8 ∧ Below W3.heap.size W3 w8 ∧ w8.ownsRow W3.heap.size 3 1 v8 (n + 1) ((finds (fun m => fitB matB m (feats t)) (l.take (i + 1))).map (Value.int .i64))) := by
            obtain ⟨a8, c8, e8⟩ := row_slice hown8
            have b0 : Below W3.heap.size W3 (W6.alloc (.cells #[.int .i64 x.1] 3)) := HB6.out.1.trans ((below_box W6 _).mono HB6.out.1.size)
            refine ⟨a8, c8, e8, b0.trans (below_of_grown hg8 b0.size (fun g e => (row_block HB6.out.2 e).1)), ?_⟩
            rw [finds_snoc HE.out.2, HFb.out]
            simpa using hown8
          go_roundw
          case rel => obtain ⟨a8, c8, rfl, hr⟩ := HN.out; exact ⟨i + 1, n + 1, a8, c8, by go_num, rfl, by have := HE.out.1; omega, hr⟩
          case measure => simp [intOf]; have := HE.out.1; omega
      · have hiI : ¬ (i : Int) < (l.length : Int) := by omega
        have e : l.take i = l := List.take_of_length_le (by omega)
        have HN : Hid (RowAt (fun k : Int => .int .i64 k) wr (.slice oa n oc) R ∧ Below W.heap.size W wr) := by
          have h2 := HI.out.2
          rw [e, HR0.out] at h2
          exact ⟨nums_row h2, HB1.out.trans (HB4.out.mono HB1.out.size)⟩
        clear hDz hAz
        go_wp2
        go_ret
        exact ⟨_, rfl, HN.out⟩
  · have hz : (t.rightW != 0) = true := by simpa using hr
    have HR0 : Hid (R = []) := by have := HRs.out; rw [if_neg hr] at this; exact this.symm
    obtain ⟨z, hzz⟩ : ∃ z, t.rightW = z := ⟨_, rfl⟩
    rw [hzz] at hc28 hz
    clear hr HRs hzz
    go_enter Try.func25, Try.ntmps25
    try rw [h1]
    go_wp2_with fail
    try rw [h1]
    refine hc28.mono ?_
    rintro e W2 ⟨rfl, b2⟩
    have HB2 : Hid (Below W.heap.size W W2) := HB1.out.trans (b2.mono HB1.out.size)
    clear b2 hc28 x0 x1 x2
    go_wp2
    go_ret
    exact ⟨_, rfl, by rw [HR0.out]; exact rowAt_nil _, HB2.out⟩

set_option maxRecDepth 100000 in
set_option maxHeartbeats 8000000 in
theorem find3_any (rx : Nat) (v : Value) (l : List En) (hlen : l.length ≤ 1048576) (t : T) (s : Value) (W : World) (hD : Dx W rx v l) (hargs : ∀ x ∈ l, ArgsAt W x.2.2 x.2.1.args) (ha : ArgsAt W s t.args) :
    Calls Try.prog 25 #[.pointer (some ⟨rx, 0, none⟩), tval t s, .int .i64 3] W fun e W' => ∃ v', e = .returned v' ∧ RowAt (fun k : Int => .int .i64 k) W' v' (if t.rightW = 0 then finds (fun m => fitB matB (feats t) m) l else []) ∧ Below W.heap.size W W' := by
  obtain ⟨R, hR⟩ : ∃ R, (if t.rightW = 0 then finds (fun m => fitB matB (feats t) m) l else []) = R := ⟨_, rfl⟩
  have HRs : Hid ((if t.rightW = 0 then finds (fun m => fitB matB (feats t) m) l else []) = R) := hR
  rw [hR]
  clear hR
  obtain ⟨W1, h1⟩ : ∃ X, W.alloc (tbox t s) = X := ⟨_, rfl⟩
  have b1 : Below W.heap.size W W1 := by rw [← h1]; exact below_box _ _
  have s1 : W1.heap.size = W.heap.size + 1 := by rw [← h1]; simp
  obtain ⟨x0, x1, x2⟩ := tbox_cells W t s
  rw [h1] at x0 x1 x2
  have hc28 := rright_any t s W1 (ArgsAt.keep b1 (Nat.le_refl _) ha)
  obtain ⟨i0, hi0, hz0, hz1, hz2⟩ := info_parts Try.info3q
  obtain ⟨a1, c1, rfl, hc1, hm1⟩ := hD.row.slice
  obtain ⟨sa, sc, rfl, _, _⟩ := ha.slice
  have HX : Hid (∀ Z, Below W1.heap.size W1 Z → Z.cell? ⟨W.heap.size, 0, none⟩ = some (.int .i64 t.v) ∧ Z.cell? ⟨W.heap.size, 1, none⟩ = some (.string t.fn) ∧ Z.cell? ⟨W.heap.size, 2, none⟩ = some (.slice sa t.args.length sc) ∧ Dx Z rx (.slice a1 l.length c1) l ∧ (∀ x ∈ l, ArgsAt Z x.2.2 x.2.1.args) ∧ ArgsAt Z (.slice sa t.args.length sc) t.args) := fun Z hZ => ⟨kc hZ (by omega) x0, kc hZ (by omega) x1, kc hZ (by omega) x2, (hD.keep b1).keep hZ, fun x hx => ArgsAt.keep (b1.trans (hZ.mono b1.size)) (Nat.le_refl _) (hargs x hx), ArgsAt.keep (b1.trans (hZ.mono b1.size)) (Nat.le_refl _) ha⟩
  have HB1 : Hid (Below W.heap.size W W1) := b1
  clear hD ha b1 hargs s1
  by_cases hr : t.rightW = 0
  · rw [hr] at hc28
    have HR0 : Hid (finds (fun m => fitB matB (feats t) m) l = R) := by have := HRs.out; rw [if_pos hr] at this; exact this
    clear hr HRs
    go_enter Try.func25, Try.ntmps25
    try rw [h1]
    go_wp2_with fail
    try rw [h1]
    refine hc28.mono ?_
    rintro e W2 ⟨rfl, b2⟩
    obtain ⟨y0, y1, y2, _, _, hA2⟩ := HX.out W2 b2
    have hc10 := rof_any t _ W2 hA2
    have HB2 : Hid (Below W1.heap.size W1 W2) := b2
    clear b2 hc28 x0 x1 x2 hA2
    go_wp2_with fail
    refine hc10.mono ?_
    rintro e W3 ⟨vf, rfl, hf3, b3⟩
    have HB3 : Hid (Below W1.heap.size W1 W3) := HB2.out.trans (b3.mono HB2.out.size)
    have HF : Hid (∀ Z, Below W3.heap.size W3 Z → FtAt Z vf (feats t)) := fun Z hZ => hf3.keep hZ (Nat.le_refl _)
    obtain ⟨fa, fc, rfl, _, _⟩ := hf3.slice
    clear b3 hf3 hc10 y0 y1 y2
    go_wp2
    go_loopw [7, 9] (fun vo vi wr => ∃ (i n : Nat) (oa : Option Addr) (oc : Nat), vi = .int .i64 i ∧ vo = .slice oa n oc ∧ i ≤ l.length ∧ Hid (Below W3.heap.size W3 wr ∧ wr.ownsRow W3.heap.size 3 1 (.slice oa n oc) n ((finds (fun m => fitB matB (feats t) m) (l.take i)).map (Value.int .i64)))) (fun _ vi _ => l.length - (intOf vi).toNat)
    case atStart => exact ⟨0, 0, none, 0, rfl, rfl, Nat.zero_le _, Below.refl _ _, World.ownsRow_nil _ _ _ _⟩
    case round =>
      obtain ⟨i, n, oa, oc, rfl, rfl, hi, HI⟩ := hrel
      have HB4 : Hid (Below W1.heap.size W1 wr) := HB3.out.trans (HI.out.1.mono HB3.out.size)
      obtain ⟨_, _, _, hDz, hAz, _⟩ := HX.out wr HB4.out
      have cx := hDz.cell
      by_cases hlt : i < l.length
      · have hiI : (i : Int) < (l.length : Int) := by omega
        have hn0 : (0 : Int) ≤ (i : Int) := by omega
        obtain ⟨bb, rfl, hbb, z0, z1, z2, z3⟩ := hDz.row.nth hlt
        obtain ⟨x, hx⟩ : ∃ x, l[i] = x := ⟨_, rfl⟩
        rw [hx] at z0 z1 z2 z3
        have HE : Hid (i < l.length ∧ l[i]? = some x) := ⟨hlt, by rw [List.getElem?_eq_getElem hlt, hx]⟩
        have hc10 := rof_any x.2.1 x.2.2 wr (hAz x (hx ▸ List.getElem_mem hlt))
        have hnb : n ≤ l.length := by
          have h1 := HI.out.2.1
          have h2 := finds_len (fun m => fitB matB (feats t) m) (l.take i)
          have h3 : (l.take i).length ≤ l.length := by simp; omega
          simp at h1
          omega
        clear hDz hAz hbb
        go_wp2_with fail
        refine hc10.mono ?_
        rintro e W5 ⟨vg, rfl, hg5, b5⟩
        have B5 : Below W3.heap.size W3 W5 := HI.out.1.trans (b5.mono HI.out.1.size)
        have HG : Hid (FtAt W5 vg (feats x.2.1)) := hg5
        have hcq := rMatches_any (feats t) (feats x.2.1) _ _ W5 (HF.out W5 B5) HG.out
        have hrow5 := row_keep HI.out.2 (W' := W5) (fun g hg => by
          obtain ⟨_, cq, hcq⟩ := row_block HI.out.2 hg
          exact b5.block g (Array.getElem?_eq_some_iff.1 hcq).1)
        have HB5 : Hid (Below W3.heap.size W3 W5 ∧ W5.ownsRow W3.heap.size 3 1 (.slice oa n oc) n ((finds (fun m => fitB matB (feats t) m) (l.take i)).map (Value.int .i64))) := ⟨B5, hrow5⟩
        obtain ⟨ga, gc, rfl, _, _⟩ := hg5.slice
        clear b5 B5 hg5 hrow5 hc10 z0 z1 z2 z3 cx
        go_wp2_with fail
        refine hcq.mono ?_
        rintro e W6 ⟨rfl, b6⟩
        have B6 : Below W3.heap.size W3 W6 := HB5.out.1.trans (b6.mono HB5.out.1.size)
        have hrow6 := row_keep HB5.out.2 (W' := W6) (fun g hg => by
          obtain ⟨_, cq, hcq⟩ := row_block HB5.out.2 hg
          exact b6.block g (Array.getElem?_eq_some_iff.1 hcq).1)
        have HB6 : Hid (Below W3.heap.size W3 W6 ∧ W6.ownsRow W3.heap.size 3 1 (.slice oa n oc) n ((finds (fun m => fitB matB (feats t) m) (l.take i)).map (Value.int .i64))) := ⟨B6, hrow6⟩
        clear b6 hcq
        cases hfb : fitB matB (feats t) (feats x.2.1)
        · have HN : Hid (W6.ownsRow W3.heap.size 3 1 (.slice oa n oc) n ((finds (fun m => fitB matB (feats t) m) (l.take (i + 1))).map (Value.int .i64))) := by
            show World.ownsRow _ _ _ _ _ _ _
            rw [finds_snoc HE.out.2, hfb]
            simpa using hrow6
          clear hrow6 B6 hfb
          go_wp2
          go_roundw
          case rel => exact ⟨i + 1, n, oa, oc, by go_num, rfl, by have := HE.out.1; omega, HB6.out.1, HN.out⟩
          case measure => simp [intOf]; have := HE.out.1; omega
        · have hrow7 := row_keep hrow6 (W' := W6.alloc (.cells #[.int .i64 x.1] 3)) (fun g hg => by
            obtain ⟨_, cq, hcq⟩ := row_block hrow6 hg
            exact (below_box W6 _).block g (Array.getElem?_eq_some_iff.1 hcq).1)
          have hbs : W3.heap.size ≤ (W6.alloc (.cells #[.int .i64 x.1] 3)).heap.size := by have := B6.size; simp; omega
          have B16 : Below W1.heap.size W1 W6 := HB3.out.trans (B6.mono HB3.out.size)
          obtain ⟨_, _, _, hDz, _, _⟩ := HX.out W6 B16
          have cx := hDz.cell
          obtain ⟨b', e', _, z0, _, _, _⟩ := hDz.row.nth HE.out.1
          obtain rfl : bb = b' := by injection e' with e'; injection e' with e'
          rw [(List.getElem?_eq_some_iff.1 HE.out.2).2] at z0
          have HFb : Hid (fitB matB (feats t) (feats x.2.1) = true) := hfb
          clear hrow6 B6 hfb hDz B16
          go_wp2_with (first | (at_builtin; refine wpList_append_own_at _ rfl _ _ 50 rfl W3.heap.size 3 i0 _ 1 8 Try.underlying50 hi0 hz0 hz1 hz2 rfl (by decide) (.slice oa n oc) n _ rfl hrow7 ⟨W6.heap.size, 0, none⟩ 1 1 [.int .i64 x.1] rfl rfl (fun j u hj => by rw [Addr.add_mid, Nat.zero_add, cell_of_row _ _ _ _ 3 (0, 0) (MapKept.heap_alloc W6 _).1]; simpa using hj) (by intro u hu; obtain rfl : u = .int .i64 x.1 := (by simpa using hu); rfl) (by unfold maxLen; omega) (by omega) hbs ?_; intro v8 w8 hown8 hg8 hnil8 hat8))
          have HN : Hid (∃ a8 c8, v8 = .slice a8 (n + 1) c8 ∧ Below W3.heap.size W3 w8 ∧ w8.ownsRow W3.heap.size 3 1 v8 (n + 1) ((finds (fun m => fitB matB (feats t) m) (l.take (i + 1))).map (Value.int .i64))) := by
            obtain ⟨a8, c8, e8⟩ := row_slice hown8
            have b0 : Below W3.heap.size W3 (W6.alloc (.cells #[.int .i64 x.1] 3)) := HB6.out.1.trans ((below_box W6 _).mono HB6.out.1.size)
            refine ⟨a8, c8, e8, b0.trans (below_of_grown hg8 b0.size (fun g e => (row_block HB6.out.2 e).1)), ?_⟩
            rw [finds_snoc HE.out.2, HFb.out]
            simpa using hown8
          go_roundw
          case rel => obtain ⟨a8, c8, rfl, hr⟩ := HN.out; exact ⟨i + 1, n + 1, a8, c8, by go_num, rfl, by have := HE.out.1; omega, hr⟩
          case measure => simp [intOf]; have := HE.out.1; omega
      · have hiI : ¬ (i : Int) < (l.length : Int) := by omega
        have e : l.take i = l := List.take_of_length_le (by omega)
        have HN : Hid (RowAt (fun k : Int => .int .i64 k) wr (.slice oa n oc) R ∧ Below W.heap.size W wr) := by
          have h2 := HI.out.2
          rw [e, HR0.out] at h2
          exact ⟨nums_row h2, HB1.out.trans (HB4.out.mono HB1.out.size)⟩
        clear hDz hAz
        go_wp2
        go_ret
        exact ⟨_, rfl, HN.out⟩
  · have hz : (t.rightW != 0) = true := by simpa using hr
    have HR0 : Hid (R = []) := by have := HRs.out; rw [if_neg hr] at this; exact this.symm
    obtain ⟨z, hzz⟩ : ∃ z, t.rightW = z := ⟨_, rfl⟩
    rw [hzz] at hc28 hz
    clear hr HRs hzz
    go_enter Try.func25, Try.ntmps25
    try rw [h1]
    go_wp2_with fail
    try rw [h1]
    refine hc28.mono ?_
    rintro e W2 ⟨rfl, b2⟩
    have HB2 : Hid (Below W.heap.size W W2) := HB1.out.trans (b2.mono HB1.out.size)
    clear b2 hc28 x0 x1 x2
    go_wp2
    go_ret
    exact ⟨_, rfl, by rw [HR0.out]; exact rowAt_nil _, HB2.out⟩

set_option maxRecDepth 100000 in
set_option maxHeartbeats 4000000 in
theorem ints_same (l : List Int) (v1 v2 : Value) (w : World) (hl : RowAt (fun k : Int => .int .i64 k) w v1 l) (hm : RowAt (fun k : Int => .int .i64 k) w v2 l) :
    Calls Try.prog 23 #[v1, v2] w fun e w' => e = .returned (.bool true) ∧ Below w.heap.size w w' := by
  obtain ⟨a1, c1, rfl, hc1, hm1⟩ := hl.slice
  obtain ⟨a2, c2, rfl, hc2, hm2⟩ := hm.slice
  have HL : Hid (RowAt (fun k : Int => .int .i64 k) w (.slice a1 l.length c1) l ∧ RowAt (fun k : Int => .int .i64 k) w (.slice a2 l.length c2) l) := ⟨hl, hm⟩
  clear hl hm
  go_enter Try.func23, Try.ntmps23
  go_wp2
  go_loopw [5] (fun vi wr => ∃ (i : Nat), vi = .int .i64 i ∧ i ≤ l.length ∧ Hid (Below w.heap.size w wr)) (fun vi _ => l.length - (intOf vi).toNat)
  case atStart => exact ⟨0, rfl, Nat.zero_le _, Below.refl _ _⟩
  case round =>
    obtain ⟨i, rfl, hi, HI⟩ := hrel
    by_cases hlt : i < l.length
    · have hiI : (i : Int) < (l.length : Int) := by omega
      have hn0 : (0 : Int) ≤ (i : Int) := by omega
      obtain ⟨b1, o1, rfl, hb1, q1⟩ := (HL.out.1.keep HI.out (Nat.le_refl _)).nth hlt
      obtain ⟨b2, o2, rfl, hb2, q2⟩ := (HL.out.2.keep HI.out (Nat.le_refl _)).nth hlt
      have F1 := cell_far hb1 q1
      have F2 := cell_far hb2 q2
      have HE : Hid (i < l.length) := hlt
      have HB : Hid (∀ pf, Below w.heap.size w (far wr pf)) := fun pf => HI.out.trans ((below_far wr pf).mono HI.out.size)
      clear hb1 hb2 q1 q2
      go_wp2
      refine wp_region_far (by kernel_rfl) ?_
      repeat (first | go_big_quiet_step (fail) | quiet_step (fail))
      refine wpQuiet_nil ?_
      intro _ hw'
      obtain ⟨pf, rfl⟩ := hw'
      clear F1 F2
      go_wp2
      go_roundw
      case rel => exact ⟨i + 1, by go_num, by have := HE.out; omega, HB.out pf⟩
      case measure => simp [intOf]; have := HE.out; omega
    · have hiI : ¬ (i : Int) < (l.length : Int) := by omega
      go_wp2
      go_ret
      exact ⟨rfl, HI.out⟩

end Go.Proofs.Ytiklbkkimmgbcaa
