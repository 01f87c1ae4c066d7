import Derived.Test.YtgnjgpplelakkaaGreatLB
import Derived.Test.YtgnjgpplelakkaaGreatMC
import Derived.Test.YtgnjgpplelakkaaGreatL

/-
  The document's Size and Right of clauses.
-/
namespace Go.Proofs.YtgnjgpplelakkaaGreat
open Go.RowKit

def csize (c : List Lt) : Int := (c.map fun x => x.l.size + x.r.size).sum
/-- Of the first k. -/
def cupto (c : List Lt) (k : Nat) : Int := csize (c.take k)
theorem cupto_succ (c : List Lt) (k : Nat) (h : k < c.length) : cupto c (k + 1) = cupto c k + (c[k].l.size + c[k].r.size) := by
  unfold cupto csize
  rw [List.take_succ_eq_append_getElem h]
  simp only [List.map_append, List.sum_append, List.map_cons, List.map_nil, List.sum_cons, List.sum_nil, Int.add_zero]
theorem cupto_all (c : List Lt) (k : Nat) (h : c.length ≤ k) : cupto c k = csize c := by
  unfold cupto
  rw [List.take_of_length_le h]
theorem cstep (c : List Lt) (k : Nat) (h : k < c.length) : wrap64 (wrap64 (wrap64 (cupto c k) + wrap64 c[k].l.size) + wrap64 c[k].r.size) = wrap64 (cupto c (k + 1)) := by
  rw [cupto_succ c k h]
  simp only [wrap64]
  omega

set_option maxRecDepth 100000 in
set_option maxHeartbeats 2000000 in
theorem rcsize_any (l : List Lt) (v : Value) (w : World) (hc : ClauseAt w v l) :
    Calls Tryz.prog 5 #[v] w fun e w' => e = .returned (.int .i64 (wrap64 (csize l))) ∧ Below w.heap.size w w' := by
  obtain ⟨a, c, rfl⟩ := hc.slice
  have hlen := hc.len
  have HC : Hid (ClauseAt w (.slice a l.length c) l) := hc
  clear hc
  go_enter Tryz.func5, Tryz.ntmps5
  go_wp2
  go_loopw [3, 4] (fun vn vi wr => ∃ i : Nat, vi = .int .i64 i ∧ vn = .int .i64 (wrap64 (cupto l i)) ∧ i ≤ l.length ∧ Below w.heap.size w wr) (fun _ vi _ => l.length - (intOf vi).toNat)
  case atStart => exact ⟨0, rfl, by simp [cupto, csize, wrap64], Nat.zero_le _, Below.refl _ _⟩
  case round =>
    obtain ⟨i, rfl, rfl, hi, hb⟩ := hrel
    by_cases hlt : i < l.length
    · obtain ⟨bb, o, sl, sr, rfl, hX⟩ := (HC.out.keep hb).nth hlt
      have HS : Hid (wrap64 (wrap64 (wrap64 (cupto l i) + wrap64 l[i].l.size) + wrap64 l[i].r.size) = wrap64 (cupto l (i + 1))) := cstep l i hlt
      obtain ⟨x, hx⟩ : ∃ x, l[i] = x := ⟨_, rfl⟩
      rw [hx] at hX HS
      clear hx
      have hc40 : ∀ (t : T) (s : Value), ArgsAt wr s t.args → ∀ W, Below wr.heap.size wr W → Calls Tryz.prog 4 #[tval t s] W fun e w' => e = .returned (.int .i64 (wrap64 t.size)) ∧ Below W.heap.size W w' := fun t s h W hW => rsize_any t _ W (ArgsAt.keep hW (Nat.le_refl _) h)
      have hal := hX.al
      have har := hX.ar
      have f1 := fun p => cell_far hX.lt hX.c1 p
      have f2 := fun p => cell_far hX.lt hX.c2 p
      have f3 := fun p => cell_far hX.lt hX.c3 p
      have f4 := fun p => cell_far hX.lt hX.c4 p
      have f5 := fun p => cell_far hX.lt hX.c5 p
      have f6 := fun p => cell_far hX.lt hX.c6 p
      have i0 : (i : Int) < (l.length : Int) := by omega
      have i1 : (0 : Int) ≤ (i : Int) := by omega
      have HB : Hid (Below w.heap.size w wr) := hb
      obtain ⟨_, _, rfl, _⟩ := hX.al.slice
      obtain ⟨_, _, rfl, _⟩ := hX.ar.slice
      clear hX hb
      go_wp2
      refine wp_region_far (by kernel_rfl) ?_
      repeat (first | go_big_quiet_step (exact calls_far (hc40 _ _ (by first | exact hal | exact har)) _) | quiet_step (exact calls_far (hc40 _ _ (by first | exact hal | exact har)) _))
      refine wpQuiet_nil ?_
      intro _ hw'
      obtain ⟨pf, rfl⟩ := hw'
      go_wp2
      go_roundw
      case rel => exact ⟨i + 1, by go_num, by rw [← HS.out], by omega, HB.out.trans ((below_far _ pf).mono HB.out.size)⟩
      case measure => simp [intOf]; omega
    · have HE : Hid (cupto l i = csize l) := cupto_all l i (by omega)
      go_wp2
      go_ret
      exact ⟨ret_i64 (by rw [HE.out]), hb⟩

/-- The first error of terms. -/
def fe : List T → Int
  | [] => 0
  | t :: r => if t.rightW = 0 then fe r else t.rightW
def sidesOf (c : List Lt) : List T := c.flatMap fun x => [x.l, x.r]
/-- What Right says of a clause. -/
def crightW (c : List Lt) : Int := if 60 < c.length then 3 else if fe (sidesOf c) ≠ 0 then fe (sidesOf c) else if 4000 < wrap64 (csize c) then 3 else 0

theorem fe_zero : ∀ {l : List T}, fe l = 0 ↔ ∀ t ∈ l, t.rightW = 0
  | [] => by simp [fe]
  | t :: r => by
    unfold fe
    by_cases h : t.rightW = 0
    · rw [if_pos h, fe_zero]
      simp [h]
    · rw [if_neg h]
      simp [h]

theorem fe_drop (c : List Lt) : ∀ i, i ≤ c.length → (∀ j (hj : j < c.length), j < i → c[j].l.rightW = 0 ∧ c[j].r.rightW = 0) → fe (sidesOf c) = fe (sidesOf (c.drop i)) := by
  intro i
  induction i with
  | zero => intro _ _; simp
  | succ i ih =>
    intro hi h
    rw [ih (by omega) (fun j hj hji => h j hj (by omega))]
    have e : c.drop i = c[i] :: c.drop (i + 1) := List.drop_eq_getElem_cons (by omega)
    obtain ⟨h1, h2⟩ := h i (by omega) (by omega)
    rw [e]
    unfold sidesOf
    rw [List.flatMap_cons]
    simp only [List.cons_append, List.nil_append, fe, h1, h2, if_true]

theorem fe_first (c : List Lt) (i : Nat) (hi : i < c.length) (h : ∀ j (hj : j < c.length), j < i → c[j].l.rightW = 0 ∧ c[j].r.rightW = 0) : (c[i].l.rightW ≠ 0 → fe (sidesOf c) = c[i].l.rightW) ∧ (c[i].l.rightW = 0 → c[i].r.rightW ≠ 0 → fe (sidesOf c) = c[i].r.rightW) := by
  rw [fe_drop c i (by omega) h]
  have e : c.drop i = c[i] :: c.drop (i + 1) := List.drop_eq_getElem_cons (by omega)
  rw [e]
  unfold sidesOf
  rw [List.flatMap_cons]
  refine ⟨fun h1 => ?_, fun h1 h2 => ?_⟩
  · simp only [List.cons_append, List.nil_append, fe, h1, if_false]
  · simp only [List.cons_append, List.nil_append, fe, h1, h2, if_true, if_false]

set_option maxRecDepth 100000 in
set_option maxHeartbeats 4000000 in
theorem rcright_any (l : List Lt) (v : Value) (w : World) (hc : ClauseAt w v l) :
    Calls Tryz.prog 25 #[v] w fun e w' => e = .returned (.int .i64 (crightW l)) ∧ Below w.heap.size w w' := by
  obtain ⟨a, c, rfl⟩ := hc.slice
  have hlen := hc.len
  have HC : Hid (ClauseAt w (.slice a l.length c) l) := hc
  clear hc
  by_cases h60 : 60 < l.length
  · have HE : Hid (crightW l = 3) := by show _ = _; unfold crightW; rw [if_pos h60]
    go_enter Tryz.func25, Tryz.ntmps25
    go_wp2
    all_goals first | (exfalso; omega) | skip
    go_ret
    exact ⟨ret_i64 HE.out.symm, Below.refl _ _⟩
  · have HE : Hid (crightW l = if fe (sidesOf l) ≠ 0 then fe (sidesOf l) else if 4000 < wrap64 (csize l) then 3 else 0) := by show _ = _; unfold crightW; rw [if_neg h60]
    go_enter Tryz.func25, Tryz.ntmps25
    go_wp2
    all_goals first | (exfalso; omega) | skip
    go_loopw [3] (fun vi wr => ∃ i : Nat, vi = .int .i64 i ∧ i ≤ l.length ∧ Below w.heap.size w wr ∧ ∀ j (hj : j < l.length), j < i → l[j].l.rightW = 0 ∧ l[j].r.rightW = 0) (fun vi _ => l.length - (intOf vi).toNat)
    case atStart => exact ⟨0, rfl, Nat.zero_le _, Below.refl _ _, fun j _ hj => absurd hj (by omega)⟩
    case round =>
      obtain ⟨i, rfl, hi, hb, hall⟩ := hrel
      by_cases hlt : i < l.length
      · obtain ⟨bb, o, sl, sr, rfl, hX⟩ := (HC.out.keep hb).nth hlt
        have HF : Hid ((l[i].l.rightW ≠ 0 → fe (sidesOf l) = l[i].l.rightW) ∧ (l[i].l.rightW = 0 → l[i].r.rightW ≠ 0 → fe (sidesOf l) = l[i].r.rightW)) := fe_first l i hlt hall
        have HN : Hid (l[i].l.rightW = 0 → l[i].r.rightW = 0 → ∀ j (hj : j < l.length), j < i + 1 → l[j].l.rightW = 0 ∧ l[j].r.rightW = 0) := fun h1 h2 j hj hji => by
          by_cases e : j = i
          · subst e; exact ⟨h1, h2⟩
          · exact hall j hj (by omega)
        obtain ⟨x, hx⟩ : ∃ x, l[i] = x := ⟨_, rfl⟩
        rw [hx] at hX HF HN
        clear hx hall
        have hcl := rright_any x.l sl wr hX.al
        have hcr : ∀ W, Below wr.heap.size wr W → Calls Tryz.prog 52 #[tval x.r sr] W fun e w' => e = .returned (.int .i64 x.r.rightW) ∧ Below W.heap.size W w' := fun W hW => rright_any x.r _ W (ArgsAt.keep hW (Nat.le_refl _) hX.ar)
        have HL : Hid (LitAt wr bb (o + i * 7) x sl sr) := hX
        have HB : Hid (Below w.heap.size w wr) := hb
        obtain ⟨c0, c1, c2, c3, c4, c5, c6⟩ : wr.cell? ⟨bb, o + i * 7, none⟩ = some (.bool x.neg) ∧ wr.cell? ⟨bb, o + i * 7 + 1, none⟩ = some (.int .i64 x.l.v) ∧ wr.cell? ⟨bb, o + i * 7 + 2, none⟩ = some (.string x.l.fn) ∧ wr.cell? ⟨bb, o + i * 7 + 3, none⟩ = some sl ∧ wr.cell? ⟨bb, o + i * 7 + 4, none⟩ = some (.int .i64 x.r.v) ∧ wr.cell? ⟨bb, o + i * 7 + 5, none⟩ = some (.string x.r.fn) ∧ wr.cell? ⟨bb, o + i * 7 + 6, none⟩ = some sr := ⟨hX.c0, hX.c1, hX.c2, hX.c3, hX.c4, hX.c5, hX.c6⟩
        have hlt' := hX.lt
        obtain ⟨_, _, rfl, _⟩ := hX.al.slice
        obtain ⟨_, _, rfl, _⟩ := hX.ar.slice
        clear hX hb
        generalize x.l.rightW = p at *
        generalize x.r.rightW = q at *
        by_cases hp : p = 0
        · have hpb : (p != 0) = false := by rw [bne_eq_false_iff_eq]; exact hp
          by_cases hq : q = 0
          · have hqb : (q != 0) = false := by rw [bne_eq_false_iff_eq]; exact hq
            have HNN : Hid (∀ j (hj : j < l.length), j < i + 1 → l[j].l.rightW = 0 ∧ l[j].r.rightW = 0) := HN.out hp hq
            clear HF HN hp hq
            go_wp2_with (first
              | (go_at_call 52; refine (hcr W1 H1).mono ?_; rintro e W2 ⟨rfl, H2⟩)
              | (go_at_call 52; refine hcl.mono ?_; rintro e W1 ⟨rfl, H1⟩; have k4 := kc H1 hlt' c4; have k5 := kc H1 hlt' c5; have k6 := kc H1 hlt' c6))
            go_roundw
            case rel => exact ⟨i + 1, by go_num, by omega, HB.out.trans ((H1.trans (H2.mono H1.size)).mono HB.out.size), HNN.out⟩
            case measure => simp [intOf]; omega
          · have hqb : (q != 0) = true := by rw [bne_iff_ne]; exact hq
            have HG : Hid (crightW l = q) := by
              have h1 := HF.out.2 hp hq
              show _ = _
              rw [HE.out, h1, if_pos hq]
            clear HF HN hp hq HE
            go_wp2_with (first
              | (go_at_call 52; refine (hcr W1 H1).mono ?_; rintro e W2 ⟨rfl, H2⟩)
              | (go_at_call 52; refine hcl.mono ?_; rintro e W1 ⟨rfl, H1⟩; have k4 := kc H1 hlt' c4; have k5 := kc H1 hlt' c5; have k6 := kc H1 hlt' c6))
            go_ret
            exact ⟨ret_i64 HG.out.symm, HB.out.trans ((H1.trans (H2.mono H1.size)).mono HB.out.size)⟩
        · have hpb : (p != 0) = true := by rw [bne_iff_ne]; exact hp
          have HG : Hid (crightW l = p) := by
            have h1 := HF.out.1 hp
            show _ = _
            rw [HE.out, h1, if_pos hp]
          clear HF HN hp HE
          go_wp2_with (go_at_call 52; refine hcl.mono ?_; rintro e W1 ⟨rfl, H1⟩)
          go_ret
          exact ⟨ret_i64 HG.out.symm, HB.out.trans (H1.mono HB.out.size)⟩
      · have h0 : fe (sidesOf l) = 0 := by
          rw [fe_drop l i hi hall, show i = l.length by omega, List.drop_length]
          rfl
        have HG : Hid (crightW l = if 4000 < wrap64 (csize l) then 3 else 0) := by
          show _ = _
          rw [HE.out, h0, if_neg (by simp)]
        have hsz := rcsize_any l _ wr (HC.out.keep hb)
        clear HE h0 hall
        generalize wrap64 (csize l) = z at *
        by_cases hz : 4000 < z
        · have HZ : Hid (crightW l = 3) := by show _ = _; rw [HG.out, if_pos hz]
          go_wp2_with (go_at_call 5; refine hsz.mono ?_; rintro e W1 ⟨rfl, H1⟩)
          go_ret
          exact ⟨ret_i64 HZ.out.symm, hb.trans (H1.mono hb.size)⟩
        · have HZ : Hid (crightW l = 0) := by show _ = _; rw [HG.out, if_neg hz]
          go_wp2_with (go_at_call 5; refine hsz.mono ?_; rintro e W1 ⟨rfl, H1⟩)
          go_ret
          exact ⟨ret_i64 HZ.out.symm, hb.trans (H1.mono hb.size)⟩

end Go.Proofs.YtgnjgpplelakkaaGreat

/-
  lits.terms: the sides of a clause, one by one.
-/
namespace Go.Proofs.YtgnjgpplelakkaaGreat
open Go.RowKit Go.Shelf

attribute [local go_sem] Oper.semAt_some

theorem own_newT {J : List Nat → List T → World → Prop} (hJ : Abide J) {E : List Nat} {pre : List T} {W : World} (hj : J E pre W) (o : Obj) : J (W.heap.size :: E) pre (W.alloc o) :=
  hJ _ _ _ _ _ _ hj (World.grownBy_alloc W _ none) (fun _ e => by cases e) (fun r hr => by rcases List.mem_cons.1 hr with rfl | h; exact .inr ⟨Nat.le_refl _, by simp⟩; exact .inl h)

theorem sides_succ (l : List Lt) (k : Nat) (h : k < l.length) : sidesOf (l.take (k + 1)) = sidesOf (l.take k) ++ [l[k].l] ++ [l[k].r] := by
  unfold sidesOf
  rw [List.take_succ_eq_append_getElem h, List.flatMap_append]
  simp

theorem sides_split (l : List Lt) (k : Nat) (h : k < l.length) : sidesOf l = sidesOf (l.take k) ++ l[k].l :: l[k].r :: sidesOf (l.drop (k + 1)) := by
  have h3 : l = l.take k ++ l[k] :: l.drop (k + 1) := by rw [List.getElem_cons_drop, List.take_append_drop]
  conv => lhs; rw [h3]
  unfold sidesOf
  rw [List.flatMap_append, List.flatMap_cons]
  simp

theorem lit_kept {W W' : World} {g : Nat} {x : Lt} {a b : Value} (h : LitAt W g 0 x a b) (hk : W'.heap[g]? = W.heap[g]?) : W'.cell? ⟨g, 4, none⟩ = some (.int .i64 x.r.v) ∧ W'.cell? ⟨g, 5, none⟩ = some (.string x.r.fn) ∧ W'.cell? ⟨g, 6, none⟩ = some b := by
  have cb : ∀ o, W'.cell? ⟨g, o, none⟩ = W.cell? ⟨g, o, none⟩ := fun o => by simp [World.cell?, hk]
  exact ⟨(cb 4).trans h.c4, (cb 5).trans h.c5, (cb 6).trans h.c6⟩

set_option maxRecDepth 100000 in
set_option maxHeartbeats 4000000 in
theorem terms1_any (w0 : World) (Bc : Nat) (l : List Lt) (v : Value) (W : World) (hb : Below w0.heap.size w0 W) (hbc : W.cell? ⟨Bc, 0, none⟩ = some v) (hc : ClauseAt w0 v l) :
    IterT 65 #[.pointer (some ⟨Bc, 0, none⟩)] w0 (sidesOf l) W := by
  intro m ly J Jx hJ hY hj
  obtain ⟨a, c, rfl⟩ := hc.slice
  have hlen := hc.len
  have HC : Hid (ClauseAt w0 (.slice a l.length c) l) := hc
  have HY : Hid (YieldsT ly w0 (sidesOf l) J Jx) := hY
  have HJ0 : Hid (J [] [] W ∧ Below w0.heap.size w0 W) := ⟨hj, hb⟩
  clear hc hY hj hb
  refine callsIn_of_wp Tryz.func65 rfl trivial ?_ rfl
  simp only [Tryz.ntmps65, List.size_toArray, List.length_cons, List.length_nil, Nat.reduceAdd, Nat.reduceSub, Array.replicate_succ, Array.replicate_zero, List.push_toArray, List.append_toArray, List.nil_append, List.cons_append]
  gi_wp2
  gi_loopw [7] (fun i wr => ∃ (k : Nat) (E' : List Nat), k ≤ l.length ∧ i = .int .i64 k ∧ Hid (J E' (sidesOf (l.take k)) wr ∧ Below w0.heap.size w0 wr)) (fun i _ => l.length - (intOf i).toNat)
  case atStart => exact ⟨0, [], Nat.zero_le _, rfl, HJ0.out⟩
  case round =>
    obtain ⟨k, E', hk, rfl, hj3, hb3⟩ := hrel
    by_cases hlt : k < l.length
    · obtain ⟨bb, o, sl, sr, e1, hX0⟩ := HC.out.nth hlt
      cases e1
      have hX := hX0.keep hb3
      have hL1 := lbox_at wr l[k] sl sr hX.al hX.ar
      have hj4 := own_newT hJ hj3 (lbox l[k] sl sr)
      have hb4 : Below w0.heap.size w0 (wr.alloc (lbox l[k] sl sr)) := hb3.trans ((below_box wr _).mono hb3.size)
      have hsp := sides_split l k hlt
      have hyL := HY.out _ _ l[k].l sl _ hj4 hb4 hX0.al ⟨l[k].r :: sidesOf (l.drop (k + 1)), hsp.symm⟩ (m - 1)
      have HS : Hid (sidesOf (l.take (k + 1)) = sidesOf (l.take k) ++ [l[k].l] ++ [l[k].r]) := sides_succ l k hlt
      have HSP : Hid (sidesOf l = sidesOf (l.take k) ++ l[k].l :: l[k].r :: sidesOf (l.drop (k + 1))) := hsp
      have HAR : Hid (ArgsAt w0 sr l[k].r.args) := hX0.ar
      have HL1 : Hid (LitAt (wr.alloc (lbox l[k] sl sr)) wr.heap.size 0 l[k] sl sr) := hL1
      have HB4 : Hid (Below w0.heap.size w0 (wr.alloc (lbox l[k] sl sr))) := hb4
      obtain ⟨x, hx⟩ : ∃ x, l[k] = x := ⟨_, rfl⟩
      simp only [hx] at hX hL1 hyL HS HSP HAR HL1 HB4
      obtain ⟨c0, c1, c2, c3, c4, c5, c6⟩ : wr.cell? ⟨bb, o + k * 7, none⟩ = some (.bool x.neg) ∧ wr.cell? ⟨bb, o + k * 7 + 1, none⟩ = some (.int .i64 x.l.v) ∧ wr.cell? ⟨bb, o + k * 7 + 2, none⟩ = some (.string x.l.fn) ∧ wr.cell? ⟨bb, o + k * 7 + 3, none⟩ = some sl ∧ wr.cell? ⟨bb, o + k * 7 + 4, none⟩ = some (.int .i64 x.r.v) ∧ wr.cell? ⟨bb, o + k * 7 + 5, none⟩ = some (.string x.r.fn) ∧ wr.cell? ⟨bb, o + k * 7 + 6, none⟩ = some sr := ⟨hX.c0, hX.c1, hX.c2, hX.c3, hX.c4, hX.c5, hX.c6⟩
      obtain ⟨k0, k1, k2, k3, k4, k5, k6⟩ := hL1.zero
      obtain ⟨la, lc, rfl, _⟩ := hX.al.slice
      obtain ⟨ra, rc, rfl, _⟩ := hX.ar.slice
      have i0' : (k : Int) < (l.length : Int) := by omega
      have i1' : (0 : Int) ≤ (k : Int) := by omega
      obtain ⟨fn, tmps, assign, body, hyr, hR⟩ := hyL
      clear hX hX0 hL1 hj3 hb3 hj4 hb4 hsp hx
      gi_wp2_with fail
      refine ⟨fun h => (by cases h), ?_⟩
      refine hR.mono ?_
      clear hR
      rintro e W2 (⟨rfl, hj2, hk2⟩ | ⟨rfl, hx⟩)
      · obtain ⟨m4, m5, m6⟩ := lit_kept HL1.out (hk2.mine wr.heap.size (by simp))
        have hb2 := HB4.out.trans hk2.below
        have hyR := HY.out _ _ x.r (.slice ra x.r.args.length rc) _ hj2 hb2 HAR.out ⟨sidesOf (l.drop (k + 1)), by rw [HSP.out]; simp⟩ (m - 1)
        have HB2 : Hid (Below w0.heap.size w0 W2) := hb2
        obtain ⟨fn2, tmps2, assign2, body2, hyr2, hR2⟩ := hyR
        clear hyr hj2 hk2 hb2
        gi_wp2_with fail
        refine ⟨fun h => (by cases h), ?_⟩
        refine hR2.mono ?_
        clear hR2
        rintro e W3 (⟨rfl, hj3, hk3⟩ | ⟨rfl, hx⟩)
        · have HN : Hid (J (wr.heap.size :: E') (sidesOf (l.take (k + 1))) W3 ∧ Below w0.heap.size w0 W3) := ⟨by rw [HS.out]; exact hj3, HB2.out.trans hk3.below⟩
          clear hj3 hk3 hyr2
          gi_wp2
          exact ⟨⟨k + 1, _, by omega, by go_num, HN.out⟩, by simp [intOf]; omega⟩
        · gi_wp2
          refine bodyPost_ret (results_none rfl _ _ _) rfl ?_
          exact ⟨⟨_, rfl⟩, .inr ⟨_, _, hx⟩⟩
      · gi_wp2
        refine ⟨fun f h => (by cases h), ?_⟩
        gi_wp2
        refine bodyPost_ret (results_none rfl _ _ _) rfl ?_
        exact ⟨⟨_, rfl⟩, .inr ⟨_, _, hx⟩⟩
    · have hke : k = l.length := by omega
      subst hke
      rw [List.take_length] at hj3
      have HF : Hid (J E' (sidesOf l) wr) := hj3
      clear hj3 hb3
      gi_wp2
      refine bodyPost_end (results_none rfl _ _ _) rfl ?_
      exact ⟨⟨_, rfl⟩, .inl ⟨_, HF.out⟩⟩

set_option maxHeartbeats 1000000 in
theorem terms_any (a : Option Addr) (n c : Nat) (w : World) :
    Calls Tryz.prog 42 #[.slice a n c] w fun e w' => e = .returned (.func (.func 65) #[] #[.pointer (some ⟨w.heap.size, 0, none⟩)]) ∧ w' = w.alloc (.cells #[.slice a n c] 24) := by
  go_enter Tryz.func42, Tryz.ntmps42
  go_wp2
  go_ret
  exact ⟨rfl, rfl⟩

end Go.Proofs.YtgnjgpplelakkaaGreat

/-
  lits.Size.
-/
namespace Go.Proofs.YtgnjgpplelakkaaGreat
open Go.RowKit Go.Shelf

attribute [local go_sem] Oper.semAt_some

/-- What a loop over terms keeps in one box. -/
structure InvT (w : World) (B : Nat) (ty : TypeId) (val : List T → Value) (E : List Nat) (pre : List T) (W : World) : Prop where
  box : Boxed W B ty (val pre)
  out : B ∉ E
  low : ∀ r ∈ E, w.heap.size ≤ r ∧ r < W.heap.size
  bel : Below w.heap.size w W

theorem InvT.abide (w : World) (B : Nat) (ty : TypeId) (val : List T → Value) : Abide (InvT w B ty val) := by
  intro E E' s W W' row h hg hr hE
  have hlt := h.box.lt
  refine ⟨h.box.kept hg (fun e => h.out (hr B e.symm)), fun hb => ?_, fun r hr' => ?_, h.bel.trans ⟨hg.os, hg.tape, hg.output, hg.size, fun k hk => hg.block k (Nat.lt_of_lt_of_le hk h.bel.size) (fun e => by have := h.low k (hr k e.symm); omega)⟩⟩
  · rcases hE B hb with hb | hb
    · exact h.out hb
    · omega
  · rcases hE r hr' with h' | h'
    · exact ⟨(h.low r h').1, Nat.lt_of_lt_of_le (h.low r h').2 hg.size⟩
    · exact ⟨Nat.le_trans h.bel.size h'.1, h'.2⟩

theorem InvT.grow {w : World} {B : Nat} {ty : TypeId} {val : List T → Value} {E : List Nat} {pre : List T} {W W' : World} (h : InvT w B ty val E pre W) (hb : Below W.heap.size W W') : Kept w.heap.size E W W' ∧ InvT w B ty val E pre W' :=
  ⟨⟨hb.mono h.bel.size, fun r hr => hb.block r (h.low r hr).2⟩, (hb.block B h.box.lt).trans h.box, h.out, fun r hr => ⟨(h.low r hr).1, Nat.lt_of_lt_of_le (h.low r hr).2 hb.size⟩, h.bel.trans (hb.mono h.bel.size)⟩

theorem InvT.store {w : World} {B : Nat} {ty : TypeId} {val : List T → Value} {E : List Nat} {pre : List T} {W : World} (h : InvT w B ty val E pre W) (hB : w.heap.size ≤ B) (val' : List T → Value) (s : List T) : Kept w.heap.size E W (W.setCell ⟨B, 0, none⟩ (val' s)) ∧ InvT w B ty val' E s (W.setCell ⟨B, 0, none⟩ (val' s)) := by
  have hb : Below w.heap.size W (W.setCell ⟨B, 0, none⟩ (val' s)) := (Below.refl _ _).setCell (p := ⟨B, 0, none⟩) hB _
  have g := grownBy_setCell' W B (val' s)
  refine ⟨⟨hb, fun r hr => ?_⟩, ⟨h.box.set (val' s), h.out, fun r hr => ⟨(h.low r hr).1, Nat.lt_of_lt_of_le (h.low r hr).2 g.size⟩, h.bel.trans hb⟩⟩
  by_cases hlt : r < W.heap.size
  · exact g.block r hlt (fun e => h.out (Option.some.inj e ▸ hr))
  · have h2 : (W.setCell ⟨B, 0, none⟩ (val' s)).heap.size = W.heap.size := by simp
    rw [Array.getElem?_eq_none (by omega), Array.getElem?_eq_none (by omega)]

theorem wrapK (x : Int) : IntKind.i64.wrap x = wrap64 x := by
  first | rfl | (rw [IntKind.wrap_i64]; simp only [wrap64]; done) | (rw [IntKind.wrap_i64]; simp only [wrap64]; omega)

def sumT (l : List T) : Int := (l.map T.size).sum
theorem sumT_snoc (l : List T) (t : T) : wrap64 (wrap64 (sumT l) + wrap64 t.size) = wrap64 (sumT (l ++ [t])) := by
  rw [wrap64_add]
  unfold sumT
  rw [List.map_append, List.sum_append]
  simp
theorem sumT_sides (l : List Lt) : sumT (sidesOf l) = csize l := by
  induction l with
  | nil => rfl
  | cons x r ih =>
    have e : sidesOf (x :: r) = x.l :: x.r :: sidesOf r := rfl
    have e2 : csize (x :: r) = x.l.size + x.r.size + csize r := by simp [csize]
    rw [e, e2, ← ih]
    simp [sumT]
    omega

set_option maxRecDepth 100000 in
set_option maxHeartbeats 4000000 in
theorem lsize_any (l : List Lt) (v : Value) (w : World) (hc : ClauseAt w v l) (hsh : ∀ t ∈ sidesOf l, Short t) :
    Calls Tryz.prog 43 #[v] w fun e w' => e = .returned (.int .i64 (wrap64 (csize l))) ∧ Below w.heap.size w w' := by
  refine (callsIn_wide (n := 9)).1 ?_
  obtain ⟨a, c, rfl⟩ := hc.slice
  obtain ⟨W0, hW0⟩ : ∃ W0, (w.alloc (.cells #[.int .i64 0] 3)).alloc (.cells #[.slice a l.length c] 24) = W0 := ⟨_, rfl⟩
  have hsz : W0.heap.size = w.heap.size + 2 := by rw [← hW0]; simp
  have hbel : Below w.heap.size w W0 := by rw [← hW0]; exact below_box2 w _ _
  have hB0 : Boxed W0 w.heap.size 3 (.int .i64 0) := by
    have := (Boxed.new w 3 (.int .i64 0)).alloc (.cells #[.slice a l.length c] 24)
    rw [← hW0]
    exact this
  have hB1 : W0.cell? ⟨w.heap.size + 1, 0, none⟩ = some (.slice a l.length c) := by
    have := (MapKept.heap_alloc (w.alloc (.cells #[.int .i64 0] 3)) (.cells #[.slice a l.length c] 24)).1
    rw [World.size_alloc] at this
    rw [← hW0]
    simp only [World.cell?]
    rw [this]
    rfl
  have hR : Hid (wrap64 (sumT (sidesOf l)) = wrap64 (csize l)) := by show _ = _; rw [sumT_sides]
  refine callsIn_of_wp_marks Tryz.func43 rfl trivial ?_ rfl
  simp only [Tryz.ntmps43, List.size_toArray, List.length_cons, List.length_nil, Nat.reduceAdd, Nat.reduceSub, Array.replicate_succ, Array.replicate_zero, List.push_toArray, List.append_toArray, List.nil_append, List.cons_append]
  gi_wp2_with (refine ⟨trivial, ?_⟩; gi_at_call 42; refine (callsIn_wide.2 (terms_any _ _ _ _)).mono ?_; rintro e w' ⟨rfl, rfl⟩)
  try simp only [World.size_alloc]
  try rw [hW0]
  clear hW0
  refine range_t (w0 := w) (all := sidesOf l) (gf := 65) (lb := #[.pointer (some ⟨w.heap.size + 1, 0, none⟩)]) 9 rfl (enters_of Tryz.func65 (by kernel_rfl) rfl) rfl
    (fun W hW => terms1_any w (w.heap.size + 1) l _ W (hbel.trans (hW.mono (by omega))) (kc hW (by omega) hB1) hc)
    (InvT w w.heap.size 3 (fun pre => .int .i64 (wrap64 (sumT pre)))) (fun _ _ _ => False) (InvT.abide _ _ _ _) (fun _ _ _ _ _ _ h => h.elim)
    ⟨by simpa [wrap64, sumT] using hB0, by simp, by simp, hbel⟩ (by omega) (fun _ _ _ h r hr => (h.low r hr).2)
    (fun p sl a' W => ∃ Bx, W.heap[Bx]? = some (.cells [Value.int .i64 p.v, .string p.fn, sl].toArray 28 (0, 0)) ∧ a' = { tmps := #[.slice a l.length c, undef, .int .i64 0, .pointer (some ⟨w.heap.size, 0, none⟩), .pointer (some ⟨Bx, 0, none⟩), .slice a l.length c, .func (.func 65) #[] #[.pointer (some ⟨w.heap.size + 1, 0, none⟩)], tval p sl, undef, undef, undef, undef, undef], defers := [] })
    ?hax ?assign ?body ?done ?stop
  case hax =>
    rintro p sl a' W l r o ⟨Bx, hbx, rfl⟩ hl
    refine ⟨Bx, (World.putObj_heap_other ?_).trans hbx, rfl⟩
    rintro rfl
    rw [hbx] at hl
    cases hl
  case assign =>
    rintro lx p sl W K hsl hK
    obtain ⟨sa, sc, rfl, _, _⟩ := hsl.slice
    gi_wp2
    refine hK _ _ (below_box W _) ⟨W.heap.size, (MapKept.heap_alloc W _).1, ?_⟩
    simp
  case body =>
    rintro lx E pre p sl a' W hi hl hw hsl ⟨rest, hrest⟩ ⟨Bx, hbx, rfl⟩
    have hps : Short p := hsh p (by rw [← hrest]; simp)
    have haw := ArgsAt.keep hw (Nat.le_refl _) hsl
    have hdr : Below W.heap.size W W.drew := (Below.refl _ W).drew
    have hcl := tsize_any p sl W.drew (ArgsAt.keep hdr (Nat.le_refl _) haw) hps
    have hcell := hi.box.cell
    have x0 : W.cell? ⟨Bx, 0, none⟩ = some (.int .i64 p.v) := by rw [cell_of_row _ _ _ _ 28 (0, 0) hbx]; rfl
    have x1 : W.cell? ⟨Bx, 1, none⟩ = some (.string p.fn) := by rw [cell_of_row _ _ _ _ 28 (0, 0) hbx]; rfl
    have x2 : W.cell? ⟨Bx, 2, none⟩ = some sl := by rw [cell_of_row _ _ _ _ 28 (0, 0) hbx]; rfl
    have fin : ∀ w1, Below W.drew.heap.size W.drew w1 → (w1.cell? ⟨w.heap.size, 0, none⟩ = some (.int .i64 (wrap64 (sumT pre))) ∧ w1.frozen? ⟨w.heap.size, 0, none⟩ = false) ∧ Kept w.heap.size E W (w1.setCell ⟨w.heap.size, 0, none⟩ (.int .i64 (wrap64 (wrap64 (sumT pre) + wrap64 p.size)))) ∧ InvT w w.heap.size 3 (fun pre => .int .i64 (wrap64 (sumT pre))) E (pre ++ [p]) (w1.setCell ⟨w.heap.size, 0, none⟩ (.int .i64 (wrap64 (wrap64 (sumT pre) + wrap64 p.size)))) := by
      intro w1 hb1
      obtain ⟨k1, h1⟩ := hi.grow (hdr.trans hb1)
      obtain ⟨k2, h2⟩ := h1.store (Nat.le_refl _) (fun pre => .int .i64 (wrap64 (sumT pre))) (pre ++ [p])
      rw [sumT_snoc]
      exact ⟨⟨h1.box.cell, h1.box.frozen⟩, k1.trans k2, h2⟩
    have HFN : Hid (∀ w1, Below W.drew.heap.size W.drew w1 → (w1.cell? ⟨w.heap.size, 0, none⟩ = some (.int .i64 (wrap64 (sumT pre))) ∧ w1.frozen? ⟨w.heap.size, 0, none⟩ = false) ∧ Kept w.heap.size E W (w1.setCell ⟨w.heap.size, 0, none⟩ (.int .i64 (wrap64 (wrap64 (sumT pre) + wrap64 p.size)))) ∧ InvT w w.heap.size 3 (fun pre => .int .i64 (wrap64 (sumT pre))) E (pre ++ [p]) (w1.setCell ⟨w.heap.size, 0, none⟩ (.int .i64 (wrap64 (wrap64 (sumT pre) + wrap64 p.size))))) := fin
    obtain ⟨sa, sc, rfl, _, _⟩ := hsl.slice
    clear fin hi haw hw hrest hps hbx
    gi_wp2
    refine wpIn_region_any (by kernel_rfl) ?_
    try (change wpAnyIn _ _ _ _ _ _ _ _ _ (World.drew _))
    refine wpAnyIn_ready (rs := [0, 1]) (by kernel_rfl) (by simp) ?_
    refine AllReadyIn.cons rfl (fun K hK => ?_) ?_
    · go_simp
      refine hK _ _ ?_
      clear hK K
      refine wpAnyIn_ready (rs := [1]) (by kernel_rfl) (by simp) ?_
      refine AllReadyIn.cons rfl (fun K hK => ?_) AllReadyIn.nil
      go_simp
      refine hK _ _ ?_
      clear hK K
      refine wpAnyIn_ready (rs := [2]) (by kernel_rfl) (by simp) ?_
      refine AllReadyIn.cons rfl (fun K hK => ?_) AllReadyIn.nil
      go_simp
      refine ⟨trivial, (CallsIn.inRound lx (callsIn_wide.2 hcl)).mono ?_⟩
      rintro e w1 ⟨rfl, hb1⟩
      obtain ⟨⟨f1, f2⟩, kk, ii⟩ := HFN.out w1 hb1
      refine hK _ _ ?_
      clear hK K
      refine wpAnyIn_ready (rs := [3]) (by kernel_rfl) (by simp) ?_
      refine AllReadyIn.cons rfl (fun K hK => ?_) AllReadyIn.nil
      go_simp
      refine hK _ _ ?_
      clear hK K
      refine wpAnyIn_ready (rs := [4]) (by kernel_rfl) (by simp) ?_
      refine AllReadyIn.cons rfl (fun K hK => ?_) AllReadyIn.nil
      go_simp
      refine hK _ _ ?_
      clear hK K
      refine wpAnyIn_done (by kernel_rfl) ?_ _
      rw [wrapK]
      exact ⟨kk, ii⟩
    refine AllReadyIn.cons rfl (fun K hK => ?_) AllReadyIn.nil
    go_simp
    refine hK _ _ ?_
    clear hK K
    refine wpAnyIn_ready (rs := [0, 2]) (by kernel_rfl) (by simp) ?_
    refine AllReadyIn.cons rfl (fun K hK => ?_) ?_
    · go_simp
      refine hK _ _ ?_
      clear hK K
      refine wpAnyIn_ready (rs := [2]) (by kernel_rfl) (by simp) ?_
      refine AllReadyIn.cons rfl (fun K hK => ?_) AllReadyIn.nil
      go_simp
      refine ⟨trivial, (CallsIn.inRound lx (callsIn_wide.2 hcl)).mono ?_⟩
      rintro e w1 ⟨rfl, hb1⟩
      obtain ⟨⟨f1, f2⟩, kk, ii⟩ := HFN.out w1 hb1
      refine hK _ _ ?_
      clear hK K
      refine wpAnyIn_ready (rs := [3]) (by kernel_rfl) (by simp) ?_
      refine AllReadyIn.cons rfl (fun K hK => ?_) AllReadyIn.nil
      go_simp
      refine hK _ _ ?_
      clear hK K
      refine wpAnyIn_ready (rs := [4]) (by kernel_rfl) (by simp) ?_
      refine AllReadyIn.cons rfl (fun K hK => ?_) AllReadyIn.nil
      go_simp
      refine hK _ _ ?_
      clear hK K
      refine wpAnyIn_done (by kernel_rfl) ?_ _
      rw [wrapK]
      exact ⟨kk, ii⟩
    refine AllReadyIn.cons rfl (fun K hK => ?_) AllReadyIn.nil
    go_simp
    refine ⟨trivial, (CallsIn.inRound lx (callsIn_wide.2 hcl)).mono ?_⟩
    rintro e w1 ⟨rfl, hb1⟩
    obtain ⟨⟨f1, f2⟩, kk, ii⟩ := HFN.out w1 hb1
    refine hK _ _ ?_
    clear hK K
    refine wpAnyIn_ready (rs := [0]) (by kernel_rfl) (by simp) ?_
    refine AllReadyIn.cons rfl (fun K hK => ?_) AllReadyIn.nil
    go_simp
    refine hK _ _ ?_
    clear hK K
    refine wpAnyIn_ready (rs := [3]) (by kernel_rfl) (by simp) ?_
    refine AllReadyIn.cons rfl (fun K hK => ?_) AllReadyIn.nil
    go_simp
    refine hK _ _ ?_
    clear hK K
    refine wpAnyIn_ready (rs := [4]) (by kernel_rfl) (by simp) ?_
    refine AllReadyIn.cons rfl (fun K hK => ?_) AllReadyIn.nil
    go_simp
    refine hK _ _ ?_
    clear hK K
    refine wpAnyIn_done (by kernel_rfl) ?_ _
    rw [wrapK]
    exact ⟨kk, ii⟩
  case done =>
    rintro D E W hD hi hDE hK
    have hcd := hi.box.cell
    gi_wp2
    refine ⟨by simp, .inl ⟨_, _, rfl, run_takeDeferred hK, ?_⟩⟩
    refine ⟨_, results_tmp rfl _ _ _, ?_, hi.bel.trans ⟨rfl, rfl, rfl, by simp, fun k hk => World.putObj_heap_other (by omega)⟩⟩
    show Ending.returned (Value.int .i64 (wrap64 (sumT (sidesOf l)))) = _
    exact ret_i64 hR
  case stop =>
    rintro D E pre W _ h
    exact h.elim

end Go.Proofs.YtgnjgpplelakkaaGreat

/-
  lits.Right.
-/
namespace Go.Proofs.YtgnjgpplelakkaaGreat
open Go.RowKit Go.Shelf

attribute [local go_sem] Oper.semAt_some

theorem fe_app {pre : List T} (h : ∀ t ∈ pre, t.rightW = 0) (p : T) (rest : List T) (hp : p.rightW ≠ 0) : fe (pre ++ p :: rest) = p.rightW := by
  induction pre with
  | nil => simp [fe, hp]
  | cons x r ih =>
    have hx := h x (by simp)
    simp only [List.cons_append, fe, hx, if_true]
    exact ih (fun t ht => h t (by simp [ht]))

set_option maxRecDepth 100000 in
set_option maxHeartbeats 4000000 in
theorem lright_any (l : List Lt) (v : Value) (w : World) (hc : ClauseAt w v l) (hsh : ∀ t ∈ sidesOf l, Short t) :
    Calls Tryz.prog 19 #[v] w fun e w' => e = .returned (.int .i64 (crightW l)) ∧ Below w.heap.size w w' := by
  have hlen := hc.len
  by_cases h60 : 60 < l.length
  · have HE : Hid (crightW l = 3) := by show _ = _; unfold crightW; rw [if_pos h60]
    obtain ⟨a, c, rfl⟩ := hc.slice
    have hB0 := Boxed.new w 33 (.int .i64 0)
    have z0 := hB0.cell
    have y0 := hB0.frozen
    have HB : Hid (Below w.heap.size w ((w.alloc (.cells #[.int .i64 0] 33)).setCell ⟨w.heap.size, 0, none⟩ (.int .i64 3))) := (below_box w _).setCell (p := ⟨w.heap.size, 0, none⟩) (Nat.le_refl _) _
    have hz3 := (hB0.set (.int .i64 3)).cell
    clear hc hsh hB0
    go_enter Tryz.func19, Tryz.ntmps19
    go_wp2
    all_goals first | (exfalso; omega) | skip
    refine bodyPost_ret (v := .int .i64 3) (by simp [results, Tryz.results19, go_sem, *]) rfl ⟨by rw [HE.out], ?_⟩
    first | exact HB.out | exact below_box w _
  · have HE : Hid (crightW l = if fe (sidesOf l) ≠ 0 then fe (sidesOf l) else if 4000 < wrap64 (csize l) then 3 else 0) := by show _ = _; unfold crightW; rw [if_neg h60]
    refine (callsIn_wide (n := 9)).1 ?_
    obtain ⟨a, c, rfl⟩ := hc.slice
    obtain ⟨W0, hW0⟩ : ∃ W0, (w.alloc (.cells #[.int .i64 0] 33)).alloc (.cells #[.slice a l.length c] 24) = W0 := ⟨_, rfl⟩
    have hsz : W0.heap.size = w.heap.size + 2 := by rw [← hW0]; simp
    have hbel : Below w.heap.size w W0 := by rw [← hW0]; exact below_box2 w _ _
    have hB0 : Boxed W0 w.heap.size 33 (.int .i64 0) := by
      have := (Boxed.new w 33 (.int .i64 0)).alloc (.cells #[.slice a l.length c] 24)
      rw [← hW0]
      exact this
    have hB1 : W0.cell? ⟨w.heap.size + 1, 0, none⟩ = some (.slice a l.length c) := by
      have := (MapKept.heap_alloc (w.alloc (.cells #[.int .i64 0] 33)) (.cells #[.slice a l.length c] 24)).1
      rw [World.size_alloc] at this
      rw [← hW0]
      simp only [World.cell?]
      rw [this]
      rfl
    refine callsIn_of_wp_marks Tryz.func19 rfl trivial ?_ rfl
    simp only [Tryz.ntmps19, List.size_toArray, List.length_cons, List.length_nil, Nat.reduceAdd, Nat.reduceSub, Array.replicate_succ, Array.replicate_zero, List.push_toArray, List.append_toArray, List.nil_append, List.cons_append]
    have hle : ¬ ((l.length : Int) > 60) := by omega
    gi_wp2_with (refine ⟨trivial, ?_⟩; gi_at_call 42; refine (callsIn_wide.2 (terms_any _ _ _ _)).mono ?_; rintro e w' ⟨rfl, rfl⟩)
    all_goals first | (exfalso; omega) | skip
    try simp only [World.size_alloc]
    try rw [hW0]
    clear hW0
    refine range_t (w0 := w) (all := sidesOf l) (gf := 65) (lb := #[.pointer (some ⟨w.heap.size + 1, 0, none⟩)]) 9 rfl (enters_of Tryz.func65 (by kernel_rfl) rfl) rfl
      (fun W hW => terms1_any w (w.heap.size + 1) l _ W (hbel.trans (hW.mono (by omega))) (kc hW (by omega) hB1) hc)
      (fun E pre W => InvT w w.heap.size 33 (fun _ => .int .i64 0) E pre W ∧ ∀ t ∈ pre, t.rightW = 0) (fun E pre W => InvT w w.heap.size 33 (fun _ => .int .i64 (fe (sidesOf l))) E pre W ∧ fe (sidesOf l) ≠ 0) ((InvT.abide _ _ _ _).and (Abide.pure _)) ((InvT.abide _ _ _ _).and (Abide.pure _))
      ⟨⟨hB0, by simp, by simp, hbel⟩, by simp⟩ (by omega) (fun _ _ _ h r hr => (h.1.low r hr).2)
      (fun p sl a' W => ∃ Bx, W.heap[Bx]? = some (.cells [Value.int .i64 p.v, .string p.fn, sl].toArray 28 (0, 0)) ∧ a' = { tmps := #[.slice a l.length c, undef, .pointer (some ⟨w.heap.size, 0, none⟩), .pointer (some ⟨Bx, 0, none⟩), undef, .slice a l.length c, .int .i64 l.length, .bool false, .slice a l.length c, .func (.func 65) #[] #[.pointer (some ⟨w.heap.size + 1, 0, none⟩)], tval p sl, undef, undef, undef, undef, undef, undef, undef, undef], defers := [] })
      ?hax ?assign ?body ?done ?stop
    case hax =>
      rintro p sl a' W l r o ⟨Bx, hbx, rfl⟩ hl
      refine ⟨Bx, (World.putObj_heap_other ?_).trans hbx, rfl⟩
      rintro rfl
      rw [hbx] at hl
      cases hl
    case assign =>
      rintro lx p sl W K hsl hK
      obtain ⟨sa, sc, rfl, _, _⟩ := hsl.slice
      gi_wp2
      refine hK _ _ (below_box W _) ⟨W.heap.size, (MapKept.heap_alloc W _).1, ?_⟩
      simp
    case body =>
      rintro lx E pre p sl a' W ⟨hi, hall⟩ hl hw hsl ⟨rest, hrest⟩ ⟨Bx, hbx, rfl⟩
      have hps : Short p := hsh p (by rw [← hrest]; simp)
      have haw := ArgsAt.keep hw (Nat.le_refl _) hsl
      have hcl := tright_any p sl W haw hps
      have x0 : W.cell? ⟨Bx, 0, none⟩ = some (.int .i64 p.v) := by rw [cell_of_row _ _ _ _ 28 (0, 0) hbx]; rfl
      have x1 : W.cell? ⟨Bx, 1, none⟩ = some (.string p.fn) := by rw [cell_of_row _ _ _ _ 28 (0, 0) hbx]; rfl
      have x2 : W.cell? ⟨Bx, 2, none⟩ = some sl := by rw [cell_of_row _ _ _ _ 28 (0, 0) hbx]; rfl
      obtain ⟨sa, sc, rfl, _, _⟩ := hsl.slice
      have HI : Hid (InvT w w.heap.size 33 (fun _ => .int .i64 0) E pre W) := hi
      by_cases hp : p.rightW = 0
      · have hpb : (p.rightW != 0) = false := by rw [bne_eq_false_iff_eq]; exact hp
        have HA : Hid (∀ t ∈ pre ++ [p], t.rightW = 0) := fun t ht => by
          rcases List.mem_append.1 ht with h | h
          · exact hall t h
          · simp at h; rw [h]; exact hp
        clear hp hi hall hw haw hrest hps hbx hsh hc hB0 hB1 hbel HE
        gi_wp2_with (refine ⟨trivial, ?_⟩; gi_at_call 41; refine (CallsIn.inRound lx (callsIn_wide.2 hcl)).mono ?_; rintro e w1 ⟨rfl, hb1⟩)
        obtain ⟨k1, h1⟩ := HI.out.grow hb1
        exact ⟨k1, ⟨h1.box, h1.out, h1.low, h1.bel⟩, HA.out⟩
      · have hpb : (p.rightW != 0) = true := by rw [bne_iff_ne]; exact hp
        have HF : Hid (fe (sidesOf l) = p.rightW ∧ p.rightW ≠ 0) := ⟨by rw [← hrest]; exact fe_app hall p rest hp, hp⟩
        clear hp hi hall hw haw hrest hps hbx hsh hc hB0 hB1 hbel HE
        gi_wp2_with (refine ⟨trivial, ?_⟩; gi_at_call 41; refine (CallsIn.inRound lx (callsIn_wide.2 hcl)).mono ?_; rintro e w1 ⟨rfl, hb1⟩; obtain ⟨k1, h1⟩ := HI.out.grow hb1; have c1 := h1.box.cell; have f1 := h1.box.frozen)
        obtain ⟨k2, h2⟩ := h1.store (Nat.le_refl _) (fun _ => .int .i64 p.rightW) (pre ++ [p])
        rw [HF.out.1]
        exact ⟨k1.trans k2, h2, HF.out.2⟩
    case done =>
      rintro D E W hD ⟨hi, hall⟩ hDE hK
      have h0 : fe (sidesOf l) = 0 := fe_zero.2 hall
      have HG : Hid (crightW l = if 4000 < wrap64 (csize l) then 3 else 0) := by
        show _ = _
        rw [HE.out, h0, if_neg (by simp)]
      have hls := lsize_any l (.slice a l.length c) W (hc.keep hi.bel) hsh
      have fin : Hid (∀ w1, Below W.heap.size W w1 → ∀ r : Int, (w1.cell? ⟨w.heap.size, 0, none⟩ = some (.int .i64 0) ∧ w1.frozen? ⟨w.heap.size, 0, none⟩ = false) ∧ (w1.setCell ⟨w.heap.size, 0, none⟩ (.int .i64 r)).heap[D]? = some (.deferred (some [])) ∧ ((w1.setCell ⟨w.heap.size, 0, none⟩ (.int .i64 r)).putObj D (.deferred none)).cell? ⟨w.heap.size, 0, none⟩ = some (.int .i64 r) ∧ Below w.heap.size w ((w1.setCell ⟨w.heap.size, 0, none⟩ (.int .i64 r)).putObj D (.deferred none))) := fun w1 hb1 r => by
        obtain ⟨k1, h1⟩ := hi.grow hb1
        obtain ⟨k2, h2⟩ := h1.store (Nat.le_refl _) (fun _ => .int .i64 r) []
        have hne : D ≠ w.heap.size := by omega
        have hb2 : Boxed ((w1.setCell ⟨w.heap.size, 0, none⟩ (.int .i64 r)).putObj D (.deferred none)) w.heap.size 33 (.int .i64 r) := (World.putObj_heap_other (by omega)).trans h2.box
        exact ⟨⟨h1.box.cell, h1.box.frozen⟩, ((k1.trans k2).mine D hDE).trans hK, hb2.cell, h2.bel.trans ⟨rfl, rfl, rfl, by simp, fun k hk => World.putObj_heap_other (by omega)⟩⟩
      clear hi hall hDE hK h0 HE hsh hc hB0 hB1 hbel
      generalize wrap64 (csize l) = z at *
      by_cases hz : 4000 < z
      · have Hr : Hid (crightW l = 3) := by show _ = _; rw [HG.out, if_pos hz]
        gi_wp2_with (refine ⟨trivial, ?_⟩; gi_at_call 43; refine (callsIn_wide.2 hls).mono ?_; rintro e w1 ⟨rfl, hb1⟩; obtain ⟨⟨c1, f1⟩, g1, g2, g3⟩ := fin.out w1 hb1 3)
        refine ⟨by simp, .inl ⟨_, _, rfl, run_takeDeferred g1, ?_⟩⟩
        refine ⟨_, by simp [results, Tryz.results19, go_sem, g2]; rfl, ?_, g3⟩
        exact ret_i64 Hr.out.symm
      · have Hr : Hid (crightW l = 0) := by show _ = _; rw [HG.out, if_neg hz]
        gi_wp2_with (refine ⟨trivial, ?_⟩; gi_at_call 43; refine (callsIn_wide.2 hls).mono ?_; rintro e w1 ⟨rfl, hb1⟩; obtain ⟨⟨c1, f1⟩, g1, g2, g3⟩ := fin.out w1 hb1 0)
        refine ⟨by simp, .inl ⟨_, _, rfl, run_takeDeferred g1, ?_⟩⟩
        refine ⟨_, by simp [results, Tryz.results19, go_sem, g2]; rfl, ?_, g3⟩
        exact ret_i64 Hr.out.symm
    case stop =>
      rintro D E pre W hD ⟨hi, hne⟩ hDE hK
      have Hr : Hid (crightW l = fe (sidesOf l)) := by show _ = _; rw [HE.out, if_pos hne]
      have hb2 : Boxed (W.putObj D (.deferred none)) w.heap.size 33 (.int .i64 (fe (sidesOf l))) := (World.putObj_heap_other (by omega)).trans hi.box
      have g2 := hb2.cell
      have g3 : Below w.heap.size w (W.putObj D (.deferred none)) := hi.bel.trans ⟨rfl, rfl, rfl, by simp, fun k hk => World.putObj_heap_other (by omega)⟩
      gi_wp2
      refine ⟨by simp, .inl ⟨_, _, rfl, run_takeDeferred hK, ?_⟩⟩
      refine ⟨_, by simp [results, Tryz.results19, go_sem, g2]; rfl, ?_, g3⟩
      exact ret_i64 Hr.out.symm

end Go.Proofs.YtgnjgpplelakkaaGreat
