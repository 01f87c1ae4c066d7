/-
  The document's Shift at a clause.
-/
import Derived.Test.YtgnjgpplelakkaaGreatWD
import Derived.Test.YtgnjgpplelakkaaGreatNL
import Derived.Deep.RegionHeld3
namespace Go.Proofs.YtgnjgpplelakkaaGreat
open Go.RowKit Go.Maps

theorem wp_app_run (w : World) {o : Oper} {a : Act} {K : Act → World → Prop} {Q : Exit → Act → World → Prop} (s x : Operand) (t : TypeId)
    (ho : o.op = .call { callee := .builtin .append, args := #[s, x], argTypes := #[t, t] }) (v u : Value) (hs : a.eval s = v) (hx : a.eval x = u) (v' : Value) (w' : World) (hr : (Builtin.append_ #[t, t] o.type #[v, u]).run Tryz.prog w = .ok v' w') (h : K (a.put o.dst v') w') :
    Oper.wp Tryz.prog o a w K Q := by
  unfold Oper.wp execOp
  simp only [ho, resolve, invoke, builtin, Sem.run_bind, Sem.run_pure, Result.andThen_ok, List.map_toArray, List.map_cons, List.map_nil, hs, hx, hr]
  exact h

theorem take_mk {P : Program} {md : Region.Mode} {ops : Array Oper} {Q : Exit → Act → World → Prop} {S : World → Prop} (i : Nat) (v : Value) {d : Option Tmp} {op : Op} {ty : TypeId} {pos : String} {aft} {gd} {fuel : Nat} {listed : Array Bool} {a : Act} {w : World} (hi : ops[i]? = some ⟨d, op, ty, pos, aft, gd⟩)
    (hs : Region.noSelect ops = true) (hf : Region.free md ops listed i = true) (hr : (Region.ready md ops listed).contains i = true)
    (hQ : ∀ c a w, Q (.panic c) (a.put d v) w → Q (.panic c) a w) (hy : YieldsIf P ops S ⟨d, op, ty, pos, aft, gd⟩ v a) (hS : S w)
    (h : wpAnyH P md ops Q S fuel (listed.setIfInBounds i true) (a.put d v) w) : wpAnyH P md ops Q S (fuel + 1) listed a w :=
  wpAnyH_take hi hs hf hr hQ hy hS h

theorem grown_below {n : Nat} {w w' : World} {r : Option Nat} (h : w.grownBy w' r) (hn : n ≤ w.heap.size) (hr : ∀ g, r = some g → n ≤ g) : Below n w w' :=
  ⟨h.os, h.tape, h.output, h.size, fun k hk => h.block k (by omega) (fun e => by have := hr k e.symm; omega)⟩

/-- What the document's Shift tells of a right term, both ways in one. -/
def StQ (by_ : Int) (t : T) (W0 w : World) (e : Ending) (W' : World) : Prop :=
  ∃ q a n c, e = .returned (.tuple #[tval q (.slice a n c), .int .i64 (erS by_ t)]) ∧ (erS by_ t = 0 → q = t.app (shf by_) ∧ n = (t.app (shf by_)).args.length ∧ ArgsP (fun b => b < W0.heap.size ∨ w.heap.size ≤ b) W' (.slice a n c) (t.app (shf by_)).args) ∧ Below w.heap.size w W'

theorem stQ_of {by_ : Int} {t : T} {W0 w : World} {e : Ending} {W' : World} (h : StP by_ t W0 w e W') : StQ by_ t W0 w e W' := by
  obtain ⟨h1, h2, h3⟩ := h
  cases hf : fineT by_ t
  · refine ⟨zt, none, 0, 0, ?_, fun h => ?_, h3⟩
    · rw [h2 hf]; unfold erS; rw [hf]; rfl
    · unfold erS at h; rw [hf] at h; cases h
  · obtain ⟨a, c, he, hA⟩ := h1 hf
    refine ⟨_, a, _, c, ?_, fun _ => ⟨rfl, rfl, hA⟩, h3⟩
    rw [he]; unfold erS; rw [hf]; rfl

/-- What the region's loads rest on. -/
structure ShS (w Wd : World) (b1 b2 b3 : Nat) (X : World) : Prop where
  h1 : X.heap[b1]? = Wd.heap[b1]?
  h2 : X.heap[b2]? = Wd.heap[b2]?
  h3 : X.heap[b3]? = Wd.heap[b3]?
  l1 : b1 < X.heap.size ∧ b2 < X.heap.size ∧ b3 < X.heap.size
  bel : Below w.heap.size w X

theorem ShS.al {w Wd : World} {b1 b2 b3 : Nat} {X : World} (h : ShS w Wd b1 b2 b3 X) (o : Obj) : ShS w Wd b1 b2 b3 (X.alloc o) :=
  ⟨(Below.heap_alloc _ _ _ h.l1.1).trans h.h1, (Below.heap_alloc _ _ _ h.l1.2.1).trans h.h2, (Below.heap_alloc _ _ _ h.l1.2.2).trans h.h3, by have := h.l1; simp; omega, h.bel.trans ((below_box X o).mono h.bel.size)⟩

theorem ShS.gr {w Wd : World} {b1 b2 b3 : Nat} {X X' : World} (h : ShS w Wd b1 b2 b3 X) {r : Option Nat} (hg : X.grownBy X' r) (hr : ∀ g, r = some g → g ≠ b1 ∧ g ≠ b2 ∧ g ≠ b3 ∧ w.heap.size ≤ g) : ShS w Wd b1 b2 b3 X' :=
  ⟨(hg.block _ h.l1.1 (fun e => (hr _ e.symm).1 rfl)).trans h.h1, (hg.block _ h.l1.2.1 (fun e => (hr _ e.symm).2.1 rfl)).trans h.h2, (hg.block _ h.l1.2.2 (fun e => (hr _ e.symm).2.2.1 rfl)).trans h.h3, by have := h.l1; have := hg.size; omega, h.bel.trans (grown_below hg h.bel.size (fun g e => (hr g e).2.2.2))⟩

theorem cell_blk {X Y : World} {b o : Nat} {v : Value} (h : X.heap[b]? = Y.heap[b]?) (c : Y.cell? ⟨b, o, none⟩ = some v) : X.cell? ⟨b, o, none⟩ = some v := by
  rw [← c]
  simp [World.cell?, h]

/-- Are all sides fine? -/
def fineC (by_ : Int) (l : List Lt) : Bool := l.all fun x => fineT by_ x.l && fineT by_ x.r

theorem erS_zero {by_ : Int} {t : T} : erS by_ t = 0 ↔ fineT by_ t = true := by
  unfold erS
  cases fineT by_ t <;> simp

/-- The literals so far are fine. -/
def FineC (by_ : Int) (l : List Lt) (i : Nat) : Prop := fineC by_ (l.take i) = true

theorem fineC_succ {by_ : Int} {l : List Lt} {i : Nat} (h : i < l.length) (h0 : FineC by_ l i) (h1 : fineT by_ l[i].l = true) (h2 : fineT by_ l[i].r = true) : FineC by_ l (i + 1) := by
  unfold FineC fineC at *
  rw [List.take_succ_eq_append_getElem h, List.all_append, h0]
  simp [h1, h2]

theorem fineC_no {by_ : Int} {l : List Lt} {i : Nat} (h : i < l.length) (h1 : ¬ (fineT by_ l[i].l = true ∧ fineT by_ l[i].r = true)) : fineC by_ l = false := by
  unfold fineC
  rw [List.all_eq_false]
  exact ⟨_, List.getElem_mem h, by simpa using h1⟩

/-- What the document's Shift tells of a right clause. -/
def CsP (by_ : Int) (l : List Lt) (w : World) (e : Ending) (W' : World) : Prop :=
  (fineC by_ l = true → ∃ v, e = .returned (.tuple #[v, .int .i64 0]) ∧ ClauseAt W' v (l.map (shL by_))) ∧ (fineC by_ l = false → e = .returned (.tuple #[.slice none 0 0, .int .i64 1])) ∧ Below w.heap.size w W'

set_option maxRecDepth 100000 in
set_option maxHeartbeats 4000000 in
theorem rcshift_any (l : List Lt) (by_ : Int) (hby : -9223372036854775808 ≤ by_ ∧ by_ ≤ 9223372036854775807) (v : Value) (w : World) (hl : ClauseAt w v l) (hlen : l.length ≤ 1048576) (hr : crightW l = 0) (hside : ∀ x ∈ l, (x.l.shape = true ∧ x.l.rightW = 0) ∧ (x.r.shape = true ∧ x.r.rightW = 0)) :
    Calls Tryz.prog 10 #[v, .int .i64 by_] w (CsP by_ l w) := by
  have hrt := rcright_any l v w hl
  rw [hr] at hrt
  obtain ⟨a, c, rfl⟩ := hl.slice
  have HL : Hid (ClauseAt w (.slice a l.length c) l) := hl
  have HSD : Hid (∀ x ∈ l, (x.l.shape = true ∧ x.l.rightW = 0) ∧ (x.r.shape = true ∧ x.r.rightW = 0)) := hside
  obtain ⟨i0, hi0, hz0, hz1, hz2⟩ := info_parts Tryz.info40
  clear hl hside hr
  go_enter Tryz.func10, Tryz.ntmps10
  go_wp2_with fail
  refine hrt.mono ?_
  rintro e W1 ⟨rfl, hb1⟩
  have HB1 : Hid (Below w.heap.size w W1) := hb1
  clear hrt hb1
  go_wp2
  go_loopw [6, 7] (fun vo vi wr => ∃ i : Nat, vi = .int .i64 i ∧ i ≤ l.length ∧ Hid (FineC by_ l i) ∧ ∃ ps, PuI w ((l.take i).map (shL by_)) vo ps wr) (fun _ vi _ => l.length - (intOf vi).toNat)
  case atStart => exact ⟨0, rfl, Nat.zero_le _, rfl, [], rfl, fun p hp => absurd hp (by simp), World.ownsRow_nil _ _ _ _, HB1.out⟩
  case round =>
    obtain ⟨i, rfl, hi, hfc, ps, hI⟩ := hrel
    obtain ⟨pa, pc, hvo⟩ := row_slice hI.row
    subst hvo
    by_cases hlt : i < l.length
    · obtain ⟨bb, o, sl, sr, e1, hX0⟩ := HL.out.nth hlt
      cases e1
      obtain ⟨⟨hs1, hr1⟩, hs2, hr2⟩ := HSD.out _ (List.getElem_mem hlt)
      have HN : Hid ((l.take (i + 1)).map (shL by_) = (l.take i).map (shL by_) ++ [⟨l[i].neg, l[i].l.app (shf by_), l[i].r.app (shf by_)⟩]) := by show _ = _; rw [List.take_succ_eq_append_getElem hlt, List.map_append]; rfl
      have HFS : Hid (erS by_ l[i].l = 0 → erS by_ l[i].r = 0 → FineC by_ l (i + 1)) := fun h1 h2 => fineC_succ hlt hfc.out (erS_zero.1 h1) (erS_zero.1 h2)
      have HFN : Hid (erS by_ l[i].l ≠ 0 ∨ erS by_ l[i].r ≠ 0 → fineC by_ l = false) := fun h => fineC_no hlt fun ⟨h1, h2⟩ => by
        rcases h with h | h
        · exact h (erS_zero.2 h1)
        · exact h (erS_zero.2 h2)
      obtain ⟨x, hx⟩ : ∃ x, l[i] = x := ⟨_, rfl⟩
      simp only [hx] at hX0 HN hs1 hs2 hr1 hr2 HFS HFN
      obtain ⟨n, xl, xr⟩ := x
      simp only at hX0 HN hs1 hs2 hr1 hr2 HFS HFN
      have hpl : ps.length ≤ i := by
        have h1 := congrArg List.length hI.args
        rw [List.length_map, List.length_map, List.length_take] at h1
        omega
      have HV : Hid (∀ k, (Value.slice pa ps.length pc).ownBlock = some k → w.heap.size ≤ k ∧ k < wr.heap.size) := fun k hk => hI.row.lt k hk
      have HI : Hid (PuI w ((l.take i).map (shL by_)) (.slice pa ps.length pc) ps wr) := hI
      have hX := hX0.keep hI.bel
      have hcl := (rshift_any w by_ hby xl hr1 hs1 sl wr hI.bel hX0.al).mono (fun e W' h => stQ_of h)
      have HCR : Hid (∀ W3, Below w.heap.size w W3 → Calls Tryz.prog 29 #[tval xr sr, .int .i64 by_] W3 (StQ by_ xr w W3)) := fun W3 h3 => (rshift_any w by_ hby xr hr2 hs2 sr W3 h3 hX0.ar).mono (fun e W' h => stQ_of h)
      obtain ⟨c0, c1, c2, c3, c4, c5, c6⟩ : wr.cell? ⟨bb, o + i * 7, none⟩ = some (.bool n) ∧ wr.cell? ⟨bb, o + i * 7 + 1, none⟩ = some (.int .i64 xl.v) ∧ wr.cell? ⟨bb, o + i * 7 + 2, none⟩ = some (.string xl.fn) ∧ wr.cell? ⟨bb, o + i * 7 + 3, none⟩ = some sl ∧ wr.cell? ⟨bb, o + i * 7 + 4, none⟩ = some (.int .i64 xr.v) ∧ wr.cell? ⟨bb, o + i * 7 + 5, none⟩ = some (.string xr.fn) ∧ wr.cell? ⟨bb, o + i * 7 + 6, none⟩ = some sr := ⟨hX.c0, hX.c1, hX.c2, hX.c3, hX.c4, hX.c5, hX.c6⟩
      have hltb := hX.lt
      have hlt0 := hX0.lt
      obtain ⟨la, lc, rfl, _⟩ := hX.al.slice
      obtain ⟨ra, rc, rfl, _⟩ := hX.ar.slice
      generalize hEL : erS by_ xl = EL at *
      generalize hER : erS by_ xr = ER at *
      unfold StQ at hcl HCR
      rw [hEL] at hcl
      simp only [hER] at HCR
      generalize xl.app (shf by_) = ql at *
      generalize xr.app (shf by_) = qr at *
      have i0' : (i : Int) < (l.length : Int) := by omega
      have i1' : (0 : Int) ≤ (i : Int) := by omega
      clear hX hX0 hI hx hs1 hs2 hr1 hr2 hEL hER
      go_wp2_with fail
      refine hcl.mono ?_
      rintro _ W3 ⟨q3, a3, n3, c3', rfl, hok3, hb3⟩
      have hbx3 := below_box W3 (tbox q3 (.slice a3 n3 c3'))
      have hb33 : Below wr.heap.size wr (W3.alloc (tbox q3 (.slice a3 n3 c3'))) := hb3.trans (hbx3.mono hb3.size)
      have e0 := kc hb33 hltb c0
      have e4 := kc hb33 hltb c4
      have e5 := kc hb33 hltb c5
      have e6 := kc hb33 hltb c6
      have hcr := HCR.out _ (HI.out.bel.trans (hb33.mono HI.out.bel.size))
      have HB33 : Hid (Below wr.heap.size wr (W3.alloc (tbox q3 (.slice a3 n3 c3')))) := hb33
      have HB3 : Hid (Below wr.heap.size wr W3) := hb3
      have HO3 : Hid (EL = 0 → q3 = ql ∧ n3 = ql.args.length ∧ ArgsP (fun b => b < w.heap.size ∨ wr.heap.size ≤ b) W3 (.slice a3 n3 c3') ql.args) := hok3
      clear hcl hok3 hb33 hbx3 hb3 HCR
      go_wp2_with fail
      refine hcr.mono ?_
      rintro _ W5 ⟨q5, a4, n5, c4', rfl, hok5, hb5⟩
      have hbx5 := below_box W5 (tbox q5 (.slice a4 n5 c4'))
      have HB5 : Hid (Below (W3.alloc (tbox q3 (.slice a3 n3 c3'))).heap.size (W3.alloc (tbox q3 (.slice a3 n3 c3'))) W5) := hb5
      have HO5 : Hid (ER = 0 → q5 = qr ∧ n5 = qr.args.length ∧ ArgsP (fun b => b < w.heap.size ∨ (W3.alloc (tbox q3 (.slice a3 n3 c3'))).heap.size ≤ b) W5 (.slice a4 n5 c4') qr.args) := hok5
      have HW6 : Hid (Below wr.heap.size wr (W5.alloc (tbox q5 (.slice a4 n5 c4')))) := HB33.out.trans ((hb5.trans (hbx5.mono hb5.size)).mono HB33.out.size)
      clear hcr hok5 hb5 hbx5
      by_cases hE : EL = 0 ∧ ER = 0
      · obtain ⟨rfl, rfl⟩ := hE
        obtain ⟨rfl, rfl, hA3⟩ := HO3.out rfl
        obtain ⟨rfl, rfl, hA5⟩ := HO5.out rfl
        have HF1 : Hid (FineC by_ l (i + 1)) := HFS.out rfl rfl
        clear HFN HFS
        have hl3 : W3.heap.size < (W3.alloc (tbox q3 (.slice a3 q3.args.length c3'))).heap.size := by simp
        obtain ⟨k0, k1, k2⟩ := tbox_cells W3 q3 (.slice a3 q3.args.length c3')
        have hb55 : Below (W3.alloc (tbox q3 (.slice a3 q3.args.length c3'))).heap.size (W3.alloc (tbox q3 (.slice a3 q3.args.length c3'))) (W5.alloc (tbox q5 (.slice a4 q5.args.length c4'))) := HB5.out.trans ((below_box W5 _).mono HB5.out.size)
        have k0' := kc hb55 hl3 k0
        have k1' := kc hb55 hl3 k1
        have k2' := kc hb55 hl3 k2
        obtain ⟨m0, m1, m2⟩ := tbox_cells W5 q5 (.slice a4 q5.args.length c4')
        have f0 := kc HW6.out hltb c0
        have hA3' : ArgsP (fun x => (Value.slice pa ps.length pc).ownBlock ≠ some x) (W5.alloc (tbox q5 (.slice a4 q5.args.length c4'))) (.slice a3 q3.args.length c3') q3.args := hA3.keep (by have := HB5.out.size; simp at *; omega) (fun k hk hlt => ⟨fun e => by have h8 := HV.out k e; rcases hk with hk | hk <;> omega, ((hb55.block k (by simp; omega)).trans (Below.heap_alloc _ _ _ hlt))⟩)
        have hA5' : ArgsP (fun x => (Value.slice pa ps.length pc).ownBlock ≠ some x) (W5.alloc (tbox q5 (.slice a4 q5.args.length c4'))) (.slice a4 q5.args.length c4') q5.args := hA5.keep (by simp) (fun k hk hlt => ⟨fun e => by have h8 := HV.out k e; have h9 := HB33.out.size; rcases hk with hk | hk <;> omega, Below.heap_alloc _ _ _ hlt⟩)
        have HIx := HI.out.keep HW6.out
        have hblt : bb < (W5.alloc (tbox q5 (.slice a4 q5.args.length c4'))).heap.size := Nat.lt_of_lt_of_le hltb HW6.out.size
        have hl5 : W5.heap.size < (W5.alloc (tbox q5 (.slice a4 q5.args.length c4'))).heap.size := by simp
        have hl3' : W3.heap.size < (W5.alloc (tbox q5 (.slice a4 q5.args.length c4'))).heap.size := Nat.lt_of_lt_of_le hl3 hb55.size
        obtain ⟨B3, hB3⟩ : ∃ B, W3.heap.size = B := ⟨_, rfl⟩
        obtain ⟨B5, hB5⟩ : ∃ B, W5.heap.size = B := ⟨_, rfl⟩
        rw [hB3] at k0' k1' k2' hl3'
        rw [hB5] at m0 m1 m2 hl5
        obtain ⟨W6, hW6⟩ : ∃ W6, W5.alloc (tbox q5 (.slice a4 q5.args.length c4')) = W6 := ⟨_, rfl⟩
        rw [hW6] at k0' k1' k2' m0 m1 m2 f0 hA3' hA5' HIx hblt hl5 hl3' HW6
        have HId : Hid (PuI w ((l.take i).map (shL by_)) (.slice pa ps.length pc) ps W6.drew) := HIx.keep (Below.refl _ W6).drew
        have HS : Hid (∀ X, ShS w W6.drew bb B3 B5 X → X.cell? ⟨bb, o + i * 7, none⟩ = some (.bool n) ∧ X.cell? ⟨B3, 0, none⟩ = some (.int .i64 q3.v) ∧ X.cell? ⟨B3, 1, none⟩ = some (.string q3.fn) ∧ X.cell? ⟨B3, 2, none⟩ = some (.slice a3 q3.args.length c3') ∧ X.cell? ⟨B5, 0, none⟩ = some (.int .i64 q5.v) ∧ X.cell? ⟨B5, 1, none⟩ = some (.string q5.fn) ∧ X.cell? ⟨B5, 2, none⟩ = some (.slice a4 q5.args.length c4')) := fun X hX => ⟨cell_blk hX.h1 f0, cell_blk hX.h2 k0', cell_blk hX.h2 k1', cell_blk hX.h2 k2', cell_blk hX.h3 m0, cell_blk hX.h3 m1, cell_blk hX.h3 m2⟩
        have hS0 : ShS w W6.drew bb B3 B5 W6.drew := ⟨rfl, rfl, rfl, ⟨hblt, hl3', hl5⟩, HId.out.bel⟩
        have HIn : Hid (∀ g, (Value.slice pa ps.length pc).ownBlock = some g → g ≠ bb ∧ g ≠ B3 ∧ g ≠ B5 ∧ w.heap.size ≤ g) := fun g e => by
          have h8 := HV.out g e
          have h9 := HB3.out.size
          have h10 := HB33.out.size
          have h11 := HB5.out.size
          exact ⟨by omega, by omega, by omega, h8.1⟩
        have HAA : Hid (ArgsP (fun x => (Value.slice pa ps.length pc).ownBlock ≠ some x) W6.drew (.slice a3 q3.args.length c3') q3.args ∧ ArgsP (fun x => (Value.slice pa ps.length pc).ownBlock ≠ some x) W6.drew (.slice a4 q5.args.length c4') q5.args) := ⟨hA3'.keep (Nat.le_refl _) (fun k hk _ => ⟨hk, rfl⟩), hA5'.keep (Nat.le_refl _) (fun k hk _ => ⟨hk, rfl⟩)⟩
        clear k0 k1 k2 k0' k1' k2' m0 m1 m2 f0 hA3 hA5 hA3' hA5' HIx hblt hl5 hl3 hl3' hb55 HB5 HB3 HB33 HO3 HO5 e0 e4 e5 e6 c0 c1 c2 c3 c4 c5 c6
        go_wp2
        first | rw [hW6] | skip
        first | rw [hB3] | skip
        first | rw [hB5] | skip
        refine wp_region_held_drew (S := ShS w W6.drew bb B3 B5) (by kernel_rfl) hS0 (fun hHeld => ?_)
        generalize W6.drew = Wd at *
        refine take_mk 0 (.slice pa ps.length pc) rfl (by kernel_rfl) (by kernel_rfl) (by kernel_rfl) (fun _ _ _ h => h) (Or.inl ⟨by rfl, fun X hX => by go_simp⟩) (by assumption) ?_
        try simp only [Act.put, List.setIfInBounds_toArray, List.set_cons_zero, List.set_cons_succ]
        refine take_mk 1 (.slice (some ⟨bb, o, none⟩) l.length c) rfl (by kernel_rfl) (by kernel_rfl) (by kernel_rfl) (fun _ _ _ h => h) (Or.inl ⟨by rfl, fun X hX => by go_simp⟩) (by assumption) ?_
        try simp only [Act.put, List.setIfInBounds_toArray, List.set_cons_zero, List.set_cons_succ]
        refine take_mk 2 (.int .i64 (i : Int)) rfl (by kernel_rfl) (by kernel_rfl) (by kernel_rfl) (fun _ _ _ h => h) (Or.inl ⟨by rfl, fun X hX => by go_simp⟩) (by assumption) ?_
        try simp only [Act.put, List.setIfInBounds_toArray, List.set_cons_zero, List.set_cons_succ]
        refine take_mk 3 (.pointer (some ⟨bb, o + i * 7, none⟩)) rfl (by kernel_rfl) (by kernel_rfl) (by kernel_rfl) (fun _ _ _ h => h) (Or.inl ⟨by rfl, fun X hX => by go_simp⟩) (by assumption) ?_
        try simp only [Act.put, List.setIfInBounds_toArray, List.set_cons_zero, List.set_cons_succ]
        refine take_mk 4 (.pointer (some ⟨bb, o + i * 7, none⟩)) rfl (by kernel_rfl) (by kernel_rfl) (by kernel_rfl) (fun _ _ _ h => h) (Or.inl ⟨by rfl, fun X hX => by go_simp⟩) (by assumption) ?_
        try simp only [Act.put, List.setIfInBounds_toArray, List.set_cons_zero, List.set_cons_succ]
        refine take_mk 5 (.bool n) rfl (by kernel_rfl) (by kernel_rfl) (by kernel_rfl) (fun _ _ _ h => h) (Or.inl ⟨by rfl, fun X hX => by have := (HS.out X hX).1; go_simp⟩) (by assumption) ?_
        try simp only [Act.put, List.setIfInBounds_toArray, List.set_cons_zero, List.set_cons_succ]
        refine take_mk 6 (tval q3 (.slice a3 q3.args.length c3')) rfl (by kernel_rfl) (by kernel_rfl) (by kernel_rfl) (fun _ _ _ h => h) (Or.inl ⟨by rfl, fun X hX => by obtain ⟨_, h0, h1, h2, _⟩ := HS.out X hX; go_simp⟩) (by assumption) ?_
        try simp only [Act.put, List.setIfInBounds_toArray, List.set_cons_zero, List.set_cons_succ]
        refine take_mk 7 (tval q5 (.slice a4 q5.args.length c4')) rfl (by kernel_rfl) (by kernel_rfl) (by kernel_rfl) (fun _ _ _ h => h) (Or.inl ⟨by rfl, fun X hX => by obtain ⟨_, _, _, _, h0, h1, h2⟩ := HS.out X hX; go_simp⟩) (by assumption) ?_
        try simp only [Act.put, List.setIfInBounds_toArray, List.set_cons_zero, List.set_cons_succ]
        refine take_mk 8 (.agg #[.bool n, .int .i64 q3.v, .string q3.fn, .slice a3 q3.args.length c3', .int .i64 q5.v, .string q5.fn, .slice a4 q5.args.length c4']) rfl (by kernel_rfl) (by kernel_rfl) (by kernel_rfl) (fun _ _ _ h => h) (Or.inl ⟨by rfl, fun X hX => by go_simp⟩) (by assumption) ?_
        try simp only [Act.put, List.setIfInBounds_toArray, List.set_cons_zero, List.set_cons_succ]
        refine wpAnyH_ready (rs := [9]) (by kernel_rfl) (by simp) (AllReadyH.cons (o := ⟨_, _, _, _, _, _⟩) rfl (fun K hK => ?_) AllReadyH.nil)
        rw [if_pos (by rfl)]
        go_simp
        refine hK.out _ _ (hHeld.al _) (fun hH9 => ?_)
        clear hK K
        try simp only [Act.put, List.setIfInBounds_toArray, List.set_cons_zero, List.set_cons_succ]
        refine wpAnyH_ready (rs := [10]) (by kernel_rfl) (by simp) (AllReadyH.cons (o := ⟨_, _, _, _, _, _⟩) rfl (fun K hK => ?_) AllReadyH.nil)
        rw [if_pos (by rfl)]
        obtain ⟨v6, w6, hr6, hrow6, hg6, _, hb6⟩ := run_append_own_at (P := Tryz.prog) (Wd.alloc (.cells #[.bool n, .int .i64 q3.v, .string q3.fn, .slice a3 q3.args.length c3', .int .i64 q5.v, .string q5.fn, .slice a4 q5.args.length c4'] 40)) w.heap.size 24 24 40 i0 _ 7 104 Tryz.underlying24 hi0 hz0 hz1 hz2 rfl (by decide) (.slice pa ps.length pc) ps.length (flatL ps) (HId.out.keep (below_box Wd _)).row ⟨Wd.heap.size, 0, none⟩ 1 1 [.bool n, .int .i64 q3.v, .string q3.fn, .slice a3 q3.args.length c3', .int .i64 q5.v, .string q5.fn, .slice a4 q5.args.length c4'] rfl (fun j y hj => by rw [Addr.add_mid, Nat.zero_add, cell_of_row _ _ _ _ 40 (0, 0) (MapKept.heap_alloc Wd _).1]; simpa using hj) (by intro y hy; simp only [List.mem_cons, List.not_mem_nil, or_false] at hy; rcases hy with rfl | rfl | rfl | rfl | rfl | rfl | rfl <;> rfl) (by unfold maxLen; omega) (by omega) (by have := HId.out.bel.size; simp; omega)
        refine wp_app_run _ _ _ 24 rfl _ _ rfl rfl _ _ hr6 ?_
        refine hK.out _ _ (hH9.gr hg6 (fun g e => HIn.out g e)) (fun hH10 => ?_)
        clear hK K
        obtain ⟨a6, c6', rfl⟩ := row_slice hrow6
        try simp only [Act.put, List.setIfInBounds_toArray, List.set_cons_zero, List.set_cons_succ]
        refine take_mk 11 (.slice a6 (ps.length + 1) c6') rfl (by kernel_rfl) (by kernel_rfl) (by kernel_rfl) (fun _ _ _ h => h) (Or.inl ⟨by rfl, fun X hX => by go_simp⟩) (by assumption) ?_
        try simp only [Act.put, List.setIfInBounds_toArray, List.set_cons_zero, List.set_cons_succ]
        refine wpAnyH_done (by kernel_rfl) ?_ _
        have HE6 : Hid (PuI w ((l.take (i + 1)).map (shL by_)) (.slice a6 (ps.length + 1) c6') (ps ++ [(⟨n, q3, q5⟩, .slice a3 q3.args.length c3', .slice a4 q5.args.length c4')]) w6) := by
          show PuI _ _ _ _ _
          rw [HN.out]
          exact pu_end HId.out (⟨n, q3, q5⟩, .slice a3 q3.args.length c3', .slice a4 q5.args.length c4') Wd _ w6 (Below.refl _ _) (below_box Wd _) HAA.out.1 HAA.out.2 _ (by rw [show lcells (⟨n, q3, q5⟩, .slice a3 q3.args.length c3', .slice a4 q5.args.length c4') = [.bool n, .int .i64 q3.v, .string q3.fn, .slice a3 q3.args.length c3', .int .i64 q5.v, .string q5.fn, .slice a4 q5.args.length c4'] from rfl]; exact hrow6) hg6 hb6
        go_wp2
        go_roundw
        case rel => exact ⟨i + 1, by go_num, by omega, HF1, _, HE6.out⟩
        case measure => simp [intOf]; omega
      · have HNo : Hid (fineC by_ l = false) := HFN.out (by
          by_cases h : EL = 0
          · exact .inr fun h2 => hE ⟨h, h2⟩
          · exact .inl h)
        by_cases hE1 : EL = 0
        · have hElb : (EL != 0) = false := by rw [bne_eq_false_iff_eq]; exact hE1
          have hErb : (ER != 0) = true := by rw [bne_iff_ne]; exact fun h => hE ⟨hE1, h⟩
          clear hE hE1
          go_wp2
          go_ret2
          exact ⟨fun h => absurd (HNo.out.symm.trans h) (by decide), fun _ => rfl, HI.out.bel.trans (HW6.out.mono HI.out.bel.size)⟩
        · have hElb : (EL != 0) = true := by rw [bne_iff_ne]; exact hE1
          clear hE hE1
          go_wp2
          go_ret2
          exact ⟨fun h => absurd (HNo.out.symm.trans h) (by decide), fun _ => rfl, HI.out.bel.trans (HW6.out.mono HI.out.bel.size)⟩
    · have hil : i = l.length := by omega
      subst hil
      have HFt : Hid (fineC by_ l = true) := by
        have : fineC by_ (l.take l.length) = true := hfc.out
        rwa [List.take_length] at this
      have HF : Hid (ClauseAt wr (.slice pa ps.length pc) (l.map (shL by_)) ∧ Below w.heap.size w wr) := ⟨by have := hI.clause; rwa [List.take_length] at this, hI.bel⟩
      clear hI
      go_wp2
      go_ret2
      exact ⟨fun _ => ⟨_, rfl, HF.out.1⟩, fun h => absurd (HFt.out.symm.trans h) (by decide), HF.out.2⟩

end Go.Proofs.YtgnjgpplelakkaaGreat
