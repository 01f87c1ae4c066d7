import Derived.Test.YtglphfhlpobgcaaGreatVF
import Derived.Test.YtglphfhlpobgcaaGreatWA
import Derived.Test.YtglphfhlpobgcaaGreatKE
import Derived.Test.YtglphfhlpobgcaaGreatRB
import Derived.Test.YtglphfhlpobgcaaGreatL
namespace Go.Proofs.YtglphfhlpobgcaaGreat
set_option maxRecDepth 100000
set_option maxHeartbeats 1000000
open Go.RowKit Go.Maps
open Classical in
noncomputable def lcmp (g : Sg) (x y : T) : Int := if g.Ok ∧ x.rightW = 0 ∧ y.rightW = 0 then pcmp g x y else 2
def Sa (G : Sg) (x : T) (lb br bv bn : Nat) (W4 : World) (Sy : List Sym) (V : List Int) (ρ : Sym -> Nat) (k : Nat) (Y : World) : Prop :=
 ∃ E vp, Ls W4.heap.size G Sy V ρ lb br bv bn E vp Y ∧ E.length <= x.size.toNat ∧ (∃ h : k < E.length, E[k].t = x) ∧ Below W4.heap.size W4 Y
def Sb (G : Sg) (x y : T) (lb br bv bn : Nat) (W4 : World) (Sy : List Sym) (V : List Int) (ρ : Sym -> Nat) (k l : Nat) (Y : World) : Prop :=
 ∃ E vp, Ls W4.heap.size G Sy V ρ lb br bv bn E vp Y ∧ E.length <= 8000 ∧ (∃ h : k < E.length, E[k].t = x) ∧ (∃ h : l < E.length, E[l].t = y) ∧ Below W4.heap.size W4 Y
theorem sa_any {G : Sg} {x : T} {sx : Value} {lb br bv bn : Nat} {W4 : World} {Sy : List Sym} {V : List Int} {ρ : Sym -> Nat} (H : Hs G Sy V ρ) {Y : World} (hL : Ls W4.heap.size G Sy V ρ lb br bv bn [] (.slice none 0 0) Y) (ha : ArgsAt W4 sx x.args) (hb : Below W4.heap.size W4 Y) (hsh : x.shape = true) (hsy : ∀ s ∈ x.sy, s ∈ Sy) (hvs : ∀ v ∈ x.vs, v ∈ V) (hz : x.size <= 4000) :
  Calls Tryz.prog 50 #[.pointer (some ⟨lb, 0, none⟩), tval x sx] Y fun e Y1 => ∃ k, e = .returned (fi k) ∧ Sa G x lb br bv bn W4 Sy V ρ k Y1 := by
 refine (enter_any W4 G Sy V ρ H lb br bv bn x sx [] _ Y hL ha hb hsh hsy hvs (by simp; omega)).mono ?_
 rintro e Y1 ⟨k, E1, vp1, he, h1, h2, h3, h4, h5, h6⟩
 exact ⟨k, he, E1, vp1, h1, by simpa using h3, h4, hb.trans (h5.below hb.size hL.lows)⟩
theorem sb_any {G : Sg} {x y : T} {sy : Value} {lb br bv bn : Nat} {W4 : World} {Sy : List Sym} {V : List Int} {ρ : Sym -> Nat} (H : Hs G Sy V ρ) {k : Nat} {Y : World} (hS : Sa G x lb br bv bn W4 Sy V ρ k Y) (ha : ArgsAt W4 sy y.args) (hsh : y.shape = true) (hsy : ∀ s ∈ y.sy, s ∈ Sy) (hvs : ∀ v ∈ y.vs, v ∈ V) (hzx : x.size <= 4000) (hz : y.size <= 4000) :
  Calls Tryz.prog 50 #[.pointer (some ⟨lb, 0, none⟩), tval y sy] Y fun e Y1 => ∃ l, e = .returned (fi l) ∧ Sb G x y lb br bv bn W4 Sy V ρ k l Y1 := by
 obtain ⟨E, vp, hL, hl, ⟨hk, hke⟩, hb⟩ := hS
 refine (enter_any W4 G Sy V ρ H lb br bv bn y sy E vp Y hL ha hb hsh hsy hvs (by omega)).mono ?_
 rintro e Y1 ⟨l, E1, vp1, he, h1, ⟨M, hM⟩, h3, h4, h5, h6⟩
 subst hM
 refine ⟨l, he, E ++ M, vp1, h1, by omega, ⟨by simp; omega, ?_⟩, h4, hb.trans (h5.below hb.size hL.lows)⟩
 rw [List.getElem_append_left hk]
 exact hke
theorem lcompare_any (g : Sg) (x y : T) (vn vw sx sy : Value) (w : World) (hg : SgAt w g vn vw) (hax : ArgsAt w sx x.args) (hay : ArgsAt w sy y.args) (hzx : x.size <= 1048576) (hzy : y.size <= 1048576) :
  Calls Tryz.prog 25 #[gval vn vw, tval x sx, tval y sy] w fun e w' => e = .returned (.int .i64 (lcmp g x y)) ∧ Below w.heap.size w w' := by
 obtain ⟨an, cn, rfl, _, _⟩ := hg.ns.slice
 obtain ⟨aw, cw, rfl, _, _⟩ := hg.ws.slice
 obtain ⟨a, ca, rfl, _, _⟩ := hax.slice
 obtain ⟨b, cb, rfl, _, _⟩ := hay.slice
 have hT := tri_made w (.slice an g.ns.length cn) (.slice aw g.ws.length cw) 38 x (.slice a x.args.length ca) y (.slice b y.args.length cb)
 have hC : ∀ X, Tri w (.slice an g.ns.length cn) (.slice aw g.ws.length cw) x (.slice a x.args.length ca) y (.slice b y.args.length cb) X -> (X.cell? ⟨w.heap.size, 0, none⟩ = some (.slice an g.ns.length cn) ∧ X.cell? ⟨w.heap.size, 1, none⟩ = some (.slice aw g.ws.length cw)) ∧ (X.cell? ⟨w.heap.size + 1, 0, none⟩ = some (.int .i64 x.v) ∧ X.cell? ⟨w.heap.size + 1, 1, none⟩ = some (.string x.fn) ∧ X.cell? ⟨w.heap.size + 1, 2, none⟩ = some (.slice a x.args.length ca)) ∧ (X.cell? ⟨w.heap.size + 1 + 1, 0, none⟩ = some (.int .i64 y.v) ∧ X.cell? ⟨w.heap.size + 1 + 1, 1, none⟩ = some (.string y.fn) ∧ X.cell? ⟨w.heap.size + 1 + 1, 2, none⟩ = some (.slice b y.args.length cb)) := fun X h => ⟨⟨h.g0, h.g1⟩, ⟨h.a0, h.a1, h.a2⟩, h.b0, h.b1, h.b2⟩
 have h21 : ∀ X, Tri w (.slice an g.ns.length cn) (.slice aw g.ws.length cw) x (.slice a x.args.length ca) y (.slice b y.args.length cb) X -> Calls Tryz.prog 31 #[.agg #[.slice an g.ns.length cn, .slice aw g.ws.length cw]] X fun e X' => e = .returned (.int .i64 g.okW) ∧ Tri w (.slice an g.ns.length cn) (.slice aw g.ws.length cw) x (.slice a x.args.length ca) y (.slice b y.args.length cb) X' := fun X hX => (kright_any g _ _ X (hg.keep hX.bel (Nat.le_refl _))).mono fun e X' ⟨h1, h2⟩ => ⟨h1, hX.keep h2⟩
 have h22x : ∀ X, Tri w (.slice an g.ns.length cn) (.slice aw g.ws.length cw) x (.slice a x.args.length ca) y (.slice b y.args.length cb) X -> Calls Tryz.prog 30 #[tval x (.slice a x.args.length ca)] X fun e X' => e = .returned (.int .i64 x.rightW) ∧ Tri w (.slice an g.ns.length cn) (.slice aw g.ws.length cw) x (.slice a x.args.length ca) y (.slice b y.args.length cb) X' := fun X hX => (tright_any x _ X (ArgsAt.keep hX.bel (Nat.le_refl _) hax) (short_of x hzx).1).mono fun e X' ⟨h1, h2⟩ => ⟨h1, hX.keep h2⟩
 have h22y : ∀ X, Tri w (.slice an g.ns.length cn) (.slice aw g.ws.length cw) x (.slice a x.args.length ca) y (.slice b y.args.length cb) X -> Calls Tryz.prog 30 #[tval y (.slice b y.args.length cb)] X fun e X' => e = .returned (.int .i64 y.rightW) ∧ Tri w (.slice an g.ns.length cn) (.slice aw g.ws.length cw) x (.slice a x.args.length ca) y (.slice b y.args.length cb) X' := fun X hX => (tright_any y _ X (ArgsAt.keep hX.bel (Nat.le_refl _) hay) (short_of y hzy).1).mono fun e X' ⟨h1, h2⟩ => ⟨h1, hX.keep h2⟩
 have hB : ∀ X, Tri w (.slice an g.ns.length cn) (.slice aw g.ws.length cw) x (.slice a x.args.length ca) y (.slice b y.args.length cb) X -> Below w.heap.size w X := fun X h => h.bel
 have hkp : ∀ X X', Tri w (.slice an g.ns.length cn) (.slice aw g.ws.length cw) x (.slice a x.args.length ca) y (.slice b y.args.length cb) X -> Below X.heap.size X X' -> Tri w (.slice an g.ns.length cn) (.slice aw g.ws.length cw) x (.slice a x.args.length ca) y (.slice b y.args.length cb) X' := fun X X' h hb => h.keep hb
 have HW : Hid (SgAt w g (.slice an g.ns.length cn) (.slice aw g.ws.length cw) ∧ ArgsAt w (.slice a x.args.length ca) x.args ∧ ArgsAt w (.slice b y.args.length cb) y.args ∧ x.size <= 1048576 ∧ y.size <= 1048576) := ⟨hg, hax, hay, hzx, hzy⟩
 obtain ⟨S, hS⟩ : ∃ S, Tri w (.slice an g.ns.length cn) (.slice aw g.ws.length cw) x (.slice a x.args.length ca) y (.slice b y.args.length cb) = S := ⟨_, rfl⟩
 rw [hS] at hT hC h21 h22x h22y hB hkp
 clear hS hg hax hay hzx hzy
 obtain ⟨⟨i0, i1⟩, ⟨j0, j1, j2⟩, k0, k1, k2⟩ := hC _ hT
 by_cases hok : g.Ok
 ·rw [okW_yes hok] at h21
  by_cases hrx : x.rightW = 0
  ·rw [hrx] at h22x
   by_cases hry : y.rightW = 0
   ·rw [hry] at h22y
    have HV : Hid (lcmp g x y = pcmp g x y) := by show _ = _; unfold lcmp; rw [if_pos ⟨hok, hrx, hry⟩]
    have HR : Hid ((x.shape = true ∧ x.size <= 4000) ∧ y.shape = true ∧ y.size <= 4000) := ⟨right_facts hrx HW.out.2.2.2.1, right_facts hry HW.out.2.2.2.2⟩
    have hmm := fun w => run_makeMap0 78 123 83 Tryz.underlying78 w
    clear hok hrx hry
    go_enter Tryz.func25, Tryz.ntmps25
    go_wp2_with fail
    refine (h21 _ hT).mono ?_
    rintro e W2 ⟨rfl, hT2⟩
    obtain ⟨⟨l0, l1⟩, ⟨m0, m1, m2⟩, n0, n1, n2⟩ := hC _ hT2
    go_wp2_with fail
    refine (h22x _ hT2).mono ?_
    rintro e W3 ⟨rfl, hT3⟩
    obtain ⟨⟨o0, o1⟩, ⟨q0, q1, q2⟩, r0, r1, r2⟩ := hC _ hT3
    go_wp2_with fail
    refine (h22y _ hT3).mono ?_
    rintro e W4 ⟨rfl, hT4⟩
    obtain ⟨⟨s0, s1⟩, ⟨t0, t1, t2⟩, u0, u1, u2⟩ := hC _ hT4
    have hbW4 := hB _ hT4
    have hax4 := ArgsAt.keep hbW4 (Nat.le_refl _) HW.out.2.1
    have hay4 := ArgsAt.keep hbW4 (Nat.le_refl _) HW.out.2.2.1
    have hsz4 : szs [x, y] <= 100000 := by
     have := HR.out
     simp [szs]
     omega
    have hb5 := below_box W4 (.cells #[.int .i64 x.v, .string x.fn, .slice a x.args.length ca, .int .i64 y.v, .string y.fn, .slice b y.args.length cb] 30)
    have hheads := heads_any g [x, y] _ _ _ _ ((HW.out.1.keep hbW4 (Nat.le_refl _)).keep hb5 (Nat.le_refl _)) (args_two W4 x y _ _ hax4 hay4) (by intro t ht; simp at ht; rcases ht with rfl | rfl; exact HR.out.1.1; exact HR.out.2.1) hsz4
    have hheads' := hheads.mono (R' := fun e W' => ∃ br bv, e = .returned (.agg #[.map (some br), .map (some bv)]) ∧ Hid ((∃ Sy V ρ, Heads g [x, y] W' br bv Sy V ρ) ∧ br < W'.heap.size ∧ bv < W'.heap.size ∧ Below W4.heap.size W4 W')) (by
     rintro e W' ⟨br, bv, he, ⟨Sy, V, ρ, hH⟩, _, hb⟩
     exact ⟨br, bv, he, ⟨Sy, V, ρ, hH⟩, hH.mr.lt, hH.mv.lt, hb5.trans (hb.mono hb5.size)⟩)
    have HA4 : Hid (ArgsAt W4 (.slice a x.args.length ca) x.args ∧ ArgsAt W4 (.slice b y.args.length cb) y.args) := ⟨hax4, hay4⟩
    clear i0 i1 j0 j1 j2 k0 k1 k2 l0 l1 m0 m1 m2 n0 n1 n2 o0 o1 q0 q1 q2 r0 r1 r2 hT hT2 hT3 h21 h22x h22y hheads hax4 hay4 hb5 hsz4
    go_wp2_with (first | (go_at_call 49; refine hheads'.mono ?_; rintro e W6 ⟨br, bv, rfl, HH⟩))
    obtain ⟨⟨Sy, V, ρ, hH⟩, hbr, hbv, hb6⟩ := HH.out
    obtain ⟨bn, hbn⟩ : ∃ bn, W6.heap.size = bn := ⟨_, rfl⟩
    obtain ⟨W7, e7⟩ : ∃ X, W6.alloc (.map #[] 0) = X := ⟨_, rfl⟩
    obtain ⟨W8, e8⟩ : ∃ X, W7.alloc (.cells #[.map (some br), .map (some bv), .map (some bn), .slice none 0 0] 81) = X := ⟨_, rfl⟩
    have z7 : W7.heap.size = bn + 1 := by rw [<- e7, <- hbn]; simp
    have hb7 : Below W6.heap.size W6 W7 := by rw [<- e7]; exact below_box _ _
    have hb8 : Below W7.heap.size W7 W8 := by rw [<- e8]; exact below_box _ _
    have hb68 : Below W6.heap.size W6 W8 := hb7.trans (hb8.mono (by omega))
    have hd8 : Below W8.heap.size W8 W8.drew := (Below.refl _ W8).drew
    have hb6d : Below W6.heap.size W6 W8.drew := hb68.trans (hd8.mono hb68.size)
    have hb4d : Below W4.heap.size W4 W8.drew := hb6.trans (hb6d.mono hb6.size)
    have hl8 : W8.heap[bn + 1]? = some (.cells #[.map (some br), .map (some bv), .map (some bn), .slice none 0 0] 81 (0, 0)) := by
     have := (MapKept.heap_alloc W7 (.cells #[.map (some br), .map (some bv), .map (some bn), .slice none 0 0] 81)).1
     rw [e8, z7] at this
     exact this
    have hm7 : MapIs W7 123 bn (fun _ => none) 0 := by
     have := MapIs.made W6 123
     rw [e7, hbn] at this
     exact this
    have z8 : bn + 2 <= W8.heap.size := by have := (Array.getElem?_eq_some_iff.1 hl8).1; omega
    have hmd : MapIs W8.drew 123 bn (fun _ => none) 0 := (hm7.same (hb8.block bn (by omega))).same (hd8.block bn (by omega))
    have hld := (hd8.block (bn + 1) (by omega)).trans hl8
    have hHd : Heads g [x, y] W8.drew br bv Sy V ρ := ⟨hH.mr.same (hb6d.block br hbr), hH.mv.same (hb6d.block bv hbv), hH.ne, hH.ns, hH.nv, hH.fs, hH.fv, hH.rk, hH.le, hH.st, hH.vt, hH.ln, hH.fe⟩
    have z6 := hb6.size
    have hL := ls_nil (n0 := W4.heap.size) hHd hmd hld (by omega) (by omega) (by omega) (by omega)
    have hszs : szs [x, y] <= 16000 := by
     have := HR.out
     simp [szs]
     omega
    have Hh : Hs g Sy V ρ := ⟨hH.rk, hH.le, hH.fe, by have := hH.ln; omega⟩
    have h24x := sa_any Hh hL HA4.out.1 hb4d HR.out.1.1 (hH.st x (by simp)) (hH.vt x (by simp)) HR.out.1.2
    have h24y : ∀ k Y, Sa g x (bn + 1) br bv bn W4 Sy V ρ k Y -> Calls Tryz.prog 50 #[.pointer (some ⟨bn + 1, 0, none⟩), tval y (.slice b y.args.length cb)] Y fun e Y1 => ∃ l, e = .returned (fi l) ∧ Sb g x y (bn + 1) br bv bn W4 Sy V ρ k l Y1 := fun k Y hS => sb_any Hh hS HA4.out.2 HR.out.2.1 (hH.st y (by simp)) (hH.vt y (by simp)) HR.out.1.2 HR.out.2.2
    have KC : ∀ X, Below W4.heap.size W4 X -> (X.cell? ⟨w.heap.size + 1, 0, none⟩ = some (.int .i64 x.v) ∧ X.cell? ⟨w.heap.size + 1, 1, none⟩ = some (.string x.fn) ∧ X.cell? ⟨w.heap.size + 1, 2, none⟩ = some (.slice a x.args.length ca)) ∧ (X.cell? ⟨w.heap.size + 1 + 1, 0, none⟩ = some (.int .i64 y.v) ∧ X.cell? ⟨w.heap.size + 1 + 1, 1, none⟩ = some (.string y.fn) ∧ X.cell? ⟨w.heap.size + 1 + 1, 2, none⟩ = some (.slice b y.args.length cb)) := fun X hX => (hC _ (hkp _ _ hT4 hX)).2
    have K4 := KC _ hb4d
    have HHs : Hid (Hs g Sy V ρ) := Hh
    rw [hbn, e7, e8]
    clear s0 s1 t0 t1 t2 u0 u1 u2 hheads' hmm hH hbr hbv hb6 hbn e7 e8 z7 hb7 hb8 hb68 hd8 hb6d hb4d hl8 hm7 z8 hmd hld hHd z6 hL hszs Hh HH hT4 hC hkp
    go_region_held3 (fun X => (X.cell? ⟨w.heap.size + 1, 0, none⟩ = some (.int .i64 x.v) ∧ X.cell? ⟨w.heap.size + 1, 1, none⟩ = some (.string x.fn) ∧ X.cell? ⟨w.heap.size + 1, 2, none⟩ = some (.slice a x.args.length ca)) ∧ (X.cell? ⟨w.heap.size + 1 + 1, 0, none⟩ = some (.int .i64 y.v) ∧ X.cell? ⟨w.heap.size + 1 + 1, 1, none⟩ = some (.string y.fn) ∧ X.cell? ⟨w.heap.size + 1 + 1, 2, none⟩ = some (.slice b y.args.length cb))) (first | exact K4 | exact K5 | exact K6) (first
     | (go_at_call 50; refine h24x.mono ?_; rintro e Y1 ⟨k1, rfl, hS1⟩; have K5 := KC _ (by obtain ⟨_, _, _, _, _, h⟩ := hS1; exact h); have h24z := h24y _ _ hS1; clear h24x h24y hS1 K4)
     | (go_at_call 50; refine h24z.mono ?_; rintro e Y2 ⟨k2, rfl, hS2⟩; have K6 := KC _ (by obtain ⟨_, _, _, _, _, _, h⟩ := hS2; exact h); clear h24z K5))
    obtain ⟨E, vp, hL2, hE, ⟨hk1, hk1e⟩, ⟨hk2, hk2e⟩, hb4⟩ := hS2
    obtain ⟨⟨_, _, _, c3⟩, _⟩ := hL2.cells
    obtain ⟨pa, pc, rfl⟩ := row_slice hL2.row
    have hcomp := comparer_any g (E.map (·.t)) pa E.length pc Y2
    have hl := hL2.lst HHs.out hE
    have hp := hL2.pts
    have hcmp : ∀ bc bp bf bm Y, Cm Y2 g (E.map (·.t)) bc bp bf bm (.slice pa E.length pc) Y -> Calls Tryz.prog 84 #[.int .i16 (k1 : Int), .int .i16 (k2 : Int), .pointer (some ⟨bc, 0, none⟩), .pointer (some ⟨bp, 0, none⟩), .pointer (some ⟨bf, 0, none⟩)] Y fun e Y' => e = .returned (.int .i64 (pcmp g x y)) ∧ Hid (Below w.heap.size w Y') := fun bc bp bf bm Y hY =>
     (cmp_any hl hp (i := k1) (j := k2) (by simpa using hk1) (by simpa using hk2) Y hY).mono (by
      rintro e Y' ⟨he, hC4, _⟩
      refine ⟨?_, hbW4.trans ((hb4.trans (hC4.bel.mono hb4.size)).mono hbW4.size)⟩
      rw [he]
      simp [hk1e, hk2e])
    clear KC K6 hL2 hE hk1 hk1e hk2 hk2e hb4 hl hp HHs HA4 HR HW hB
    have eg := eg47
    go_wp2_with (first
     | (go_at_call 51; refine hcomp.mono ?_; rintro e Y3 ⟨bc, bp, bf, bm, rfl, hCm⟩; have hcm := hcmp _ _ _ _ _ hCm; clear hcmp hcomp hCm)
     | (go_at_fn 84; refine hcm.mono ?_; rintro e Y4 ⟨rfl, HB4⟩))
    go_ret
    exact ⟨ret_i64 HV.out.symm, HB4.out⟩
   ·have HV : Hid (lcmp g x y = 2) := by show _ = _; unfold lcmp; rw [if_neg (fun h => hry h.2.2)]
    have e3 : (y.rightW != 0) = true := by rw [bne_iff_ne]; exact hry
    clear hok hrx hry HW hkp
    go_enter Tryz.func25, Tryz.ntmps25
    go_wp2_with fail
    refine (h21 _ hT).mono ?_
    rintro e W2 ⟨rfl, hT2⟩
    obtain ⟨⟨l0, l1⟩, ⟨m0, m1, m2⟩, n0, n1, n2⟩ := hC _ hT2
    go_wp2_with fail
    refine (h22x _ hT2).mono ?_
    rintro e W3 ⟨rfl, hT3⟩
    obtain ⟨⟨o0, o1⟩, ⟨q0, q1, q2⟩, r0, r1, r2⟩ := hC _ hT3
    go_wp2_with fail
    refine (h22y _ hT3).mono ?_
    rintro e W4 ⟨rfl, hT4⟩
    go_wp2
    go_ret
    exact ⟨ret_i64 HV.out.symm, hB _ hT4⟩
  ·have HV : Hid (lcmp g x y = 2) := by show _ = _; unfold lcmp; rw [if_neg (fun h => hrx h.2.1)]
   have e3 : (x.rightW != 0) = true := by rw [bne_iff_ne]; exact hrx
   clear hok hrx h22y HW hkp
   go_enter Tryz.func25, Tryz.ntmps25
   go_wp2_with fail
   refine (h21 _ hT).mono ?_
   rintro e W2 ⟨rfl, hT2⟩
   obtain ⟨⟨l0, l1⟩, ⟨m0, m1, m2⟩, n0, n1, n2⟩ := hC _ hT2
   go_wp2_with fail
   refine (h22x _ hT2).mono ?_
   rintro e W3 ⟨rfl, hT3⟩
   go_wp2
   go_ret
   exact ⟨ret_i64 HV.out.symm, hB _ hT3⟩
 ·have HV : Hid (lcmp g x y = 2) := by show _ = _; unfold lcmp; rw [if_neg (fun h => hok h.1)]
  rw [okW_no hok] at h21
  clear hok h22y h22x HW hkp
  go_enter Tryz.func25, Tryz.ntmps25
  go_wp2_with fail
  refine (h21 _ hT).mono ?_
  rintro e W2 ⟨rfl, hT2⟩
  go_wp2
  go_ret
  exact ⟨ret_i64 HV.out.symm, hB _ hT2⟩
end Go.Proofs.YtglphfhlpobgcaaGreat
