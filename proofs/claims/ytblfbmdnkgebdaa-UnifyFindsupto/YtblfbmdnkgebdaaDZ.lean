import Derived.Test.YtblfbmdnkgebdaaDP
import Derived.Test.YtblfbmdnkgebdaaDJ
import Derived.Test.YtblfbmdnkgebdaaDM
import Derived.Test.YtblfbmdnkgebdaaDN
import Derived.Test.YtblfbmdnkgebdaaHC
import Derived.Test.YtblfbmdnkgebdaaPW
import Derived.Deep.CutBlock
import Derived.Laws.MakeOwn
import Derived.Laws.OwnMore
import Derived.Test.YtblfbmdnkgebdaaHK
import Derived.Test.YtblfbmdnkgebdaaTE

/-
  The document's Unify at two right terms.
-/
namespace Go.Proofs.Ytblfbmdnkgebdaa.Dn
open Go.RowKit Go.Maps

/-- The measure, just made. -/
theorem mes_start {W8 Wx : World} {M gs gd gz n : Nat} {Z : Array Value} (_hZ : Z.size = n) (hz : ∀ i, i < n → Z[i]? = some (.int .i64 0)) (hb : Below W8.heap.size W8 Wx)
    (hM : W8.heap.size ≤ M ∧ W8.heap.size ≤ gs ∧ W8.heap.size ≤ gd ∧ W8.heap.size ≤ gz) (hne : M ≠ gs ∧ M ≠ gd ∧ M ≠ gz ∧ gs ≠ gd ∧ gs ≠ gz ∧ gd ≠ gz)
    (hm : Wx.heap[M]? = some (.cells #[.slice (some ⟨gs, 0, none⟩) n n, .slice (some ⟨gd, 0, none⟩) n n, .slice (some ⟨gz, 0, none⟩) n n] 61 (0, 0)))
    (h1 : Wx.heap[gs]? = some (.cells Z 3 (0, 0))) (h2 : Wx.heap[gd]? = some (.cells Z 3 (0, 0))) (h3 : Wx.heap[gz]? = some (.cells Z 3 (0, 0))) : Mes W8 Wx M gs gd gz n (fun _ => 0) (fun _ => 0) (fun _ => 0) :=
  ⟨hb, hM, hne, hm, ⟨Z, h1, fun i hi => hz i hi⟩, ⟨Z, h2, fun i hi => hz i hi⟩, ⟨Z, h3, fun i hi => hz i hi⟩, fun _ => by decide⟩

theorem mes_make {W8 Wd : World} {n : Nat} {Z : Array Value} (hd : Below W8.heap.size W8 Wd) (hZ : Z.size = n) (hz : ∀ i, i < n → Z[i]? = some (.int .i64 0)) {gs gd gz : Nat} (h1 : Wd.heap.size ≤ gs ∧ gs < Wd.heap.size + 3) (h2 : Wd.heap.size ≤ gd ∧ gd < Wd.heap.size + 3) (h3 : Wd.heap.size ≤ gz ∧ gz < Wd.heap.size + 3) (h4 : gs ≠ gd ∧ gs ≠ gz ∧ gd ≠ gz) :
    Mes W8 ((((Wd.alloc (.cells Z 3)).alloc (.cells Z 3)).alloc (.cells Z 3)).alloc (.cells #[.slice (some ⟨gs, 0, none⟩) n n, .slice (some ⟨gd, 0, none⟩) n n, .slice (some ⟨gz, 0, none⟩) n n] 61)) (Wd.heap.size + 3) gs gd gz n (fun _ => 0) (fun _ => 0) (fun _ => 0) := by
  have hs := hd.size
  have b1 := hd.alloc hd.size (.cells Z 3)
  have b2 := b1.alloc b1.size (.cells Z 3)
  have b3 := b2.alloc b2.size (.cells Z 3)
  have blk : ∀ k, Wd.heap.size ≤ k → k < Wd.heap.size + 3 → (((Wd.alloc (.cells Z 3)).alloc (.cells Z 3)).alloc (.cells Z 3)).heap[k]? = some (.cells Z 3 (0, 0)) := fun k hk1 hk2 => by
    have hk : k = Wd.heap.size ∨ k = Wd.heap.size + 1 ∨ k = Wd.heap.size + 2 := by omega
    rcases hk with rfl | rfl | rfl
    · rw [Below.heap_alloc _ _ _ (by simp; omega), Below.heap_alloc _ _ _ (by simp)]
      exact (MapKept.heap_alloc Wd _).1
    · rw [Below.heap_alloc _ _ _ (by simp)]
      have := (MapKept.heap_alloc (Wd.alloc (.cells Z 3)) (.cells Z 3)).1
      rwa [World.size_alloc] at this
    · have := (MapKept.heap_alloc ((Wd.alloc (.cells Z 3)).alloc (.cells Z 3)) (.cells Z 3)).1
      rwa [World.size_alloc, World.size_alloc] at this
  have blk2 : ∀ (bl : Obj) k, Wd.heap.size ≤ k → k < Wd.heap.size + 3 → ((((Wd.alloc (.cells Z 3)).alloc (.cells Z 3)).alloc (.cells Z 3)).alloc bl).heap[k]? = some (.cells Z 3 (0, 0)) := fun bl k hk1 hk2 => (Below.heap_alloc _ _ _ (by simp; omega)).trans (blk k hk1 hk2)
  refine mes_start hZ hz (b3.alloc b3.size _) (by omega) (by omega) ?_ (blk2 _ _ h1.1 h1.2) (blk2 _ _ h2.1 h2.2) (blk2 _ _ h3.1 h3.2)
  have := (MapKept.heap_alloc (((Wd.alloc (.cells Z 3)).alloc (.cells Z 3)).alloc (.cells Z 3)) (.cells #[.slice (some ⟨gs, 0, none⟩) n n, .slice (some ⟨gd, 0, none⟩) n n, .slice (some ⟨gz, 0, none⟩) n n] 61)).1
  rwa [World.size_alloc, World.size_alloc, World.size_alloc] at this

theorem lay_start {W0 W4 : World} (hb : Below W0.heap.size W0 W4) : LayS W0 (W4.alloc (.cells #[.slice none 0 0] 56)) W4.heap.size (W4.heap.size + 1) (.slice none 0 0) [] :=
  ⟨hb.trans ((below_box W4 _).mono hb.size), ⟨hb.size, by omega, by simp⟩, (MapKept.heap_alloc _ _).1, World.ownsRow_nil _ _ _ _, by simp, by simp, by simp, by simp, ⟨by simp, fun i j x y h => (by simp at h)⟩⟩

set_option maxRecDepth 100000 in
set_option maxHeartbeats 32000000 in
theorem dunify_right (p t : T) (sp st : Value) (W : World) (hp : ArgsAt W sp p.args) (ht : ArgsAt W st t.args) (hrp : p.rightW = 0) (hrt : t.rightW = 0) (hsz : p.size + t.size ≤ 1048576) :
    Calls Try.prog 10 #[tval p sp, tval t st] W fun e W' => DUnifyIs p t e W' ∧ Below W.heap.size W W' := by
  obtain ⟨pa, pc, rfl, _, _⟩ := hp.slice
  obtain ⟨ta, tc, rfl, _, _⟩ := ht.slice
  obtain ⟨W2, h2⟩ : ∃ X, (W.alloc (.cells #[.int .i64 p.v, .string p.fn, .slice pa p.args.length pc] 24)).alloc (.cells #[.int .i64 t.v, .string t.fn, .slice ta t.args.length tc] 24) = X := ⟨_, rfl⟩
  have b2 : Below W.heap.size W W2 := by rw [← h2]; exact below_box2 W _ _
  have q0 : W2.heap[W.heap.size]? = some (.cells #[.int .i64 p.v, .string p.fn, .slice pa p.args.length pc] 24 (0, 0)) := by
    rw [← h2, (below_box (W.alloc (.cells #[.int .i64 p.v, .string p.fn, .slice pa p.args.length pc] 24)) _).block _ (by simp)]
    exact (MapKept.heap_alloc _ _).1
  have q1 : W2.heap[W.heap.size + 1]? = some (.cells #[.int .i64 t.v, .string t.fn, .slice ta t.args.length tc] 24 (0, 0)) := by
    rw [← h2]
    have := (MapKept.heap_alloc (W.alloc (.cells #[.int .i64 p.v, .string p.fn, .slice pa p.args.length pc] 24)) (.cells #[.int .i64 t.v, .string t.fn, .slice ta t.args.length tc] 24)).1
    simpa using this
  have HX : Hid (∀ Z, Below W2.heap.size W2 Z → Z.heap[W.heap.size]? = some (.cells #[.int .i64 p.v, .string p.fn, .slice pa p.args.length pc] 24 (0, 0)) ∧ Z.heap[W.heap.size + 1]? = some (.cells #[.int .i64 t.v, .string t.fn, .slice ta t.args.length tc] 24 (0, 0)) ∧ ArgsAt Z (.slice ta t.args.length tc) t.args ∧ ArgsAt Z (.slice pa p.args.length pc) p.args ∧ Below W.heap.size W Z) := fun Z hZ => by
    have hb := b2.trans (hZ.mono b2.size)
    exact ⟨(hZ.block _ (Array.getElem?_eq_some_iff.1 q0).1).trans q0, (hZ.block _ (Array.getElem?_eq_some_iff.1 q1).1).trans q1, ArgsAt.keep hb (Nat.le_refl _) ht, ArgsAt.keep hb (Nat.le_refl _) hp, hb⟩
  have HE2 : Hid ((W.alloc (.cells #[.int .i64 p.v, .string p.fn, .slice pa p.args.length pc] 24)).alloc (.cells #[.int .i64 t.v, .string t.fn, .slice ta t.args.length tc] 24) = W2) := h2
  have HRt : Hid (p.rightW = 0 ∧ t.rightW = 0) := ⟨hrp, hrt⟩
  have HShp : Hid (p.shape = true) := right_shape hrp
  have HSht : Hid (t.shape = true) := right_shape hrt
  have HSz : Hid (p.size + t.size ≤ 1048576) := hsz
  have hc1 := rright_any p (.slice pa p.args.length pc) W2 (HX.out W2 (Below.refl _ _)).2.2.2.1
  rw [hrp] at hc1
  have HR2 : Hid (∀ Z, Below W2.heap.size W2 Z → Calls Try.prog 23 #[tval t (.slice ta t.args.length tc)] Z fun e w' => e = .returned (.int .i64 0) ∧ Below Z.heap.size Z w') := fun Z hZ => by
    have := rright_any t (.slice ta t.args.length tc) Z (HX.out Z hZ).2.2.1
    rw [hrt] at this
    exact this
  clear hp ht hrp hrt hsz h2 b2 q0 q1
  go_enter Try.func10, Try.ntmps10
  go_wp2_with fail
  rw [HE2.out]
  clear HE2
  refine hc1.mono ?_
  rintro e W3 ⟨rfl, b3⟩
  obtain ⟨p0, p1, _, _, _⟩ := HX.out W3 b3
  have x0 := cell_at p0 (o := 0) rfl
  have x1 := cell_at p0 (o := 1) rfl
  have x2 := cell_at p0 (o := 2) rfl
  have y0 := cell_at p1 (o := 0) rfl
  have y1 := cell_at p1 (o := 1) rfl
  have y2 := cell_at p1 (o := 2) rfl
  have hc2 := HR2.out W3 b3
  clear hc1 p0 p1
  go_wp2_with fail
  refine hc2.mono ?_
  rintro e W4 ⟨rfl, b4⟩
  have B4 : Below W2.heap.size W2 W4 := b3.trans (b4.mono b3.size)
  have hS0 := lay_start B4
  obtain ⟨B, hB⟩ : ∃ B, W4.heap.size = B := ⟨_, rfl⟩
  obtain ⟨W5, h5⟩ : ∃ X, W4.alloc (.cells #[.slice none 0 0] 56) = X := ⟨_, rfl⟩
  rw [h5, hB] at hS0
  have HE5 : Hid (W4.alloc (.cells #[.slice none 0 0] 56) = W5 ∧ W4.heap.size = B) := ⟨h5, hB⟩
  obtain ⟨p0, p1, _, _, _⟩ := HX.out W5 hS0.bel
  clear x0 x1 x2 y0 y1 y2
  have HAp : Hid (ArgsAt W2 (.slice pa p.args.length pc) p.args ∧ ArgsAt W2 (.slice ta t.args.length tc) t.args) := ⟨(HX.out W2 (Below.refl _ _)).2.2.2.1, (HX.out W2 (Below.refl _ _)).2.2.1⟩
  have hl1 := lay_any W2 p W5 B (B + 1) (.slice none 0 0) [] (.slice pa p.args.length pc) HShp.out hS0 HAp.out.1 (by have h1 := HSz.out; have h2 := T.size_pos t; simp; omega)
  have x0 := cell_at p0 (o := 0) rfl
  have x1 := cell_at p0 (o := 1) rfl
  have x2 := cell_at p0 (o := 2) rfl
  obtain ⟨c40, c41, c42⟩ : (W4.alloc (.cells #[.slice none 0 0] 56)).cell? ⟨W.heap.size, 0, none⟩ = some (.int .i64 p.v) ∧ (W4.alloc (.cells #[.slice none 0 0] 56)).cell? ⟨W.heap.size, 1, none⟩ = some (.string p.fn) ∧ (W4.alloc (.cells #[.slice none 0 0] 56)).cell? ⟨W.heap.size, 2, none⟩ = some (.slice pa p.args.length pc) := by
    rw [h5]
    exact ⟨x0, x1, x2⟩
  clear hc2 p0 p1 h5 hB hS0 b3 b4 B4 HR2
  go_wp2_with fail
  try rw [HE5.out.1]
  try rw [HE5.out.2]
  clear HE5 c40 c41 c42
  refine hl1.mono ?_
  rintro e W6 ⟨i1, v6, L2, rfl, hS6, hF6, hR6, hi6, hn6, hb6, ho6⟩
  rw [List.nil_append] at hS6 hR6 hi6
  have hl2 := lay_any W2 t W6 B (B + 1) v6 L2 (.slice ta t.args.length tc) HSht.out hS6 HAp.out.2 (by have h1 := HSz.out; omega)
  obtain ⟨_, p1, _, _, _⟩ := HX.out W6 hS6.bel
  have y0 := cell_at p1 (o := 0) rfl
  have y1 := cell_at p1 (o := 1) rfl
  have y2 := cell_at p1 (o := 2) rfl
  have HR6 : Hid (Rep (L2.map (·.1)) i1 p ∧ i1 < L2.length ∧ (L2.length : Int) ≤ p.size ∧ ∀ x ∈ L2, x.1.fn.size = 0 → Occ x.1.v p) := ⟨hR6, hi6, hn6, ho6⟩
  clear hl1 x0 x1 x2 p1 hS6 hF6 hR6 hi6 hn6 hb6 ho6
  go_wp2_with fail
  refine hl2.mono ?_
  rintro e W7 ⟨i2, v7, L3, rfl, hS7, hF7, hR7, hi7, hn7, hb7, ho7⟩
  obtain ⟨L, hL⟩ : ∃ L, L2 ++ L3 = L := ⟨_, rfl⟩
  rw [hL] at hS7 hR7 hi7
  have hRp : Rep (L.map (·.1)) i1 p := by rw [← hL, List.map_append]; exact HR6.out.1.app
  have hLl : L.length ≤ 1048576 := by
    rw [← hL, List.length_append]
    have h1 := HSz.out
    have h2 := HR6.out.2.2.1
    omega
  have hi1 : i1 < L.length := by rw [← hL, List.length_append]; have := HR6.out.2.1; omega
  have hoL : ∀ z ∈ L, z.1.fn.size = 0 → Occ z.1.v p ∨ Occ z.1.v t := fun z hz h0 => by
    rw [← hL] at hz
    rcases List.mem_append.1 hz with hz | hz
    · exact .inl (HR6.out.2.2.2 z hz h0)
    · exact .inr (ho7 z hz h0)
  have hPre := pre_of hS7 hRp hR7 hi1 hi7 hoL
  clear hoL ho7
  obtain ⟨g, c, rfl, hN⟩ := hS7.net (by omega) hLl
  have h16 : ∀ (i : Nat) (d : Nd), (L.map (·.1))[i]? = some d → d.args.length ≤ 16 := fun i d hd => by
    rw [List.getElem?_map] at hd
    obtain ⟨x, hx, rfl⟩ := Option.map_eq_some_iff.1 hd
    exact hS7.al x (List.mem_of_getElem? hx)
  obtain ⟨N, hNe⟩ : ∃ N, L.map (·.1) = N := ⟨_, rfl⟩
  have hNl : L.length = N.length := by rw [← hNe]; simp
  obtain ⟨av, hav⟩ : ∃ av, avOf L = av := ⟨_, rfl⟩
  rw [hNe, hav] at hN
  rw [hNe] at hRp hR7 h16 hPre
  rw [hNl] at hi1 hi7
  have hj := join_any (B := B) (g := g) (c := c) (N := N) (av := av) (tops id N.length + 1) id id (fun _ => 0) 0 W7 i1 i2 (Nat.lt_succ_self _) hN (up_start _) (tp_start _) hi1 hi7
  have HPre : Hid (Pre N p t i1 i2) := hPre
  clear hPre
  have H16 : Hid (∀ (i : Nat) (d : Nd), N[i]? = some d → d.args.length ≤ 16) := h16
  have HW7 : Hid (Below W2.heap.size W2 W7 ∧ W2.heap.size ≤ B ∧ B + 1 ≤ g) := ⟨hS7.bel, hS7.ord.1, by
    have := (row_block hS7.row (g := g) rfl).1
    exact this⟩
  clear hl2 y0 y1 y2 hS7 hF7 hR7 hi7 hn7 hb7 hL hRp hLl hi1 hNe hNl hav h16 hN HR6 HAp HShp HSht
  go_wp2_with fail
  refine hj.mono ?_
  rintro e W8 ⟨z, up, ρ, r, K, rfl, hN8, hU8, hT8, hO8, _, hz8, hs8⟩
  have b8 : Below W2.heap.size W2 W8 := HW7.out.1.trans (hO8.below HW7.out.1.size (by have := HW7.out; simp; omega))
  have HW8 : Hid (Below W.heap.size W W8) := (HX.out W8 b8).2.2.2.2
  clear hj hO8 b8
  cases z
  · have HNo : Hid (∀ θ, p.app θ ≠ t.app θ) := HPre.out.no fun V h1 h3 => by cases (hs8 V h1 (kp_id V) h3).1
    clear hz8 hs8 hN8 hU8 hT8
    go_wp2
    refine bodyPost_ret (v := .tuple #[.slice none 0 0, .bool false, .int .i64 0]) (by simp [results, Try.results10, go_sem]) rfl ?_
    exact ⟨.inr (.inl ⟨HRt.out, HNo.out, rfl⟩), HW8.out⟩
  · obtain ⟨hz1, _, hz3⟩ := hz8 rfl
    have HSv : Hid (Sv N ρ p t i1 i2) := HPre.out.sv hT8 (hz1 [] (jn_start N _)) hz3 (fun V h1 h3 => (hs8 V h1 (kp_id V) h3).2)
    clear hz8 hs8 hz1 hz3
    have HN : Hid (∀ Z, Below W8.heap.size W8 Z → Net Z B g c N up av) := fun Z hZ => hN8.keep hZ
    have HU : Hid (Up N.length up ρ r K) := hU8
    have HT : Hid (Tp N ρ) := hT8
    have HNl : Hid (N.length ≤ 1048576) := hN8.len
    have HBl : Hid (B < W8.heap.size) := hN8.blt.1
    have hbc : W8.cell? ⟨B, 0, none⟩ = some (.slice (some ⟨g, 0, none⟩) N.length c) := hN8.bcell.1
    clear HX HW7 HSz
    go_upto_region 8 with fail
    go_cut [10] from 36 (fun v10 wx => ∃ M gs gd gz : Nat, v10 = .pointer (some ⟨M, 0, none⟩) ∧ Hid (Mes W8 wx M gs gd gz N.length (fun _ => 0) (fun _ => 0) (fun _ => 0)))
    case first =>
      obtain ⟨i0, hi, hz0, hz1, hz2⟩ := info_parts Try.info3
      obtain ⟨Zc, hZc⟩ : ∃ M, M = madeCells (Value.int .i64 0).cells (((N.length : Nat) : Int).toNat * i0.size) := ⟨_, rfl⟩
      have hZs : Zc.size = N.length := by rw [hZc, size_madeCells, hz1]; simp
      have hZz : ∀ i, i < N.length → Zc[i]? = some (.int .i64 0) := fun i hi => by
        have e : Zc.toList = List.replicate N.length (.int .i64 0) := by
          rw [hZc, hz1, show (Value.int .i64 0).cells = #[Value.int .i64 0] from rfl]
          have := toList_madeCells_one (.int .i64 0) N.length
          simpa using this
        have e2 : Zc.toList[i]? = some (.int .i64 0) := by rw [e]; simp [hi]
        simpa using e2
      have hmk : ∀ W : World, (Instr.makeSlice 59 (.int .i64 (N.length : Int)) (.int .i64 (N.length : Int))).run Try.prog W = .ok (.slice (some ⟨W.heap.size, 0, none⟩) N.length N.length) (W.alloc (.cells Zc 3)) := fun W => by
        have hl := HNl.out
        have h := run_make (P := Try.prog) W 59 3 i0 (.int .i64 0) Try.underlying59 hi hz0 .i64 .i64 (N.length : Int) (N.length : Int) (by omega) (by omega) (by rw [hz2]; omega) (by omega)
        rw [← hZc] at h
        simpa using h
      clear hZc
      obtain ⟨Wd, hWd⟩ : ∃ X, W8.drew = X := ⟨_, rfl⟩
      have hd : Below W8.heap.size W8 Wd := by rw [← hWd]; exact (Below.refl _ W8).drew
      have HMes : Hid (∀ gs gd gz : Nat, Wd.heap.size ≤ gs ∧ gs < Wd.heap.size + 3 → Wd.heap.size ≤ gd ∧ gd < Wd.heap.size + 3 → Wd.heap.size ≤ gz ∧ gz < Wd.heap.size + 3 → gs ≠ gd ∧ gs ≠ gz ∧ gd ≠ gz → Mes W8 ((((Wd.alloc (.cells Zc 3)).alloc (.cells Zc 3)).alloc (.cells Zc 3)).alloc (.cells #[.slice (some ⟨gs, 0, none⟩) N.length N.length, .slice (some ⟨gd, 0, none⟩) N.length N.length, .slice (some ⟨gz, 0, none⟩) N.length N.length] 61)) (Wd.heap.size + 3) gs gd gz N.length (fun _ => 0) (fun _ => 0) (fun _ => 0)) := fun gs gd gz h1 h2 h3 h4 => mes_make hd hZs hZz h1 h2 h3 h4
      have HBw : Hid (∀ bl : Obj, Below W8.heap.size W8 (Wd.alloc (.cells Zc 3)) ∧ Below W8.heap.size W8 ((Wd.alloc (.cells Zc 3)).alloc (.cells Zc 3)) ∧ Below W8.heap.size W8 (((Wd.alloc (.cells Zc 3)).alloc (.cells Zc 3)).alloc (.cells Zc 3)) ∧ Below W8.heap.size W8 ((((Wd.alloc (.cells Zc 3)).alloc (.cells Zc 3)).alloc (.cells Zc 3)).alloc bl)) := fun bl => by
        have b1 := hd.alloc hd.size (.cells Zc 3)
        have b2 := b1.alloc b1.size (.cells Zc 3)
        have b3 := b2.alloc b2.size (.cells Zc 3)
        exact ⟨b1, b2, b3, b3.alloc b3.size bl⟩
      clear hbc
      refine wp_region_held_drew (S := fun Z => Below W8.heap.size W8 Z) (by kernel_rfl) (by rw [hWd]; exact hd) (fun hHeld => ?_)
      rw [hWd] at hHeld ⊢
      clear hd hZs hZz
      refine take_mk 0 (.pointer (some ⟨B, 0, none⟩)) rfl (by kernel_rfl) (by kernel_rfl) (by kernel_rfl) (fun _ _ _ h => h) (Or.inl ⟨by rfl, fun Z hZ => by go_simp⟩) (by assumption) ?_
      try simp only [Act.put, List.setIfInBounds_toArray, List.set_cons_zero, List.set_cons_succ]
      refine take_mk 1 (.pointer (some ⟨B, 0, none⟩)) rfl (by kernel_rfl) (by kernel_rfl) (by kernel_rfl) (fun _ _ _ h => h) (Or.inl ⟨by rfl, fun Z hZ => by go_simp⟩) (by assumption) ?_
      try simp only [Act.put, List.setIfInBounds_toArray, List.set_cons_zero, List.set_cons_succ]
      refine take_mk 2 (.pointer (some ⟨B, 0, none⟩)) rfl (by kernel_rfl) (by kernel_rfl) (by kernel_rfl) (fun _ _ _ h => h) (Or.inl ⟨by rfl, fun Z hZ => by go_simp⟩) (by assumption) ?_
      try simp only [Act.put, List.setIfInBounds_toArray, List.set_cons_zero, List.set_cons_succ]
      refine take_mk 3 (.slice (some ⟨g, 0, none⟩) N.length c) rfl (by kernel_rfl) (by kernel_rfl) (by kernel_rfl) (fun _ _ _ h => h) (Or.inl ⟨by rfl, fun Z hZ => by have y := (HN.out Z hZ).bcell.1; go_simp⟩) (by assumption) ?_
      try simp only [Act.put, List.setIfInBounds_toArray, List.set_cons_zero, List.set_cons_succ]
      refine take_mk 4 (.int .i64 (N.length : Nat)) rfl (by kernel_rfl) (by kernel_rfl) (by kernel_rfl) (fun _ _ _ h => h) (Or.inl ⟨by rfl, fun Z hZ => by go_simp⟩) (by assumption) ?_
      try simp only [Act.put, List.setIfInBounds_toArray, List.set_cons_zero, List.set_cons_succ]
      refine take_mk 6 (.pointer (some ⟨B, 0, none⟩)) rfl (by kernel_rfl) (by kernel_rfl) (by kernel_rfl) (fun _ _ _ h => h) (Or.inl ⟨by rfl, fun Z hZ => by go_simp⟩) (by assumption) ?_
      try simp only [Act.put, List.setIfInBounds_toArray, List.set_cons_zero, List.set_cons_succ]
      refine take_mk 7 (.pointer (some ⟨B, 0, none⟩)) rfl (by kernel_rfl) (by kernel_rfl) (by kernel_rfl) (fun _ _ _ h => h) (Or.inl ⟨by rfl, fun Z hZ => by go_simp⟩) (by assumption) ?_
      try simp only [Act.put, List.setIfInBounds_toArray, List.set_cons_zero, List.set_cons_succ]
      refine take_mk 8 (.pointer (some ⟨B, 0, none⟩)) rfl (by kernel_rfl) (by kernel_rfl) (by kernel_rfl) (fun _ _ _ h => h) (Or.inl ⟨by rfl, fun Z hZ => by go_simp⟩) (by assumption) ?_
      try simp only [Act.put, List.setIfInBounds_toArray, List.set_cons_zero, List.set_cons_succ]
      refine take_mk 9 (.slice (some ⟨g, 0, none⟩) N.length c) rfl (by kernel_rfl) (by kernel_rfl) (by kernel_rfl) (fun _ _ _ h => h) (Or.inl ⟨by rfl, fun Z hZ => by have y := (HN.out Z hZ).bcell.1; go_simp⟩) (by assumption) ?_
      try simp only [Act.put, List.setIfInBounds_toArray, List.set_cons_zero, List.set_cons_succ]
      refine take_mk 10 (.int .i64 (N.length : Nat)) rfl (by kernel_rfl) (by kernel_rfl) (by kernel_rfl) (fun _ _ _ h => h) (Or.inl ⟨by rfl, fun Z hZ => by go_simp⟩) (by assumption) ?_
      try simp only [Act.put, List.setIfInBounds_toArray, List.set_cons_zero, List.set_cons_succ]
      refine take_mk 12 (.pointer (some ⟨B, 0, none⟩)) rfl (by kernel_rfl) (by kernel_rfl) (by kernel_rfl) (fun _ _ _ h => h) (Or.inl ⟨by rfl, fun Z hZ => by go_simp⟩) (by assumption) ?_
      try simp only [Act.put, List.setIfInBounds_toArray, List.set_cons_zero, List.set_cons_succ]
      refine take_mk 13 (.pointer (some ⟨B, 0, none⟩)) rfl (by kernel_rfl) (by kernel_rfl) (by kernel_rfl) (fun _ _ _ h => h) (Or.inl ⟨by rfl, fun Z hZ => by go_simp⟩) (by assumption) ?_
      try simp only [Act.put, List.setIfInBounds_toArray, List.set_cons_zero, List.set_cons_succ]
      refine take_mk 14 (.pointer (some ⟨B, 0, none⟩)) rfl (by kernel_rfl) (by kernel_rfl) (by kernel_rfl) (fun _ _ _ h => h) (Or.inl ⟨by rfl, fun Z hZ => by go_simp⟩) (by assumption) ?_
      try simp only [Act.put, List.setIfInBounds_toArray, List.set_cons_zero, List.set_cons_succ]
      refine take_mk 15 (.slice (some ⟨g, 0, none⟩) N.length c) rfl (by kernel_rfl) (by kernel_rfl) (by kernel_rfl) (fun _ _ _ h => h) (Or.inl ⟨by rfl, fun Z hZ => by have y := (HN.out Z hZ).bcell.1; go_simp⟩) (by assumption) ?_
      try simp only [Act.put, List.setIfInBounds_toArray, List.set_cons_zero, List.set_cons_succ]
      refine take_mk 16 (.int .i64 (N.length : Nat)) rfl (by kernel_rfl) (by kernel_rfl) (by kernel_rfl) (fun _ _ _ h => h) (Or.inl ⟨by rfl, fun Z hZ => by go_simp⟩) (by assumption) ?_
      try simp only [Act.put, List.setIfInBounds_toArray, List.set_cons_zero, List.set_cons_succ]
      refine wpAnyH_ready (rs := [5, 11, 17]) (by kernel_rfl) (by simp) (AllReadyH.cons (o := ⟨_, _, _, _, _, _⟩) rfl (fun K hK => ?_) (AllReadyH.cons (o := ⟨_, _, _, _, _, _⟩) rfl (fun K hK => ?_) (AllReadyH.cons (o := ⟨_, _, _, _, _, _⟩) rfl (fun K hK => ?_) AllReadyH.nil)))
      · rw [if_pos (by rfl)]
        go_simp
        have hq := (HBw.out (.cells #[] 0)).1
        refine hK.out _ _ hq (fun _ => ?_)
        clear hK K
        try simp only [Act.put, List.setIfInBounds_toArray, List.set_cons_zero, List.set_cons_succ]
        refine wpAnyH_ready (rs := [11, 17]) (by kernel_rfl) (by simp) (AllReadyH.cons (o := ⟨_, _, _, _, _, _⟩) rfl (fun K hK => ?_) (AllReadyH.cons (o := ⟨_, _, _, _, _, _⟩) rfl (fun K hK => ?_) AllReadyH.nil))
        · rw [if_pos (by rfl)]
          go_simp
          have hq := (HBw.out (.cells #[] 0)).2.1
          refine hK.out _ _ hq (fun _ => ?_)
          clear hK K
          try simp only [Act.put, List.setIfInBounds_toArray, List.set_cons_zero, List.set_cons_succ]
          refine wpAnyH_ready (rs := [17]) (by kernel_rfl) (by simp) (AllReadyH.cons (o := ⟨_, _, _, _, _, _⟩) rfl (fun K hK => ?_) AllReadyH.nil)
          rw [if_pos (by rfl)]
          go_simp
          have hq := (HBw.out (.cells #[] 0)).2.2.1
          refine hK.out _ _ hq (fun _ => ?_)
          clear hK K
          try simp only [Act.put, List.setIfInBounds_toArray, List.set_cons_zero, List.set_cons_succ]
          refine take_mk 18 (.agg #[.slice (some ⟨Wd.heap.size, 0, none⟩) N.length N.length, .slice (some ⟨Wd.heap.size + 1, 0, none⟩) N.length N.length, .slice (some ⟨Wd.heap.size + 2, 0, none⟩) N.length N.length]) rfl (by kernel_rfl) (by kernel_rfl) (by kernel_rfl) (fun _ _ _ h => h) (Or.inl ⟨by rfl, fun Z hZ => by go_simp⟩) (by assumption) ?_
          try simp only [Act.put, List.setIfInBounds_toArray, List.set_cons_zero, List.set_cons_succ]
          refine wpAnyH_ready (rs := [19]) (by kernel_rfl) (by simp) (AllReadyH.cons (o := ⟨_, _, _, _, _, _⟩) rfl (fun K hK => ?_) AllReadyH.nil)
          rw [if_pos (by rfl)]
          go_simp
          have hq := (HBw.out (.cells #[.slice (some ⟨Wd.heap.size, 0, none⟩) N.length N.length, .slice (some ⟨Wd.heap.size + 1, 0, none⟩) N.length N.length, .slice (some ⟨Wd.heap.size + 2, 0, none⟩) N.length N.length] 61)).2.2.2
          refine hK.out _ _ hq (fun _ => ?_)
          clear hK K
          try simp only [Act.put, List.setIfInBounds_toArray, List.set_cons_zero, List.set_cons_succ]
          refine take_mk 20 (.pointer (some ⟨Wd.heap.size + 3, 0, none⟩)) rfl (by kernel_rfl) (by kernel_rfl) (by kernel_rfl) (fun _ _ _ h => h) (Or.inl ⟨by rfl, fun Z hZ => by go_simp⟩) (by assumption) ?_
          try simp only [Act.put, List.setIfInBounds_toArray, List.set_cons_zero, List.set_cons_succ]
          refine wpAnyH_done (by kernel_rfl) ?_ _
          try simp only [Act.put]
          go_wp2
          go_meet
          exact ⟨_, Wd.heap.size, Wd.heap.size + 1, Wd.heap.size + 2, rfl, HMes.out _ _ _ (by omega) (by omega) (by omega) (by omega)⟩
        · rw [if_pos (by rfl)]
          go_simp
          have hq := (HBw.out (.cells #[] 0)).2.1
          refine hK.out _ _ hq (fun _ => ?_)
          clear hK K
          try simp only [Act.put, List.setIfInBounds_toArray, List.set_cons_zero, List.set_cons_succ]
          refine wpAnyH_ready (rs := [11]) (by kernel_rfl) (by simp) (AllReadyH.cons (o := ⟨_, _, _, _, _, _⟩) rfl (fun K hK => ?_) AllReadyH.nil)
          rw [if_pos (by rfl)]
          go_simp
          have hq := (HBw.out (.cells #[] 0)).2.2.1
          refine hK.out _ _ hq (fun _ => ?_)
          clear hK K
          try simp only [Act.put, List.setIfInBounds_toArray, List.set_cons_zero, List.set_cons_succ]
          refine take_mk 18 (.agg #[.slice (some ⟨Wd.heap.size, 0, none⟩) N.length N.length, .slice (some ⟨Wd.heap.size + 2, 0, none⟩) N.length N.length, .slice (some ⟨Wd.heap.size + 1, 0, none⟩) N.length N.length]) rfl (by kernel_rfl) (by kernel_rfl) (by kernel_rfl) (fun _ _ _ h => h) (Or.inl ⟨by rfl, fun Z hZ => by go_simp⟩) (by assumption) ?_
          try simp only [Act.put, List.setIfInBounds_toArray, List.set_cons_zero, List.set_cons_succ]
          refine wpAnyH_ready (rs := [19]) (by kernel_rfl) (by simp) (AllReadyH.cons (o := ⟨_, _, _, _, _, _⟩) rfl (fun K hK => ?_) AllReadyH.nil)
          rw [if_pos (by rfl)]
          go_simp
          have hq := (HBw.out (.cells #[.slice (some ⟨Wd.heap.size, 0, none⟩) N.length N.length, .slice (some ⟨Wd.heap.size + 2, 0, none⟩) N.length N.length, .slice (some ⟨Wd.heap.size + 1, 0, none⟩) N.length N.length] 61)).2.2.2
          refine hK.out _ _ hq (fun _ => ?_)
          clear hK K
          try simp only [Act.put, List.setIfInBounds_toArray, List.set_cons_zero, List.set_cons_succ]
          refine take_mk 20 (.pointer (some ⟨Wd.heap.size + 3, 0, none⟩)) rfl (by kernel_rfl) (by kernel_rfl) (by kernel_rfl) (fun _ _ _ h => h) (Or.inl ⟨by rfl, fun Z hZ => by go_simp⟩) (by assumption) ?_
          try simp only [Act.put, List.setIfInBounds_toArray, List.set_cons_zero, List.set_cons_succ]
          refine wpAnyH_done (by kernel_rfl) ?_ _
          try simp only [Act.put]
          go_wp2
          go_meet
          exact ⟨_, Wd.heap.size, Wd.heap.size + 2, Wd.heap.size + 1, rfl, HMes.out _ _ _ (by omega) (by omega) (by omega) (by omega)⟩
      · rw [if_pos (by rfl)]
        go_simp
        have hq := (HBw.out (.cells #[] 0)).1
        refine hK.out _ _ hq (fun _ => ?_)
        clear hK K
        try simp only [Act.put, List.setIfInBounds_toArray, List.set_cons_zero, List.set_cons_succ]
        refine wpAnyH_ready (rs := [5, 17]) (by kernel_rfl) (by simp) (AllReadyH.cons (o := ⟨_, _, _, _, _, _⟩) rfl (fun K hK => ?_) (AllReadyH.cons (o := ⟨_, _, _, _, _, _⟩) rfl (fun K hK => ?_) AllReadyH.nil))
        · rw [if_pos (by rfl)]
          go_simp
          have hq := (HBw.out (.cells #[] 0)).2.1
          refine hK.out _ _ hq (fun _ => ?_)
          clear hK K
          try simp only [Act.put, List.setIfInBounds_toArray, List.set_cons_zero, List.set_cons_succ]
          refine wpAnyH_ready (rs := [17]) (by kernel_rfl) (by simp) (AllReadyH.cons (o := ⟨_, _, _, _, _, _⟩) rfl (fun K hK => ?_) AllReadyH.nil)
          rw [if_pos (by rfl)]
          go_simp
          have hq := (HBw.out (.cells #[] 0)).2.2.1
          refine hK.out _ _ hq (fun _ => ?_)
          clear hK K
          try simp only [Act.put, List.setIfInBounds_toArray, List.set_cons_zero, List.set_cons_succ]
          refine take_mk 18 (.agg #[.slice (some ⟨Wd.heap.size + 1, 0, none⟩) N.length N.length, .slice (some ⟨Wd.heap.size, 0, none⟩) N.length N.length, .slice (some ⟨Wd.heap.size + 2, 0, none⟩) N.length N.length]) rfl (by kernel_rfl) (by kernel_rfl) (by kernel_rfl) (fun _ _ _ h => h) (Or.inl ⟨by rfl, fun Z hZ => by go_simp⟩) (by assumption) ?_
          try simp only [Act.put, List.setIfInBounds_toArray, List.set_cons_zero, List.set_cons_succ]
          refine wpAnyH_ready (rs := [19]) (by kernel_rfl) (by simp) (AllReadyH.cons (o := ⟨_, _, _, _, _, _⟩) rfl (fun K hK => ?_) AllReadyH.nil)
          rw [if_pos (by rfl)]
          go_simp
          have hq := (HBw.out (.cells #[.slice (some ⟨Wd.heap.size + 1, 0, none⟩) N.length N.length, .slice (some ⟨Wd.heap.size, 0, none⟩) N.length N.length, .slice (some ⟨Wd.heap.size + 2, 0, none⟩) N.length N.length] 61)).2.2.2
          refine hK.out _ _ hq (fun _ => ?_)
          clear hK K
          try simp only [Act.put, List.setIfInBounds_toArray, List.set_cons_zero, List.set_cons_succ]
          refine take_mk 20 (.pointer (some ⟨Wd.heap.size + 3, 0, none⟩)) rfl (by kernel_rfl) (by kernel_rfl) (by kernel_rfl) (fun _ _ _ h => h) (Or.inl ⟨by rfl, fun Z hZ => by go_simp⟩) (by assumption) ?_
          try simp only [Act.put, List.setIfInBounds_toArray, List.set_cons_zero, List.set_cons_succ]
          refine wpAnyH_done (by kernel_rfl) ?_ _
          try simp only [Act.put]
          go_wp2
          go_meet
          exact ⟨_, Wd.heap.size + 1, Wd.heap.size, Wd.heap.size + 2, rfl, HMes.out _ _ _ (by omega) (by omega) (by omega) (by omega)⟩
        · rw [if_pos (by rfl)]
          go_simp
          have hq := (HBw.out (.cells #[] 0)).2.1
          refine hK.out _ _ hq (fun _ => ?_)
          clear hK K
          try simp only [Act.put, List.setIfInBounds_toArray, List.set_cons_zero, List.set_cons_succ]
          refine wpAnyH_ready (rs := [5]) (by kernel_rfl) (by simp) (AllReadyH.cons (o := ⟨_, _, _, _, _, _⟩) rfl (fun K hK => ?_) AllReadyH.nil)
          rw [if_pos (by rfl)]
          go_simp
          have hq := (HBw.out (.cells #[] 0)).2.2.1
          refine hK.out _ _ hq (fun _ => ?_)
          clear hK K
          try simp only [Act.put, List.setIfInBounds_toArray, List.set_cons_zero, List.set_cons_succ]
          refine take_mk 18 (.agg #[.slice (some ⟨Wd.heap.size + 2, 0, none⟩) N.length N.length, .slice (some ⟨Wd.heap.size, 0, none⟩) N.length N.length, .slice (some ⟨Wd.heap.size + 1, 0, none⟩) N.length N.length]) rfl (by kernel_rfl) (by kernel_rfl) (by kernel_rfl) (fun _ _ _ h => h) (Or.inl ⟨by rfl, fun Z hZ => by go_simp⟩) (by assumption) ?_
          try simp only [Act.put, List.setIfInBounds_toArray, List.set_cons_zero, List.set_cons_succ]
          refine wpAnyH_ready (rs := [19]) (by kernel_rfl) (by simp) (AllReadyH.cons (o := ⟨_, _, _, _, _, _⟩) rfl (fun K hK => ?_) AllReadyH.nil)
          rw [if_pos (by rfl)]
          go_simp
          have hq := (HBw.out (.cells #[.slice (some ⟨Wd.heap.size + 2, 0, none⟩) N.length N.length, .slice (some ⟨Wd.heap.size, 0, none⟩) N.length N.length, .slice (some ⟨Wd.heap.size + 1, 0, none⟩) N.length N.length] 61)).2.2.2
          refine hK.out _ _ hq (fun _ => ?_)
          clear hK K
          try simp only [Act.put, List.setIfInBounds_toArray, List.set_cons_zero, List.set_cons_succ]
          refine take_mk 20 (.pointer (some ⟨Wd.heap.size + 3, 0, none⟩)) rfl (by kernel_rfl) (by kernel_rfl) (by kernel_rfl) (fun _ _ _ h => h) (Or.inl ⟨by rfl, fun Z hZ => by go_simp⟩) (by assumption) ?_
          try simp only [Act.put, List.setIfInBounds_toArray, List.set_cons_zero, List.set_cons_succ]
          refine wpAnyH_done (by kernel_rfl) ?_ _
          try simp only [Act.put]
          go_wp2
          go_meet
          exact ⟨_, Wd.heap.size + 2, Wd.heap.size, Wd.heap.size + 1, rfl, HMes.out _ _ _ (by omega) (by omega) (by omega) (by omega)⟩
      · rw [if_pos (by rfl)]
        go_simp
        have hq := (HBw.out (.cells #[] 0)).1
        refine hK.out _ _ hq (fun _ => ?_)
        clear hK K
        try simp only [Act.put, List.setIfInBounds_toArray, List.set_cons_zero, List.set_cons_succ]
        refine wpAnyH_ready (rs := [5, 11]) (by kernel_rfl) (by simp) (AllReadyH.cons (o := ⟨_, _, _, _, _, _⟩) rfl (fun K hK => ?_) (AllReadyH.cons (o := ⟨_, _, _, _, _, _⟩) rfl (fun K hK => ?_) AllReadyH.nil))
        · rw [if_pos (by rfl)]
          go_simp
          have hq := (HBw.out (.cells #[] 0)).2.1
          refine hK.out _ _ hq (fun _ => ?_)
          clear hK K
          try simp only [Act.put, List.setIfInBounds_toArray, List.set_cons_zero, List.set_cons_succ]
          refine wpAnyH_ready (rs := [11]) (by kernel_rfl) (by simp) (AllReadyH.cons (o := ⟨_, _, _, _, _, _⟩) rfl (fun K hK => ?_) AllReadyH.nil)
          rw [if_pos (by rfl)]
          go_simp
          have hq := (HBw.out (.cells #[] 0)).2.2.1
          refine hK.out _ _ hq (fun _ => ?_)
          clear hK K
          try simp only [Act.put, List.setIfInBounds_toArray, List.set_cons_zero, List.set_cons_succ]
          refine take_mk 18 (.agg #[.slice (some ⟨Wd.heap.size + 1, 0, none⟩) N.length N.length, .slice (some ⟨Wd.heap.size + 2, 0, none⟩) N.length N.length, .slice (some ⟨Wd.heap.size, 0, none⟩) N.length N.length]) rfl (by kernel_rfl) (by kernel_rfl) (by kernel_rfl) (fun _ _ _ h => h) (Or.inl ⟨by rfl, fun Z hZ => by go_simp⟩) (by assumption) ?_
          try simp only [Act.put, List.setIfInBounds_toArray, List.set_cons_zero, List.set_cons_succ]
          refine wpAnyH_ready (rs := [19]) (by kernel_rfl) (by simp) (AllReadyH.cons (o := ⟨_, _, _, _, _, _⟩) rfl (fun K hK => ?_) AllReadyH.nil)
          rw [if_pos (by rfl)]
          go_simp
          have hq := (HBw.out (.cells #[.slice (some ⟨Wd.heap.size + 1, 0, none⟩) N.length N.length, .slice (some ⟨Wd.heap.size + 2, 0, none⟩) N.length N.length, .slice (some ⟨Wd.heap.size, 0, none⟩) N.length N.length] 61)).2.2.2
          refine hK.out _ _ hq (fun _ => ?_)
          clear hK K
          try simp only [Act.put, List.setIfInBounds_toArray, List.set_cons_zero, List.set_cons_succ]
          refine take_mk 20 (.pointer (some ⟨Wd.heap.size + 3, 0, none⟩)) rfl (by kernel_rfl) (by kernel_rfl) (by kernel_rfl) (fun _ _ _ h => h) (Or.inl ⟨by rfl, fun Z hZ => by go_simp⟩) (by assumption) ?_
          try simp only [Act.put, List.setIfInBounds_toArray, List.set_cons_zero, List.set_cons_succ]
          refine wpAnyH_done (by kernel_rfl) ?_ _
          try simp only [Act.put]
          go_wp2
          go_meet
          exact ⟨_, Wd.heap.size + 1, Wd.heap.size + 2, Wd.heap.size, rfl, HMes.out _ _ _ (by omega) (by omega) (by omega) (by omega)⟩
        · rw [if_pos (by rfl)]
          go_simp
          have hq := (HBw.out (.cells #[] 0)).2.1
          refine hK.out _ _ hq (fun _ => ?_)
          clear hK K
          try simp only [Act.put, List.setIfInBounds_toArray, List.set_cons_zero, List.set_cons_succ]
          refine wpAnyH_ready (rs := [5]) (by kernel_rfl) (by simp) (AllReadyH.cons (o := ⟨_, _, _, _, _, _⟩) rfl (fun K hK => ?_) AllReadyH.nil)
          rw [if_pos (by rfl)]
          go_simp
          have hq := (HBw.out (.cells #[] 0)).2.2.1
          refine hK.out _ _ hq (fun _ => ?_)
          clear hK K
          try simp only [Act.put, List.setIfInBounds_toArray, List.set_cons_zero, List.set_cons_succ]
          refine take_mk 18 (.agg #[.slice (some ⟨Wd.heap.size + 2, 0, none⟩) N.length N.length, .slice (some ⟨Wd.heap.size + 1, 0, none⟩) N.length N.length, .slice (some ⟨Wd.heap.size, 0, none⟩) N.length N.length]) rfl (by kernel_rfl) (by kernel_rfl) (by kernel_rfl) (fun _ _ _ h => h) (Or.inl ⟨by rfl, fun Z hZ => by go_simp⟩) (by assumption) ?_
          try simp only [Act.put, List.setIfInBounds_toArray, List.set_cons_zero, List.set_cons_succ]
          refine wpAnyH_ready (rs := [19]) (by kernel_rfl) (by simp) (AllReadyH.cons (o := ⟨_, _, _, _, _, _⟩) rfl (fun K hK => ?_) AllReadyH.nil)
          rw [if_pos (by rfl)]
          go_simp
          have hq := (HBw.out (.cells #[.slice (some ⟨Wd.heap.size + 2, 0, none⟩) N.length N.length, .slice (some ⟨Wd.heap.size + 1, 0, none⟩) N.length N.length, .slice (some ⟨Wd.heap.size, 0, none⟩) N.length N.length] 61)).2.2.2
          refine hK.out _ _ hq (fun _ => ?_)
          clear hK K
          try simp only [Act.put, List.setIfInBounds_toArray, List.set_cons_zero, List.set_cons_succ]
          refine take_mk 20 (.pointer (some ⟨Wd.heap.size + 3, 0, none⟩)) rfl (by kernel_rfl) (by kernel_rfl) (by kernel_rfl) (fun _ _ _ h => h) (Or.inl ⟨by rfl, fun Z hZ => by go_simp⟩) (by assumption) ?_
          try simp only [Act.put, List.setIfInBounds_toArray, List.set_cons_zero, List.set_cons_succ]
          refine wpAnyH_done (by kernel_rfl) ?_ _
          try simp only [Act.put]
          go_wp2
          go_meet
          exact ⟨_, Wd.heap.size + 2, Wd.heap.size + 1, Wd.heap.size, rfl, HMes.out _ _ _ (by omega) (by omega) (by omega) (by omega)⟩
    case rest =>
      obtain ⟨M, gs, gd, gz, rfl, HM0⟩ := hcut
      have b0 := HM0.out.bel
      have hc0 : wc.cell? ⟨B, 0, none⟩ = some (.slice (some ⟨g, 0, none⟩) N.length c) := (HN.out wc b0).bcell.1
      clear b0 hbc
      go_wp2
      go_loopw [11] (fun vi wr => ∃ i : Nat, vi = .int .i64 i ∧ i ≤ N.length ∧ Hid (∃ st dp sz, Mes W8 wr M gs gd gz N.length st dp sz ∧ Kn N ρ st dp sz ∧ (∀ j, st j ≠ 1) ∧ ∀ j, j < i → st (ρ j) = 2)) (fun vi _ => N.length - (intOf vi).toNat)
      case atStart => exact ⟨0, rfl, Nat.zero_le _, _, _, _, HM0.out, fun i _ h => absurd h (by simp), fun _ => (by simp), fun j hj => absurd hj (by omega)⟩
      case round =>
        obtain ⟨i, rfl, hi, st, dp, sz, hM, hO, h1s, hst⟩ := hrel
        have hcr : wr.cell? ⟨B, 0, none⟩ = some (.slice (some ⟨g, 0, none⟩) N.length c) := (HN.out wr hM.bel).bcell.1
        have HNl' := HNl.out
        by_cases hlt : i < N.length
        · have hiI : (i : Int) < (N.length : Int) := by omega
          have hask := ask_any (HN.out W8 (Below.refl _ _)) HU.out HT.out (zeros st N.length + 1) st dp sz wr i (Nat.lt_succ_self _) hM hlt
          have HO : Hid (Kn N ρ st dp sz ∧ ∀ j, st j ≠ 1) := ⟨hO, h1s⟩
          have HSt : Hid (∀ j, j < i → st (ρ j) = 2) := hst
          clear hM hO h1s hst HM0
          go_wp2_with fail
          refine hask.mono ?_
          rintro e W9 ⟨z, st', dp', sz', rfl, hM9, hO9, hz9, hn9⟩
          have HB9 : Hid (Below W.heap.size W W9) := HW8.out.trans (hM9.bel.mono HW8.out.size)
          cases z
          · have HNo : Hid (∀ θ, p.app θ ≠ t.app θ) := fun θ hθ => by
              cases hn9 _ (HSv.out.rank hθ) (fun j hj => absurd hj (HO.out.2 j))
            clear hz9 hn9 hM9 hO9 hask
            go_wp2
            refine bodyPost_ret (v := .tuple #[.slice none 0 0, .bool false, .int .i64 0]) (by simp [results, Try.results10, go_sem]) rfl ?_
            exact ⟨.inr (.inl ⟨HRt.out, HNo.out, rfl⟩), HB9.out⟩
          · obtain ⟨z1, z1b, z2, z3⟩ := hz9 rfl
            have HN9 : Hid (∃ st dp sz, Mes W8 W9 M gs gd gz N.length st dp sz ∧ Kn N ρ st dp sz ∧ (∀ j, st j ≠ 1) ∧ ∀ j, j < i + 1 → st (ρ j) = 2) := ⟨st', dp', sz', hM9, z3 HO.out.1, fun j hj => HO.out.2 j (z1b j hj), fun j hj => by
              by_cases e : j = i
              · subst e; exact z2
              · have h1 := HSt.out j (by omega)
                rw [z1 _ (by rw [h1]; decide), h1]⟩
            clear hM9 hO9 hz9 hn9 z1 z1b z2 z3 hask hcr
            go_wp2
            go_roundw
            case rel => exact ⟨i + 1, by go_num, by omega, HN9.out⟩
            case measure => simp [intOf]; omega
        · have hiI : ¬ (i : Int) < (N.length : Int) := by omega
          have hall : ∀ j, j < N.length → st (ρ j) = 2 := fun j hj => hst j (by omega)
          have HKn : Hid (∀ i, i < N.length → ∃ t, Bn N ρ i t ∧ dp (ρ i) = t.depth ∧ sz (ρ i) = min t.size 1000000) := kn_built HT.out.idem HT.out.lt hO hall
          have hA : ∀ i, i < N.length → ∃ t, Bn N ρ i t := fun i hi => by obtain ⟨t, h1, _⟩ := HKn.out i hi; exact ⟨t, h1⟩
          obtain ⟨f, hf⟩ := built_order HT.out.idem HT.out.lt HSv.out.lt hA
          have HF : Hid (∀ (q : Nat) (d : Nd), N[q]? = some d → ρ q = q → ∀ x ∈ d.args, f (ρ x) < f q) := hf
          obtain ⟨τ, hτ⟩ := HSv.out.tau
          have HTau : Hid (TauN N ρ τ ∧ Mgu p t τ) := ⟨hτ, HSv.out.mgu HPre.out.hx HPre.out.hy hA hτ⟩
          clear hA hf hτ hO h1s
          obtain ⟨W9, h9⟩ : ∃ X, wr = X := ⟨_, rfl⟩
          subst h9
          have HM9 : Hid (∀ Z, Below wr.heap.size wr Z → Mes W8 Z M gs gd gz N.length st dp sz) := fun Z hZ => hM.keep hZ
          have HB8 : Hid (Below W8.heap.size W8 wr) := hM.bel
          clear hM hst hall HM0 hlt
          go_wp2
          go_loopw [12, 13] (fun vo vi wz => ∃ (i : Nat) (oa : Option Addr) (n oc : Nat), vi = .int .i64 i ∧ vo = .slice oa n oc ∧ i ≤ N.length ∧ Hid (∃ l : List Bd, l.length = n ∧ BindsAt wz (.slice oa n oc) l ∧ n ≤ i ∧ Below W8.heap.size W8 wz ∧ Mes W8 wz M gs gd gz N.length st dp sz ∧ Lst N ρ i l)) (fun _ vi _ => N.length - (intOf vi).toNat)
          case atStart => exact ⟨0, none, 0, 0, rfl, rfl, Nat.zero_le _, [], rfl, ⟨none, 0, rfl, Nat.le_refl _, by decide, fun h => absurd h (by simp)⟩, Nat.le_refl _, HB8.out, HM9.out _ (Below.refl _ _), Lst.start N ρ⟩
          case round =>
            obtain ⟨i, oa, n, oc, rfl, rfl, hi, l, hln, hBi, hnl, hb8, hMz, hLs⟩ := hrel
            clear HM9 HB8 hcr
            have hN8' := HN.out wr hb8
            have hcr : wr.cell? ⟨B, 0, none⟩ = some (.slice (some ⟨g, 0, none⟩) N.length c) := hN8'.bcell.1
            have HI : Hid (BindsAt wr (.slice oa n oc) l ∧ l.length = n ∧ n ≤ i ∧ Below W8.heap.size W8 wr ∧ Mes W8 wr M gs gd gz N.length st dp sz) := ⟨hBi, hln, hnl, hb8, hMz⟩
            have HLs : Hid (Lst N ρ i l) := hLs
            clear hLs
            by_cases hlt : i < N.length
            · have hiI : (i : Int) < (N.length : Int) := by omega
              have hi0 : (0 : Int) ≤ (i : Int) := by omega
              have htop := top_any wr hN8' HU.out i hlt
              have hρ := HT.out.lt i hlt
              obtain ⟨k, hk⟩ : ∃ k, ρ i = k := ⟨_, rfl⟩
              rw [hk] at htop hρ
              have HK : Hid (ρ i = k) := hk
              have HLt : Hid (i < N.length) := hlt
              clear hBi hln hb8 hMz hN8' hk hlt
              go_wp2_with fail
              refine htop.mono ?_
              rintro e W10 ⟨rfl, b10⟩
              have hb10 : Below W8.heap.size W8 W10 := HI.out.2.2.2.1.trans (b10.mono HI.out.2.2.2.1.size)
              have hN10 := HN.out W10 hb10
              have hc10 : W10.cell? ⟨B, 0, none⟩ = some (.slice (some ⟨g, 0, none⟩) N.length c) := hN10.bcell.1
              have hM10 := HI.out.2.2.2.2.keep b10
              obtain ⟨d0, d1, _, _⟩ := hN10.cells HLt.out
              obtain ⟨d, hd⟩ : ∃ d, N[i]'HLt.out = d := ⟨_, rfl⟩
              rw [hd] at d0 d1
              have HI10 : Hid (BindsAt W10 (.slice oa n oc) l ∧ Below W8.heap.size W8 W10 ∧ Mes W8 W10 M gs gd gz N.length st dp sz) := ⟨HI.out.1.keep b10, hb10, hM10⟩
              have HDi : Hid (N[i]? = some d) := by show _ = _; rw [List.getElem?_eq_getElem HLt.out, hd]
              have HNx0 : Hid (Lst N ρ (i + 1) l → ∃ l : List Bd, l.length = n ∧ BindsAt W10 (.slice oa n oc) l ∧ n ≤ i + 1 ∧ Below W8.heap.size W8 W10 ∧ Mes W8 W10 M gs gd gz N.length st dp sz ∧ Lst N ρ (i + 1) l) := fun hl => ⟨l, HI.out.2.1, HI10.out.1, by have := HI.out.2.2.1; omega, HI10.out.2.1, HI10.out.2.2, hl⟩
              obtain ⟨⟨m0, m1, m2⟩, _, ⟨m3, _⟩, m4, _⟩ := hM10.cells hρ
              obtain ⟨zd, hzd⟩ : ∃ z, dp k = z := ⟨_, rfl⟩
              obtain ⟨zz, hzz⟩ : ∃ z, sz k = z := ⟨_, rfl⟩
              rw [hzd] at m3
              rw [hzz] at m4
              have HZ : Hid (∃ w, Bn N ρ i w ∧ zd = w.depth ∧ zz = min w.size 1000000) := by
                obtain ⟨w, q1, q2, q3⟩ := HKn.out i HLt.out
                rw [HK.out, hzd] at q2
                rw [HK.out, hzz] at q3
                exact ⟨w, q1, q2, q3⟩
              clear hzd hzz
              clear htop hcr b10 hb10 hN10 hM10 hd
              by_cases hfe : d.fn.size = 0
              · have he : d.fn.toList.isEmpty = true := by rw [ba_isEmpty, hfe]; rfl
                by_cases hki : k = i
                · have hkb : ((k : Int) == (i : Int)) = true := by rw [beq_iff_eq]; omega
                  have HNx : Hid _ := HNx0.out (HLs.out.skip HDi.out (.inr (by rw [HK.out, hki])))
                  clear hki hfe
                  go_wp2
                  go_roundw
                  case rel => exact ⟨i + 1, oa, n, oc, by have := HLt.out; go_num, rfl, HLt.out, HNx.out⟩
                  case measure => have := HLt.out; simp [intOf]; omega
                · have hkb : ((k : Int) == (i : Int)) = false := by rw [beq_eq_false_iff_ne]; omega
                  have hkI : (k : Int) < (N.length : Int) := by omega
                  have hk0 : (0 : Int) ≤ (k : Int) := by omega
                  have HB10 : Hid (Below W.heap.size W W10) := HW8.out.trans (HI10.out.2.1.mono HW8.out.size)
                  have HSlf : Hid (d.fn.size = 0 ∧ ρ i ≠ i) := ⟨hfe, by rw [HK.out]; exact hki⟩
                  clear hki hfe HNx0
                  by_cases h60 : 60 < zd
                  · have HGr : Hid (∃ x t, τ x = some t ∧ ¬ (t.size ≤ 4000 ∧ t.depth ≤ 60)) := by
                      obtain ⟨w, q1, q2, q3⟩ := HZ.out
                      exact ⟨d.v, w, (HTau.out.1 d.v w).2 ⟨i, d, HDi.out, HSlf.out.1, rfl, q1⟩, fun h => by omega⟩
                    clear HI
                    go_wp2
                    refine bodyPost_ret (v := .tuple #[.slice none 0 0, .bool false, .int .i64 3]) (by simp [results, Try.results10, go_sem]) rfl ?_
                    exact ⟨.inr (.inr ⟨HRt.out, τ, HTau.out.2, .inl ⟨HGr.out, rfl⟩⟩), HB10.out⟩
                  · by_cases h4k : 4000 < zz
                    · have HGr : Hid (∃ x t, τ x = some t ∧ ¬ (t.size ≤ 4000 ∧ t.depth ≤ 60)) := by
                        obtain ⟨w, q1, q2, q3⟩ := HZ.out
                        exact ⟨d.v, w, (HTau.out.1 d.v w).2 ⟨i, d, HDi.out, HSlf.out.1, rfl, q1⟩, fun h => by omega⟩
                      clear HI
                      go_wp2
                      refine bodyPost_ret (v := .tuple #[.slice none 0 0, .bool false, .int .i64 3]) (by simp [results, Try.results10, go_sem]) rfl ?_
                      exact ⟨.inr (.inr ⟨HRt.out, τ, HTau.out.2, .inl ⟨HGr.out, rfl⟩⟩), HB10.out⟩
                    · have H60 : Hid (¬ 60 < zd ∧ ¬ 4000 < zz) := ⟨h60, h4k⟩
                      have hterm := fun Z (hZ : Below W8.heap.size W8 Z) => term_any (HN.out W8 (Below.refl _ _)) HU.out HT.out H16.out f HF.out (f (ρ k) + 1) k Z (Nat.lt_succ_self _) hρ hZ
                      obtain ⟨Wd, hWd⟩ : ∃ X, W10.drew = X := ⟨_, rfl⟩
                      have hdr : Below W10.heap.size W10 Wd := by rw [← hWd]; exact (Below.refl _ W10).drew
                      have HD : Hid (Below W10.heap.size W10 Wd ∧ Below W8.heap.size W8 Wd) := ⟨hdr, HI10.out.2.1.trans (hdr.mono HI10.out.2.1.size)⟩
                      have HX : Hid (∀ Z, Below W10.heap.size W10 Z → Z.cell? ⟨B, 0, none⟩ = some (.slice (some ⟨g, 0, none⟩) N.length c) ∧ Z.cell? ⟨g, i * 4, none⟩ = some (.int .i64 d.v)) := fun Z hZ => ⟨kc hZ (World.block_lt_of_cell? _ _ hc10) hc10, kc hZ (World.block_lt_of_cell? _ _ d0) d0⟩
                      clear hdr
                      go_wp2
                      refine wp_region_held_drew (S := fun Z => Below W10.heap.size W10 Z) (by kernel_rfl) (by rw [hWd]; exact HD.out.1) (fun hHeld => ?_)
                      rw [hWd] at hHeld ⊢
                      refine take_mk 0 (.slice oa n oc) rfl (by kernel_rfl) (by kernel_rfl) (by kernel_rfl) (fun _ _ _ h => h) (Or.inl ⟨by rfl, fun Z hZ => by go_simp⟩) (by assumption) ?_
                      try simp only [Act.put, List.setIfInBounds_toArray, List.set_cons_zero, List.set_cons_succ]
                      refine take_mk 1 (.pointer (some ⟨B, 0, none⟩)) rfl (by kernel_rfl) (by kernel_rfl) (by kernel_rfl) (fun _ _ _ h => h) (Or.inl ⟨by rfl, fun Z hZ => by go_simp⟩) (by assumption) ?_
                      try simp only [Act.put, List.setIfInBounds_toArray, List.set_cons_zero, List.set_cons_succ]
                      refine take_mk 2 (.pointer (some ⟨B, 0, none⟩)) rfl (by kernel_rfl) (by kernel_rfl) (by kernel_rfl) (fun _ _ _ h => h) (Or.inl ⟨by rfl, fun Z hZ => by go_simp⟩) (by assumption) ?_
                      try simp only [Act.put, List.setIfInBounds_toArray, List.set_cons_zero, List.set_cons_succ]
                      refine take_mk 3 (.pointer (some ⟨B, 0, none⟩)) rfl (by kernel_rfl) (by kernel_rfl) (by kernel_rfl) (fun _ _ _ h => h) (Or.inl ⟨by rfl, fun Z hZ => by go_simp⟩) (by assumption) ?_
                      try simp only [Act.put, List.setIfInBounds_toArray, List.set_cons_zero, List.set_cons_succ]
                      refine take_mk 4 (.slice (some ⟨g, 0, none⟩) N.length c) rfl (by kernel_rfl) (by kernel_rfl) (by kernel_rfl) (fun _ _ _ h => h) (Or.inl ⟨by rfl, fun Z hZ => by obtain ⟨y0, y1⟩ := HX.out Z hZ; go_simp⟩) (by assumption) ?_
                      try simp only [Act.put, List.setIfInBounds_toArray, List.set_cons_zero, List.set_cons_succ]
                      refine take_mk 5 (.int .i64 (i : Nat)) rfl (by kernel_rfl) (by kernel_rfl) (by kernel_rfl) (fun _ _ _ h => h) (Or.inl ⟨by rfl, fun Z hZ => by go_simp⟩) (by assumption) ?_
                      try simp only [Act.put, List.setIfInBounds_toArray, List.set_cons_zero, List.set_cons_succ]
                      refine take_mk 6 (.pointer (some ⟨g, i * 4, none⟩)) rfl (by kernel_rfl) (by kernel_rfl) (by kernel_rfl) (fun _ _ _ h => h) (Or.inl ⟨by rfl, fun Z hZ => by go_simp⟩) (by assumption) ?_
                      try simp only [Act.put, List.setIfInBounds_toArray, List.set_cons_zero, List.set_cons_succ]
                      refine take_mk 7 (.pointer (some ⟨g, i * 4, none⟩)) rfl (by kernel_rfl) (by kernel_rfl) (by kernel_rfl) (fun _ _ _ h => h) (Or.inl ⟨by rfl, fun Z hZ => by go_simp⟩) (by assumption) ?_
                      try simp only [Act.put, List.setIfInBounds_toArray, List.set_cons_zero, List.set_cons_succ]
                      refine take_mk 8 (.int .i64 d.v) rfl (by kernel_rfl) (by kernel_rfl) (by kernel_rfl) (fun _ _ _ h => h) (Or.inl ⟨by rfl, fun Z hZ => by obtain ⟨y0, y1⟩ := HX.out Z hZ; go_simp⟩) (by assumption) ?_
                      try simp only [Act.put, List.setIfInBounds_toArray, List.set_cons_zero, List.set_cons_succ]
                      refine take_mk 9 (.pointer (some ⟨B, 0, none⟩)) rfl (by kernel_rfl) (by kernel_rfl) (by kernel_rfl) (fun _ _ _ h => h) (Or.inl ⟨by rfl, fun Z hZ => by go_simp⟩) (by assumption) ?_
                      try simp only [Act.put, List.setIfInBounds_toArray, List.set_cons_zero, List.set_cons_succ]
                      refine take_mk 10 (.int .i64 (k : Nat)) rfl (by kernel_rfl) (by kernel_rfl) (by kernel_rfl) (fun _ _ _ h => h) (Or.inl ⟨by rfl, fun Z hZ => by go_simp⟩) (by assumption) ?_
                      try simp only [Act.put, List.setIfInBounds_toArray, List.set_cons_zero, List.set_cons_succ]
                      refine wpAnyH_ready (rs := [11]) (by kernel_rfl) (by simp) (AllReadyH.cons (o := ⟨_, _, _, _, _, _⟩) rfl (fun KK hK => ?_) AllReadyH.nil)
                      rw [if_pos (by rfl)]
                      go_simp
                      refine (hterm Wd HD.out.2).mono ?_
                      rintro e W11 ⟨u, ua, uc, rfl, hu, b11, hbn⟩
                      have B11 : Below W10.heap.size W10 W11 := HD.out.1.trans (b11.mono HD.out.1.size)
                      refine hK.out _ _ B11 (fun _ => ?_)
                      clear hK KK
                      try simp only [Act.put, List.setIfInBounds_toArray, List.set_cons_zero, List.set_cons_succ]
                      refine take_mk 12 (bval (d.v, u) (.slice ua u.args.length uc)) rfl (by kernel_rfl) (by kernel_rfl) (by kernel_rfl) (fun _ _ _ h => h) (Or.inl ⟨by rfl, fun Z hZ => by go_simp⟩) (by assumption) ?_
                      try simp only [Act.put, List.setIfInBounds_toArray, List.set_cons_zero, List.set_cons_succ]
                      refine wpAnyH_ready (rs := [13]) (by kernel_rfl) (by simp) (AllReadyH.cons (o := ⟨_, _, _, _, _, _⟩) rfl (fun KK hK => ?_) AllReadyH.nil)
                      rw [if_pos (by rfl)]
                      go_simp
                      have hwi := rwith_any l (d.v, u) (.slice oa n oc) (.slice ua u.args.length uc) W11 (HI10.out.1.keep B11) hu.args (by have h1 := HI.out.2.1; have h2 := HI.out.2.2.1; have h3 := HLt.out; omega)
                      refine hwi.mono ?_
                      rintro e W12 ⟨v12, rfl, hB12, b12⟩
                      have B12 : Below W10.heap.size W10 W12 := B11.trans (b12.mono B11.size)
                      obtain ⟨a12, c12, rfl⟩ := hB12.slice
                      refine hK.out _ _ B12 (fun _ => ?_)
                      clear hK KK
                      try simp only [Act.put, List.setIfInBounds_toArray, List.set_cons_zero, List.set_cons_succ]
                      have hl12 : (withL l (d.v, u)).length = n + 1 := by rw [withL_len, HI.out.2.1]
                      rw [hl12]
                      refine take_mk 14 (.slice a12 (n + 1) c12) rfl (by kernel_rfl) (by kernel_rfl) (by kernel_rfl) (fun _ _ _ h => h) (Or.inl ⟨by rfl, fun Z hZ => by go_simp⟩) (by assumption) ?_
                      try simp only [Act.put, List.setIfInBounds_toArray, List.set_cons_zero, List.set_cons_succ]
                      refine wpAnyH_done (by kernel_rfl) ?_ _
                      try simp only [Act.put]
                      have hbi : Bn N ρ i u := hbn.cls (by rw [← HK.out]; exact (HT.out.idem i).symm)
                      have hput : Lst N ρ (i + 1) (withL l (d.v, u)) := HLs.out.put HSv.out HDi.out HSlf.out.1 HSlf.out.2 hbi (by
                        obtain ⟨w, q1, q2, q3⟩ := HZ.out
                        have := q1.one rfl hbi
                        subst this
                        have := H60.out
                        omega)
                      have HNy : Hid (∃ l : List Bd, l.length = n + 1 ∧ BindsAt W12 (.slice a12 (n + 1) c12) l ∧ n + 1 ≤ i + 1 ∧ Below W8.heap.size W8 W12 ∧ Mes W8 W12 M gs gd gz N.length st dp sz ∧ Lst N ρ (i + 1) l) := ⟨_, hl12, by rw [← hl12]; exact hB12, by have := HI.out.2.2.1; omega, HI10.out.2.1.trans (B12.mono HI10.out.2.1.size), HI10.out.2.2.keep B12, hput⟩
                      clear hbn hbi hput hB12 b12 B12 B11 b11 hu hwi hterm hl12 hHeld
                      go_wp2
                      go_roundw
                      case rel => exact ⟨i + 1, a12, n + 1, c12, by have := HLt.out; go_num, rfl, HLt.out, HNy.out⟩
                      case measure => have := HLt.out; simp [intOf]; omega
              · have he : d.fn.toList.isEmpty = false := by rw [ba_isEmpty]; simpa using hfe
                have HNx : Hid _ := HNx0.out (HLs.out.skip HDi.out (.inl hfe))
                clear hfe
                go_wp2
                go_roundw
                case rel => exact ⟨i + 1, oa, n, oc, by have := HLt.out; go_num, rfl, HLt.out, HNx.out⟩
                case measure => have := HLt.out; simp [intOf]; omega
            · have hiI : ¬ (i : Int) < (N.length : Int) := by omega
              have HFn : Hid (∃ l : List Bd, BindsAt wr (.slice oa n oc) l ∧ (∀ z w, τ z = some w → w.size ≤ 4000 ∧ w.depth ≤ 60) ∧ Rising l ∧ ∀ z w, (z, w) ∈ l ↔ τ z = some w ∧ ¬ (uvar w = true ∧ w.v = z)) := ⟨l, hBi, HLs.out.all HSv.out (by omega) HTau.out.1⟩
              have HBf : Hid (Below W.heap.size W wr) := HW8.out.trans (hb8.mono HW8.out.size)
              clear hBi hb8 hMz hN8' HI
              go_wp2
              refine bodyPost_ret (v := .tuple #[.slice oa n oc, .bool true, .int .i64 0]) (by simp [results, Try.results10, go_sem]) rfl ?_
              obtain ⟨l, q1, q2, q3, q4⟩ := HFn.out
              exact ⟨.inr (.inr ⟨HRt.out, τ, HTau.out.2, .inr ⟨q2, _, l, rfl, q3, q4, q1⟩⟩), HBf.out⟩

end Go.Proofs.Ytblfbmdnkgebdaa.Dn

/-
  The document's Unify at any two terms; what it answers is what Unify answers.
-/
namespace Go.Proofs.Ytblfbmdnkgebdaa.Dn
open Go.RowKit Go.Maps

set_option maxRecDepth 100000 in
set_option maxHeartbeats 4000000 in
theorem dunify_any (p t : T) (sp st : Value) (w : World) (hp : ArgsAt w sp p.args) (ht : ArgsAt w st t.args) (hps : p.size ≤ 1048576) (hts : t.size ≤ 1048576) :
    Calls Try.prog 10 #[tval p sp, tval t st] w fun e W => DUnifyIs p t e W ∧ Below w.heap.size w W := by
  by_cases hr : p.rightW = 0 ∧ t.rightW = 0
  · have h1 := (right_zero hr.1 hps).2
    have h2 := (right_zero hr.2 hts).2
    have h3 := T.nn_size p
    have h4 := T.nn_size t
    exact dunify_right p t sp st w hp ht hr.1 hr.2 (by omega)
  obtain ⟨pa, pc, rfl, _, _⟩ := hp.slice
  obtain ⟨ta, tc, rfl, _, _⟩ := ht.slice
  have hb2 := below_box2 w (tbox p (.slice pa p.args.length pc)) (tbox t (.slice ta t.args.length tc))
  obtain ⟨⟨p0, p1, p2⟩, ⟨t0, t1, t2⟩⟩ := tbox2_cells w p (.slice pa p.args.length pc) t (.slice ta t.args.length tc)
  have HB : Hid (Below w.heap.size w (tbox2 w p (.slice pa p.args.length pc) t (.slice ta t.args.length tc))) := hb2
  have HRp : Hid (∀ W, Below w.heap.size w W → Calls Try.prog 23 #[tval p (.slice pa p.args.length pc)] W fun e W' => e = .returned (.int .i64 p.rightW) ∧ Below W.heap.size W W') := fun W h => rright_at p _ w W h hp
  have HRt : Hid (∀ W, Below w.heap.size w W → Calls Try.prog 23 #[tval t (.slice ta t.args.length tc)] W fun e W' => e = .returned (.int .i64 t.rightW) ∧ Below W.heap.size W W') := fun W h => rright_at t _ w W h ht
  have hrp := HRp.out _ hb2
  by_cases h1 : p.rightW = 0
  · have h1' : (p.rightW != 0) = false := by rw [bne_eq_false_iff_eq]; exact h1
    by_cases h2 : t.rightW = 0
    · exact absurd ⟨h1, h2⟩ hr
    clear hr
    have HM : Hid (∀ W, DUnifyIs p t (.returned (.tuple #[.slice none 0 0, .bool false, .int .i64 1])) W) := fun W => .inl ⟨fun h => h2 h.2, rfl⟩
    have h2' : (t.rightW != 0) = true := by rw [bne_iff_ne]; exact h2
    clear h1 h2 hp ht hps hts hb2
    go_enter Try.func10, Try.ntmps10
    go_wp2_with (first
      | (go_at_call 23; refine hrt.mono ?_; rintro e W2 ⟨rfl, hb2'⟩)
      | (go_at_call 23; refine hrp.mono ?_; rintro e W1 ⟨rfl, hb1⟩; have a0 := kc hb1 (by simp; omega) p0; have a1 := kc hb1 (by simp; omega) p1; have a2 := kc hb1 (by simp; omega) p2; have b0 := kc hb1 (by simp) t0; have b1 := kc hb1 (by simp) t1; have b2 := kc hb1 (by simp) t2; have HB1 : Hid (Below w.heap.size w W1 ∧ (tbox2 w p (.slice pa p.args.length pc) t (.slice ta t.args.length tc)).heap.size ≤ W1.heap.size) := ⟨HB.out.trans (hb1.mono (by simp; omega)), hb1.size⟩; have hrt := HRt.out W1 HB1.out.1; clear hb1 hrp))
    refine bodyPost_ret (v := .tuple #[.slice none 0 0, .bool false, .int .i64 1]) (by simp [results, Try.results10, go_sem]) rfl ?_
    exact ⟨HM.out _, HB1.out.1.trans (hb2'.mono HB1.out.1.size)⟩
  · have HM : Hid (∀ W, DUnifyIs p t (.returned (.tuple #[.slice none 0 0, .bool false, .int .i64 1])) W) := fun W => .inl ⟨fun h => h1 h.1, rfl⟩
    clear hr
    have h1' : (p.rightW != 0) = true := by rw [bne_iff_ne]; exact h1
    clear h1 hb2 hp ht hps hts
    go_enter Try.func10, Try.ntmps10
    go_wp2_with (go_at_call 23; refine hrp.mono ?_; rintro e W1 ⟨rfl, hb1⟩)
    refine bodyPost_ret (v := .tuple #[.slice none 0 0, .bool false, .int .i64 1]) (by simp [results, Try.results10, go_sem]) rfl ?_
    exact ⟨HM.out _, HB.out.trans (hb1.mono (by simp; omega))⟩


theorem bd_eq : ∀ {l m : List Bd}, l.Pairwise (fun a b => a.1 < b.1) → m.Pairwise (fun a b => a.1 < b.1) → (∀ z, z ∈ l ↔ z ∈ m) → l = m
  | [], [], _, _, _ => rfl
  | [], y :: r, _, _, h => absurd ((h y).2 List.mem_cons_self) (by simp)
  | x :: r, [], _, _, h => absurd ((h x).1 List.mem_cons_self) (by simp)
  | x :: r, y :: s, hl, hm, h => by
    rw [List.pairwise_cons] at hl hm
    have e : x = y := by
      rcases List.mem_cons.1 ((h x).1 List.mem_cons_self) with e | hx
      · exact e
      · rcases List.mem_cons.1 ((h y).2 List.mem_cons_self) with e | hy
        · exact e.symm
        · have h1 := hm.1 x hx
          have h2 := hl.1 y hy
          omega
    subst e
    congr 1
    refine bd_eq hl.2 hm.2 fun z => ⟨fun hz => ?_, fun hz => ?_⟩
    · rcases List.mem_cons.1 ((h z).1 (List.mem_cons_of_mem _ hz)) with e | hz'
      · have := hl.1 z hz; rw [e] at this; omega
      · exact hz'
    · rcases List.mem_cons.1 ((h z).2 (List.mem_cons_of_mem _ hz)) with e | hz'
      · have := hm.1 z hz; rw [e] at this; omega
      · exact hz'

theorem listB_mem {τ : Ta} {ks : List Int} (h : RiseT τ ks) (z : Bd) : z ∈ listB τ ks ↔ τ z.1 = some z.2 ∧ ¬ (uvar z.2 = true ∧ z.2.v = z.1) := by
  unfold listB
  rw [List.mem_filterMap]
  constructor
  · rintro ⟨k, hk, e⟩
    unfold bindOf at e
    cases ht : τ k with
    | none => rw [ht] at e; cases e
    | some t =>
      rw [ht] at e
      by_cases hc : uvar t = true ∧ t.v = k
      · simp [hc] at e
      · simp only [if_neg hc] at e
        cases e
        exact ⟨ht, hc⟩
  · rintro ⟨h1, h2⟩
    refine ⟨z.1, (h.2 z.1).2 (by rw [h1]; simp), ?_⟩
    unfold bindOf
    rw [h1]
    simp only [if_neg h2]

theorem listB_rise {τ : Ta} {ks : List Int} (h : RiseT τ ks) : (listB τ ks).Pairwise fun a b => a.1 < b.1 := by
  unfold listB
  refine List.Pairwise.filterMap _ (S := fun a b : Bd => a.1 < b.1) (fun a a' haa' b hb b' hb' => ?_) h.1
  have key : ∀ k (z : Bd), bindOf τ k = some z → z.1 = k := fun k z e => by
    unfold bindOf at e
    cases ht : τ k with
    | none => rw [ht] at e; cases e
    | some t =>
      rw [ht] at e
      by_cases hc : uvar t = true ∧ t.v = k
      · simp [hc] at e
      · simp only [if_neg hc] at e
        cases e
        rfl
  rw [key a b hb, key a' b' hb']
  exact haa'

/-- Where there are such numbers. -/
theorem dunify_ans {a b : T} {e : Ending} {W : World} (hex : UOk a b → ∃ ks, RiseT (uT a b) ks) (h : DUnifyIs a b e W) : ∃ v, e = .returned (.tuple #[v, .bool (uB a b), .int .i64 (uE a b)]) ∧ BindsAt W v (uL a b) := by
  rcases h with h | h | ⟨h1, τ, hM, (h | ⟨hf, v, l, rfl, h3, h4, h5⟩)⟩
  · exact unify_ans (.inl h)
  · exact unify_ans (.inr (.inl h))
  · exact unify_ans (.inr (.inr ⟨h1, τ, hM, .inl h⟩))
  · have hok : UOk a b := ⟨h1, ⟨τ, hM⟩, by rw [uT_eq hM]; exact hf⟩
    obtain ⟨ks, hks⟩ := hex hok
    rw [uT_eq hM] at hks
    have e : l = listB τ ks := bd_eq (rising_iff.1 h3) (listB_rise hks) fun z => by rw [listB_mem hks]; exact h4 z.1 z.2
    exact unify_ans (.inr (.inr ⟨h1, τ, hM, .inr ⟨hf, v, ks, rfl, hks, by rw [← e]; exact h5⟩⟩))

theorem unify_keys {a b : T} {e : Ending} {W : World} (h : UnifyIs a b e W) : UOk a b → ∃ ks, RiseT (uT a b) ks := by
  intro hok
  rcases h with ⟨h1, _⟩ | ⟨_, h2, _⟩ | ⟨h1, τ, hM, (⟨⟨x, t, hx, hn⟩, _⟩ | ⟨hf, v, ks, _, h3, _⟩)⟩
  · exact absurd hok.1 h1
  · obtain ⟨τ, hM⟩ := hok.2.1
    exact absurd hM.unif (h2 _)
  · have := hok.2.2
    rw [uT_eq hM] at this
    exact absurd (this x t hx) hn
  · exact ⟨ks, by rw [uT_eq hM]; exact h3⟩

end Go.Proofs.Ytblfbmdnkgebdaa.Dn

/-
  UnifyFinds' walk.
-/
namespace Go.Proofs.Ytblfbmdnkgebdaa.Dn
open Go.RowKit Go.Maps

set_option maxRecDepth 100000 in
set_option maxHeartbeats 4000000 in
theorem finds_any (p t : T) (sp st : Value) (w : World) (hp : ArgsAt w sp p.args) (ht : ArgsAt w st t.args) (hps : p.size ≤ 1048576) (hts : t.size ≤ 1048576) :
    Calls Try.prog 3 #[tval p sp, tval t st] w fun e W => e = .returned (.bool true) ∧ Below w.heap.size w W := by
  obtain ⟨pa, pc, rfl, _, _⟩ := hp.slice
  obtain ⟨ta, tc, rfl, _, _⟩ := ht.slice
  have hb2 := below_box2 w (tbox p (.slice pa p.args.length pc)) (tbox t (.slice ta t.args.length tc))
  obtain ⟨⟨p0, p1, p2⟩, ⟨t0, t1, t2⟩⟩ := tbox2_cells w p (.slice pa p.args.length pc) t (.slice ta t.args.length tc)
  have HP : Hid (ArgsAt w (.slice pa p.args.length pc) p.args ∧ ArgsAt w (.slice ta t.args.length tc) t.args ∧ p.size ≤ 1048576 ∧ t.size ≤ 1048576 ∧ Below w.heap.size w (tbox2 w p (.slice pa p.args.length pc) t (.slice ta t.args.length tc)) ∧ True) := ⟨hp, ht, hps, hts, hb2, trivial⟩
  obtain ⟨ab, hab⟩ : ∃ x, uB p t = x := ⟨_, rfl⟩
  obtain ⟨ae, hae⟩ : ∃ x, uE p t = x := ⟨_, rfl⟩
  obtain ⟨al, hall⟩ : ∃ x, uL p t = x := ⟨_, rfl⟩
  have hm := (unify_any p t _ _ _ (ArgsAt.keep hb2 (Nat.le_refl _) hp) (ArgsAt.keep hb2 (Nat.le_refl _) ht) hps hts).mono (R' := fun e W => ∃ v, e = .returned (.tuple #[v, .bool ab, .int .i64 ae]) ∧ BindsAt W v al ∧ (UOk p t → ∃ ks, RiseT (uT p t) ks) ∧ Below (tbox2 w p (.slice pa p.args.length pc) t (.slice ta t.args.length tc)).heap.size (tbox2 w p (.slice pa p.args.length pc) t (.slice ta t.args.length tc)) W) (fun e W h => by obtain ⟨v, h1, h2⟩ := unify_ans h.1; rw [hab, hae] at h1; rw [hall] at h2; exact ⟨v, h1, h2, unify_keys h.1, h.2⟩)
  have HR : Hid (∀ W, (UOk p t → ∃ ks, RiseT (uT p t) ks) → Below w.heap.size w W → Calls Try.prog 10 #[tval p (.slice pa p.args.length pc), tval t (.slice ta t.args.length tc)] W fun e W' => ∃ v, e = .returned (.tuple #[v, .bool ab, .int .i64 ae]) ∧ BindsAt W' v al ∧ Below W.heap.size W W') := fun W hex h => (dunify_any p t _ _ W (ArgsAt.keep h (Nat.le_refl _) hp) (ArgsAt.keep h (Nat.le_refl _) ht) hps hts).mono (fun e W' h => by obtain ⟨v, h1, h2⟩ := dunify_ans hex h.1; rw [hab, hae] at h1; rw [hall] at h2; exact ⟨v, h1, h2, h.2⟩)
  clear hp ht hps hts hb2 hab hae hall
  go_enter Try.func3, Try.ntmps3
  go_wp2_with (first
    | (go_at_call 10; refine hr.mono ?_; rintro e W2 ⟨v2, rfl, k1, k2⟩; have HK : Hid (BindsAt W1 v1 al ∧ BindsAt W2 v2 al ∧ Below W1.heap.size W1 W2) := ⟨HB1.out.1, k1, k2⟩; clear k1 k2 hr)
    | (go_at_call 9; refine hm.mono ?_; rintro e W1 ⟨v1, rfl, k1, kx, k2⟩; have c0 := kc k2 (by simp; omega) p0; have c1 := kc k2 (by simp; omega) p1; have c2 := kc k2 (by simp; omega) p2; have d0 := kc k2 (by simp) t0; have d1 := kc k2 (by simp) t1; have d2 := kc k2 (by simp) t2; have HB1 : Hid (BindsAt W1 v1 al ∧ Below w.heap.size w W1 ∧ w.heap.size + 2 ≤ W1.heap.size) := ⟨k1, HP.out.2.2.2.2.1.trans (k2.mono (by simp; omega)), by have := k2.size; simp at this; omega⟩; have hr := HR.out W1 kx HB1.out.2.1; clear k1 kx k2 hm))
  have hbw : Below w.heap.size w W2 := HB1.out.2.1.trans (HK.out.2.2.mono HB1.out.2.1.size)
  have l0 : w.heap.size < W2.heap.size := by have := HK.out.2.2.size; have := HB1.out.2.2; omega
  have l1 : w.heap.size + 1 < W2.heap.size := by have := HK.out.2.2.size; have := HB1.out.2.2; omega
  have hc11 : ∀ W, Below W2.heap.size W2 W → Calls Try.prog 11 #[v1, v2] W fun e w' => e = .returned (.bool true) ∧ Below W.heap.size W w' := fun W h => binds_same al v1 v2 W ((HK.out.1.keep HK.out.2.2).keep h) (HK.out.2.1.keep h)
  have hc12 : ∀ W, Below W2.heap.size W2 W → Calls Try.prog 12 #[] W fun e w' => e = .returned (.bool true) ∧ Below W.heap.size W w' := fun W _ => alive_any W
  have HW : Hid (Below w.heap.size w W2) := hbw
  have hae : (ae == ae) = true := by rw [beq_iff_eq]
  clear hbw c0 c1 c2 d0 d1 d2
  refine (hc11 W2 (Below.refl _ _)).mono ?_
  rintro e W3 ⟨rfl, b3⟩
  go_wp2_with fail
  refine (alive_any W3).mono ?_
  rintro e W4 ⟨rfl, b4⟩
  go_wp2
  go_ret
  exact ⟨ret_bool (by simp), (HW.out.trans (b3.mono HW.out.size)).trans (b4.mono (HW.out.trans (b3.mono HW.out.size)).size)⟩

end Go.Proofs.Ytblfbmdnkgebdaa.Dn
