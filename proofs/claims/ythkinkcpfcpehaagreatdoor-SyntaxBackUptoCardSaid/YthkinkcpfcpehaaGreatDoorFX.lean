import Derived.Test.YthkinkcpfcpehaaGreatDoorFW
namespace Go.Proofs.YthkinkcpfcpehaaGreatDoor
set_option maxRecDepth 100000
set_option maxHeartbeats 8000000
open Go.RowKit
open Lx (row_keep row_block row_slice)
theorem fsize_pos (f : Fm) : 1 ≤ f.size := by
  refine Fm.ind (P := fun f => 1 ≤ f.size) (fun f ih => ?_) f
  have hk : ∀ l : List Fm, (∀ a ∈ l, 1 ≤ a.size) → 0 ≤ Fm.size.sizes l := by
    intro l
    induction l with
    | nil => intro _; rw [Fm.size.sizes]; decide
    | cons a r ihr => intro h; rw [Fm.size.sizes]; have h1 := h a (by simp); have h2 := ihr (fun b hb => h b (by simp [hb])); omega
  have h1 := hk f.kids ih
  have h2 := tsize_pos f.l
  have h3 := tsize_pos f.r
  cases f with
  | mk k n l r ks =>
    have h1' : 0 ≤ Fm.size.sizes ks := h1
    have h2' : 0 ≤ l.size := h2
    have h3' : 0 ≤ r.size := h3
    show 1 ≤ Fm.size (.mk k n l r ks)
    rw [Fm.size]
    split <;> omega
theorem sizes_pos : ∀ l : List Fm, 0 ≤ Fm.size.sizes l
  | [] => by rw [Fm.size.sizes]; decide
  | a :: r => by rw [Fm.size.sizes]; have := sizes_pos r; have := fsize_pos a; omega
theorem infoF : (Tryz.prog.info? 27).map (fun i => (i.zero, i.size, i.bytes)) = some (some (.agg #[.int .i64 0, .string ⟨#[]⟩, .int .i64 0, .string ⟨#[]⟩, .slice none 0 0, .int .i64 0, .string ⟨#[]⟩, .slice none 0 0, .slice none 0 0]), 9, 144) := by kernel_rfl
abbrev zero9 : List Value := [.int .i64 0, .string ⟨#[]⟩, .int .i64 0, .string ⟨#[]⟩, .slice none 0 0, .int .i64 0, .string ⟨#[]⟩, .slice none 0 0, .slice none 0 0]
theorem lit9 (X : World) (n : Nat) (hn : n = X.heap.size) : ∀ j x, zero9[j]? = some x → (X.alloc (.cells #[.int .i64 0, .string ⟨#[]⟩, .int .i64 0, .string ⟨#[]⟩, .slice none 0 0, .int .i64 0, .string ⟨#[]⟩, .slice none 0 0, .slice none 0 0] 27)).cell? ((⟨n, 0, none⟩ : Addr).add j) = some x := by
  intro j x hj
  subst hn
  have hz := (MapKept.heap_alloc X (.cells #[.int .i64 0, .string ⟨#[]⟩, .int .i64 0, .string ⟨#[]⟩, .slice none 0 0, .int .i64 0, .string ⟨#[]⟩, .slice none 0 0, .slice none 0 0] 27)).1
  have := cell_storeR (vs := zero9) (i := j) hz hj
  have e : ((⟨X.heap.size, 0, none⟩ : Addr).add j) = ⟨X.heap.size, j, none⟩ := by simp [Addr.add]; intro h; simp [h]
  rw [e]
  exact this
theorem one9 : ∀ u ∈ zero9, u.oneCell' = true := by decide
theorem CmI.drew {w : World} {R : Nat} {k : Int} {nm : ByteArray} {D : List Pc} {i : Nat} {v : Value} {b : Bool} {x y : Int} {W : World} (h : CmI w R k nm D i v b x y W) : CmI w R k nm D i v b x y W.drew := ⟨h.box, h.row.drew, h.bel.trans ((Below.refl _ W).drew.mono h.bel.size), h.wR⟩
/-- What is told behind a region, whatever its order. -/
def CutQ (Q : Exit → Act → World → Prop) (A : Nat → Nat → Act) (I : Nat → Nat → World → Prop) : Exit → Act → World → Prop
  | .normal, a', w' => ∃ g c, a' = A g c ∧ I g c w'
  | e, a', w' => Q e a' w'
theorem CutQ.imp {Q : Exit → Act → World → Prop} {A : Nat → Nat → Act} {I : Nat → Nat → World → Prop} (hQ : ∀ g c w', I g c w' → Q .normal (A g c) w') : ∀ (e : Exit) (a : Act) (w : World), CutQ Q A I e a w → Q e a w := fun e a w h => by
  cases e <;> first | exact h | (obtain ⟨g, c, rfl, hI⟩ := h; exact hQ g c w hI)
theorem wp_cut {P : Program} {id : Nat} {ops : Array Oper} {b : Bool} {Q : Exit → Act → World → Prop} {a : Act} {w : World} (A : Nat → Nat → Act) (I : Nat → Nat → World → Prop) (h : (Code.region id ops b).wp P (CutQ Q A I) a w) (hQ : ∀ g c w', I g c w' → Q .normal (A g c) w') : (Code.region id ops b).wp P Q a w := Code.wp_mono (CutQ.imp hQ) h
theorem CutQ.normal {Q : Exit → Act → World → Prop} {A : Nat → Nat → Act} {I : Nat → Nat → World → Prop} {a : Act} {w : World} (g c : Nat) (ha : a = A g c) (h : I g c w) : CutQ Q A I .normal a w := ⟨g, c, ha, h⟩
/-- What a kid's block holds. -/
structure Q9 (W : World) (x : Pc) : Prop where
  c : (W.cell? ⟨x.p, 0, none⟩ = some (.int .i64 x.f.k) ∧ W.cell? ⟨x.p, 1, none⟩ = some (.string x.f.nm) ∧ W.cell? ⟨x.p, 2, none⟩ = some (.int .i64 x.f.l.v) ∧ W.cell? ⟨x.p, 3, none⟩ = some (.string x.f.l.fn) ∧ W.cell? ⟨x.p, 4, none⟩ = some x.sl ∧ W.cell? ⟨x.p, 5, none⟩ = some (.int .i64 x.f.r.v) ∧ W.cell? ⟨x.p, 6, none⟩ = some (.string x.f.r.fn) ∧ W.cell? ⟨x.p, 7, none⟩ = some x.sr ∧ W.cell? ⟨x.p, 8, none⟩ = some x.sk) ∧
    W.cell? ⟨x.p, 9, none⟩ = some (.bool x.f.wide) ∧ W.cell? ⟨x.p, 10, none⟩ = some (.int .i64 x.f.size) ∧ W.cell? ⟨x.p, 11, none⟩ = some (.int .i64 x.f.depth)
theorem Q9.of {W : World} {x : Pc} (h : W.heap[x.p]? = some (.cells (pcells x.f x.sl x.sr x.sk) 59 (0, 0))) : Q9 W x := by
  refine ⟨⟨?_, ?_, ?_, ?_, ?_, ?_, ?_, ?_, ?_⟩, ?_, ?_, ?_⟩ <;> exact cell_storeR (vs := [_, _, _, _, _, _, _, _, _, _, _, _]) h rfl
/-- The sums of what is left. -/
structure CmN (D : List Pc) (i : Nat) (b : Bool) (x y : Int) : Prop where
  wd : (b || Fm.wide.wides ((D.drop i).map Pc.f)) = Fm.wide.wides (D.map Pc.f)
  sz : x + Fm.size.sizes ((D.drop i).map Pc.f) = 1 + Fm.size.sizes (D.map Pc.f)
  x1 : 1 ≤ x
  dp : max y (1 + Fm.depth.depths ((D.drop i).map Pc.f)) = 1 + Fm.depth.depths (D.map Pc.f)
  y1 : 1 ≤ y
theorem CmN.start (D : List Pc) : CmN D 0 false 1 1 := ⟨by simp, by simp, by decide, by rw [List.drop_zero]; have := depths_pos (D.map Pc.f); omega, by decide⟩
theorem CmN.step {D : List Pc} {i : Nat} {b : Bool} {x y : Int} (h : CmN D i b x y) (hi : i < D.length) : CmN D (i + 1) (b || D[i].f.wide) (x + D[i].f.size) (max y (D[i].f.depth + 1)) := by
  have e : D.drop i = D[i] :: D.drop (i + 1) := List.drop_eq_getElem_cons hi
  obtain ⟨h1, h2, h3, h4, h5⟩ := h
  rw [e, List.map_cons, Fm.wide.wides] at h1
  rw [e, List.map_cons, Fm.size.sizes] at h2
  rw [e, List.map_cons, Fm.depth.depths] at h4
  have := fsize_pos D[i].f
  exact ⟨by rw [← h1, Bool.or_assoc], by omega, by omega, by omega, by omega⟩
theorem CmN.bounds {D : List Pc} {i : Nat} {b : Bool} {x y : Int} (h : CmN D i b x y) (hi : i < D.length) : x + D[i].f.size ≤ 1 + Fm.size.sizes (D.map Pc.f) ∧ D[i].f.depth + 1 ≤ 1 + Fm.depth.depths (D.map Pc.f) ∧ 1 ≤ D[i].f.size ∧ 1 ≤ D[i].f.depth := by
  have h' := h.step hi
  have h2 := h'.sz
  have h4 := h'.dp
  have := sizes_pos ((D.drop (i + 1)).map Pc.f)
  exact ⟨by omega, by omega, fsize_pos _, fdepth_pos _⟩
theorem compound_any {P : Nat → Prop} {w : World} {k : Int} {nm : ByteArray} {D : List Pc} {a : Option Addr} {c : Nat} (hk : k ≠ 1) (hn2 : D.length ≤ 2) (hc : D.length ≤ c) (hcm : c ≤ maxLen) (hrow : ∀ i (h : i < D.length), ∃ g, a = some ⟨g, 0, none⟩ ∧ w.cell? ⟨g, i, none⟩ = some (.pointer (some ⟨D[i].p, 0, none⟩)))
    (hD : ∀ x ∈ D, w.heap[x.p]? = some (.cells (pcells x.f x.sl x.sr x.sk) 59 (0, 0)) ∧ FmP P w x.f x.sl x.sr x.sk) (hs : 1 + Fm.size.sizes (D.map Pc.f) ≤ 4611686018427387904) (hd : 1 + Fm.depth.depths (D.map Pc.f) ≤ 4611686018427387904) :
    Calls Tryz.prog 30 #[.int .i64 k, .string nm, .slice a D.length c] w fun e w' => e = .returned (.pointer (some ⟨w.heap.size, 0, none⟩)) ∧ PcP (fun j => P j ∨ w.heap.size ≤ j) w' w.heap.size (.mk k nm t0 t0 (D.map Pc.f)) ∧ Below w.heap.size w w' := by
  have HD := hidR hD
  have HRW := hidR hrow
  have HB := hidR (And.intro hs hd)
  have h0 := hidR (And.intro (CmI.start w k nm D) (CmN.start D))
  obtain ⟨W0, hW0⟩ : ∃ X, w.alloc (.cells #[.int .i64 k, .string nm, .int .i64 0, .string ⟨#[]⟩, .slice none 0 0, .int .i64 0, .string ⟨#[]⟩, .slice none 0 0, .slice none 0 0, .bool false, .int .i64 1, .int .i64 1] 59) = X := ⟨_, rfl⟩
  obtain ⟨R, hR⟩ : ∃ R, w.heap.size = R := ⟨_, rfl⟩
  rw [hW0, hR] at h0
  rw [hR]
  obtain ⟨n, hn⟩ : ∃ n, D.length = n := ⟨_, rfl⟩
  rw [hn] at hc hn2 ⊢
  have hcm' : c ≤ 9223372036854775807 := by unfold maxLen at hcm; omega
  clear hD hrow hs hd hcm
  go_enter Tryz.func30, Tryz.ntmps30
  go_upto_region 2 with fail
  try simp only [hR]
  try rw [hW0]
  clear hW0
  go_wp2
  go_loopw [16] (fun vi wr => ∃ i : Nat, vi = .int .i64 i ∧ i ≤ n ∧ Hid (∃ v b x y, CmI w R k nm D i v b x y wr ∧ CmN D i b x y)) (fun vi _ => n - (intOf vi).toNat)
  case atStart => exact ⟨0, rfl, Nat.zero_le _, _, _, _, _, h0.out.1, h0.out.2⟩
  case round =>
    obtain ⟨i, rfl, hi, HI⟩ := hrel
    by_cases hlt : i < n
    · have hil : i < D.length := by omega
      obtain ⟨v, b, x, y, hI, hN⟩ := HI.out
      obtain ⟨va, vc, rfl⟩ := row_slice hI.row
      obtain ⟨g, rfl, hcell⟩ := HRW.out i hil
      have hcellr : wr.cell? ⟨g, i, none⟩ = some (.pointer (some ⟨D[i].p, 0, none⟩)) := kc hI.bel (World.block_lt_of_cell? w _ hcell) hcell
      have hq := HD.out D[i] (List.getElem_mem hil)
      have hql := (Array.getElem?_eq_some_iff.1 hq.1).1
      have hqw : ∀ X, Below w.heap.size w X → Q9 X D[i] := fun X hX => Q9.of ((hX.block _ hql).trans hq.1)
      obtain ⟨sa, sc, hsl, _, _⟩ := hq.2.l.slice'
      obtain ⟨ra, rc, hsr, _, _⟩ := hq.2.r.slice'
      obtain ⟨ka, kc', hsk, _, _⟩ := hq.2.k.slice
      have hIs := hI.bel.size
      obtain ⟨⟨r8, r9, r10, r11⟩, f8, f9, f10, f11⟩ := hI.facts
      have hRl := World.block_lt_of_cell? wr _ r8
      have hpR : D[i].p ≠ R := by omega
      have HROW : Hid (∀ Y : World, Below wr.heap.size wr Y → Y.ownsRow (R + 1) 27 9 (.slice va i vc) i (flP (D.take i))) := fun Y hY => Lx.row_below hI.row hY
      have hsz4 : R + 1 ≤ wr.heap.size := hRl
      have HPU : Hid (∀ (w2 w6 : World) (g6 c6 : Nat), Below wr.heap.size wr w2 → w6.ownsRow (R + 1) 27 9 (.slice (some ⟨g6, 0, none⟩) (i + 1) c6) (i + 1) (flP (D.take i) ++ zero9) → w2.grownBy w6 (Value.slice va i vc).ownBlock →
          Q9 w6 D[i] ∧ (w6.cell? ⟨R, 8, none⟩ = some (.slice va i vc) ∧ w6.frozen? ⟨R, 8, none⟩ = false) ∧
          ((w6.cell? ⟨g6, i * 9, none⟩ = some (.int .i64 0) ∧ w6.cell? ⟨g6, i * 9 + 1, none⟩ = some (.string ⟨#[]⟩) ∧ w6.cell? ⟨g6, i * 9 + 2, none⟩ = some (.int .i64 0) ∧ w6.cell? ⟨g6, i * 9 + 3, none⟩ = some (.string ⟨#[]⟩) ∧ w6.cell? ⟨g6, i * 9 + 4, none⟩ = some (.slice none 0 0) ∧ w6.cell? ⟨g6, i * 9 + 5, none⟩ = some (.int .i64 0) ∧ w6.cell? ⟨g6, i * 9 + 6, none⟩ = some (.string ⟨#[]⟩) ∧ w6.cell? ⟨g6, i * 9 + 7, none⟩ = some (.slice none 0 0) ∧ w6.cell? ⟨g6, i * 9 + 8, none⟩ = some (.slice none 0 0)) ∧
            (w6.frozen? ⟨g6, i * 9, none⟩ = false ∧ w6.frozen? ⟨g6, i * 9 + 1, none⟩ = false ∧ w6.frozen? ⟨g6, i * 9 + 2, none⟩ = false ∧ w6.frozen? ⟨g6, i * 9 + 3, none⟩ = false ∧ w6.frozen? ⟨g6, i * 9 + 4, none⟩ = false ∧ w6.frozen? ⟨g6, i * 9 + 5, none⟩ = false ∧ w6.frozen? ⟨g6, i * 9 + 6, none⟩ = false ∧ w6.frozen? ⟨g6, i * 9 + 7, none⟩ = false ∧ w6.frozen? ⟨g6, i * 9 + 8, none⟩ = false)) ∧ g6 ≠ R ∧ g6 ≠ D[i].p ∧
          (∀ W7, (W7 = (put9 w6 g6 (i * 9) (.int .i64 D[i].f.k) (.string D[i].f.nm) (.int .i64 D[i].f.l.v) (.string D[i].f.l.fn) D[i].sl (.int .i64 D[i].f.r.v) (.string D[i].f.r.fn) D[i].sr D[i].sk).setCell ⟨R, 8, none⟩ (.slice (some ⟨g6, 0, none⟩) (i + 1) c6) ∨
              W7 = put9 (w6.setCell ⟨R, 8, none⟩ (.slice (some ⟨g6, 0, none⟩) (i + 1) c6)) g6 (i * 9) (.int .i64 D[i].f.k) (.string D[i].f.nm) (.int .i64 D[i].f.l.v) (.string D[i].f.l.fn) D[i].sl (.int .i64 D[i].f.r.v) (.string D[i].f.r.fn) D[i].sr D[i].sk) →
            CmI w R k nm D (i + 1) (.slice (some ⟨g6, 0, none⟩) (i + 1) c6) b x y W7)) := by
        intro w2 w6 g6 c6 h1 h2 h3
        have hg6 : R + 1 ≤ g6 := (row_block h2 rfl).1
        have hlen : (flP (D.take i)).length = i * 9 := by rw [flP_len, List.length_take]; congr 1; omega
        have hvn : ∀ j, j ≤ R → (Value.slice va i vc).ownBlock ≠ some j := fun j hj e => by have := (row_block hI.row e).1; omega
        have old : ∀ j, j ≤ R → j < wr.heap.size → w6.heap[j]? = wr.heap[j]? := fun j hj hl => (h3.block j (Nat.lt_of_lt_of_le hl h1.size) (fun e => hvn j hj e.symm)).trans (h1.block j hl)
        have hz : ∀ j, j < 9 → (flP (D.take i) ++ zero9)[i * 9 + j]? = zero9[j]? := fun j hj => by rw [List.getElem?_append_right (by omega), hlen]; congr 1; omega
        refine ⟨Q9.of ((old _ (by omega) (by omega)).trans ((hI.bel.block _ hql).trans hq.1)), ⟨?_, frozen_cells ((old R (Nat.le_refl _) hRl).trans hI.box)⟩, ⟨⟨?_, ?_, ?_, ?_, ?_, ?_, ?_, ?_, ?_⟩, ?_, ?_, ?_, ?_, ?_, ?_, ?_, ?_, ?_⟩, by omega, by omega, fun W7 h7 => CmI.push hI hil h1 h2 h3 W7 h7⟩
        · exact cell_storeR (vs := [_, _, _, _, _, _, _, _, _, _, _, _]) ((old R (Nat.le_refl _) hRl).trans hI.box) rfl
        · exact (row_cellR h2 (hz 0 (by omega))).1
        · exact (row_cellR h2 (hz 1 (by omega))).1
        · exact (row_cellR h2 (hz 2 (by omega))).1
        · exact (row_cellR h2 (hz 3 (by omega))).1
        · exact (row_cellR h2 (hz 4 (by omega))).1
        · exact (row_cellR h2 (hz 5 (by omega))).1
        · exact (row_cellR h2 (hz 6 (by omega))).1
        · exact (row_cellR h2 (hz 7 (by omega))).1
        · exact (row_cellR h2 (hz 8 (by omega))).1
        · exact (row_cellR h2 (hz 0 (by omega))).2
        · exact (row_cellR h2 (hz 1 (by omega))).2
        · exact (row_cellR h2 (hz 2 (by omega))).2
        · exact (row_cellR h2 (hz 3 (by omega))).2
        · exact (row_cellR h2 (hz 4 (by omega))).2
        · exact (row_cellR h2 (hz 5 (by omega))).2
        · exact (row_cellR h2 (hz 6 (by omega))).2
        · exact (row_cellR h2 (hz 7 (by omega))).2
        · exact (row_cellR h2 (hz 8 (by omega))).2
      have HII := hidR (And.intro hqw (And.intro (hN.step hil) (And.intro (hN.bounds hil) (And.intro hN.x1 hN.y1))))
      obtain ⟨⟨q0, q1, q2, q3, q4, q5, q6, q7, q8⟩, -⟩ := hqw wr hI.bel
      have hall : ∀ (o : Obj), (wr.alloc o).cell? ⟨R, 8, none⟩ = some (.slice va i vc) := fun o => kc (below_box wr o) hRl r8
      have hqa : ∀ (o : Obj), Q9 (wr.alloc o) D[i] := fun o => hqw _ (hI.bel.trans ((below_box wr o).mono hIs))
      generalize D[i] = d at *
      obtain ⟨dp, df, dsl, dsr, dsk⟩ := d
      simp only at *
      subst hsl hsr hsk
      have a0 := fun o => (hqa o).c.1.1
      have a1 := fun o => (hqa o).c.1.2.1
      have a2 := fun o => (hqa o).c.1.2.2.1
      have a3 := fun o => (hqa o).c.1.2.2.2.1
      have a4 := fun o => (hqa o).c.1.2.2.2.2.1
      have a5 := fun o => (hqa o).c.1.2.2.2.2.2.1
      have a6 := fun o => (hqa o).c.1.2.2.2.2.2.2.1
      have a7 := fun o => (hqa o).c.1.2.2.2.2.2.2.2.1
      have a8 := fun o => (hqa o).c.1.2.2.2.2.2.2.2.2
      simp only at a0 a1 a2 a3 a4 a5 a6 a7 a8
      clear hcell hq hI hN hqw hqa HI HRW hql r9 r10 r11 f9 f10 f11
      obtain ⟨i0, hi0, hz0, hz1, hz2⟩ := info_parts infoF
      have hi1 : (i : Int) < (i : Int) + 1 := by omega
      go_upto_region 5 with fail
      apply wp_cut (I := fun g6 c6 W7 => CmI w R k nm D (i + 1) (.slice (some ⟨g6, 0, none⟩) (i + 1) c6) b x y W7)
      case h =>
        go_region_law (refine step_append_own _ rfl (.tmp 22) (.tmp 28) 25 rfl (R + 1) 27 i0 _ 9 144 Tryz.underlying25 hi0 hz0 hz1 hz2 rfl (by decide) (.slice va i vc) i (flP (D.take i)) rfl (HROW.out _ (below_drewA wr _)) ⟨wr.heap.size, 0, none⟩ 1 1 zero9 rfl rfl (lit9 wr _ rfl) one9 (by unfold maxLen; omega) (by omega) (by simp; omega) ?_; intro v' w6 hrow6 hg6 hb6; obtain ⟨g6, c6, rfl⟩ := Go.ownsRow_succ hrow6; obtain ⟨⟨⟨b0, b1, b2, b3, b4, b5, b6, b7, b8⟩, -⟩, ⟨e8, e8f⟩, ⟨⟨x0, x1, x2, x3, x4, x5, x6, x7, x8⟩, y0, y1, y2, y3, y4, y5, y6, y7, y8⟩, hgR, hgp, HC⟩ := HPU.out _ w6 _ _ (below_drewA wr _) hrow6 hg6)
        all_goals (
          refine CutQ.normal g6 c6 rfl ?_
          first
            | (obtain ⟨W7, hW7⟩ : ∃ X, (put9 w6 g6 (i * 9) (.int .i64 df.k) (.string df.nm) (.int .i64 df.l.v) (.string df.l.fn) (.slice sa df.l.args.length sc) (.int .i64 df.r.v) (.string df.r.fn) (.slice ra df.r.args.length rc) (.slice ka df.kids.length kc')).setCell ⟨R, 8, none⟩ (.slice (some ⟨g6, 0, none⟩) (i + 1) c6) = X := ⟨_, rfl⟩
               have hC := HC W7 (.inl hW7.symm)
               unfold put9 at hW7
               rw [hW7]
               exact hC)
            | (obtain ⟨W7, hW7⟩ : ∃ X, put9 (w6.setCell ⟨R, 8, none⟩ (.slice (some ⟨g6, 0, none⟩) (i + 1) c6)) g6 (i * 9) (.int .i64 df.k) (.string df.nm) (.int .i64 df.l.v) (.string df.l.fn) (.slice sa df.l.args.length sc) (.int .i64 df.r.v) (.string df.r.fn) (.slice ra df.r.args.length rc) (.slice ka df.kids.length kc') = X := ⟨_, rfl⟩
               have hC := HC W7 (.inr hW7.symm)
               unfold put9 at hW7
               rw [hW7]
               exact hC))
      case hQ =>
      intro g6 c6 W7 hC
      have hbd := HII.out.2.2
      have hB := HB.out
      clear HPU HROW a0 a1 a2 a3 a4 a5 a6 a7 a8 q0 q1 q2 q3 q4 q5 q6 q7 q8 r8 f8 hall hi0 hz0 hz1 hz2
      obtain ⟨⟨-, r9, r10, r11⟩, -, f9, f10, f11⟩ := hC.facts
      obtain ⟨-, k9, k10, k11⟩ := HII.out.1 W7 hC.bel
      simp only at k9 k10 k11
      cases b
      case false =>
        go_upto_region 7 with fail
        obtain ⟨W8, hW8⟩ : ∃ X, W7.setCell ⟨R, 9, none⟩ (.bool df.wide) = X := ⟨_, rfl⟩
        have hC8 := hC.set9 df.wide
        rw [hW8] at hC8 ⊢
        obtain ⟨⟨-, -, s10, s11⟩, -, -, g10, g11⟩ := hC8.facts
        obtain ⟨-, -, l10, l11⟩ := HII.out.1 W8 hC8.bel
        simp only at l10 l11
        have HC8 := hidR hC8
        clear hC8 hW8 hC r9 r10 r11 f9 f10 f11 k9 k10 k11
        go_region
        all_goals (
          obtain ⟨W9, hW9⟩ : ∃ X, (W8.setCell ⟨R, 10, none⟩ (.int .i64 (x + df.size))).drew = X := ⟨_, rfl⟩
          have hC9 := (HC8.out.set10 (x + df.size)).drew
          rw [hW9] at hC9 ⊢
          obtain ⟨⟨-, -, -, s11⟩, -, -, -, g11⟩ := hC9.facts
          obtain ⟨-, -, -, l11⟩ := HII.out.1 W9 hC9.bel
          simp only at l11
          have HC9 := hidR hC9
          clear hC9 hW9 HC8
          go_upto_region 8 with fail
          go_region
          all_goals (
            obtain ⟨W10, hW10⟩ : ∃ X, (W9.setCell ⟨R, 11, none⟩ (.int .i64 (max y (df.depth + 1)))).drew = X := ⟨_, rfl⟩
            have HN : Hid (∃ v b x y, CmI w R k nm D (i + 1) v b x y W10 ∧ CmN D (i + 1) b x y) := by rw [← hW10]; exact ⟨_, _, _, _, (HC9.out.set11 _).drew, HII.out.2.1⟩
            rw [hW10]
            clear hW10 HC9 s11 g11 l11 hbd hB
            go_wp2
            go_roundw
            case rel => exact ⟨i + 1, by go_num, by omega, HN.out⟩
            case measure => simp [intOf]; omega))
      case true =>
        go_upto_region 7 with fail
        obtain ⟨W8, hW8⟩ : ∃ X, W7.setCell ⟨R, 9, none⟩ (.bool true) = X := ⟨_, rfl⟩
        have hC8 := hC.set9 true
        rw [hW8] at hC8 ⊢
        obtain ⟨⟨-, -, s10, s11⟩, -, -, g10, g11⟩ := hC8.facts
        obtain ⟨-, -, l10, l11⟩ := HII.out.1 W8 hC8.bel
        simp only at l10 l11
        have HC8 := hidR hC8
        clear hC8 hW8 hC r9 r10 r11 f9 f10 f11 k9 k10 k11
        go_region
        all_goals (
          obtain ⟨W9, hW9⟩ : ∃ X, (W8.setCell ⟨R, 10, none⟩ (.int .i64 (x + df.size))).drew = X := ⟨_, rfl⟩
          have hC9 := (HC8.out.set10 (x + df.size)).drew
          rw [hW9] at hC9 ⊢
          obtain ⟨⟨-, -, -, s11⟩, -, -, -, g11⟩ := hC9.facts
          obtain ⟨-, -, -, l11⟩ := HII.out.1 W9 hC9.bel
          simp only at l11
          have HC9 := hidR hC9
          clear hC9 hW9 HC8
          go_upto_region 8 with fail
          go_region
          all_goals (
            obtain ⟨W10, hW10⟩ : ∃ X, (W9.setCell ⟨R, 11, none⟩ (.int .i64 (max y (df.depth + 1)))).drew = X := ⟨_, rfl⟩
            have HN : Hid (∃ v b x y, CmI w R k nm D (i + 1) v b x y W10 ∧ CmN D (i + 1) b x y) := by rw [← hW10]; exact ⟨_, _, _, _, (HC9.out.set11 _).drew, HII.out.2.1⟩
            rw [hW10]
            clear hW10 HC9 s11 g11 l11 hbd hB
            go_wp2
            go_roundw
            case rel => exact ⟨i + 1, by go_num, by omega, HN.out⟩
            case measure => simp [intOf]; omega))
    · have hin : i = n := by omega
      subst hin
      go_wp2
      go_ret
      obtain ⟨v, b, x, y, hI, hN⟩ := HI.out
      obtain ⟨n1, n2, n3, n4, n5⟩ := hN
      have hdn : (D.drop i).map Pc.f = [] := by rw [← hn, List.drop_length]; rfl
      rw [hdn] at n1 n2 n4
      have hR' := row_block hI.row (g := 0)
      have hrow : wr.ownsRow (R + 1) 27 9 v D.length (flP D) := by
        have := hI.row
        rw [← hn, List.take_length] at this
        exact this
      have hkids := kidsP_of_row (P := fun j => P j ∨ R ≤ j) hrow (fun g hg => .inr (by have := (row_block hI.row hg).1; omega)) (fun x hx => ((HD.out x hx).2).keep hI.bel.size (fun j hj hl => ⟨.inl hj, hI.bel.block j hl⟩))
      have hbox := hI.box
      have e1 : (Fm.mk k nm t0 t0 (D.map Pc.f)).wide = b := by
        rw [Fm.wide, ← n1, Fm.wide.wides]
        simp [wideT, wideT.wides]
      have e2 : (Fm.mk k nm t0 t0 (D.map Pc.f)).size = x := by
        have : (Fm.mk k nm t0 t0 (D.map Pc.f)).size = 1 + Fm.size.sizes (D.map Pc.f) := size_kids (f := .mk k nm t0 t0 (D.map Pc.f)) hk
        rw [Fm.size.sizes] at n2
        omega
      have e3 : (Fm.mk k nm t0 t0 (D.map Pc.f)).depth = y := by
        have : (Fm.mk k nm t0 t0 (D.map Pc.f)).depth = 1 + Fm.depth.depths (D.map Pc.f) := depth_kids (f := .mk k nm t0 t0 (D.map Pc.f)) hk
        rw [Fm.depth.depths] at n4
        omega
      refine ⟨rfl, ⟨⟨.slice none 0 0, .slice none 0 0, v, ?_, ArgsP.nil _ _, ArgsP.nil _ _, hkids⟩, .inr (Nat.le_refl _)⟩, by rw [← hR]; exact hI.bel⟩
      show wr.heap[R]? = some (.cells #[.int .i64 k, .string nm, .int .i64 0, .string ⟨#[]⟩, .slice none 0 0, .int .i64 0, .string ⟨#[]⟩, .slice none 0 0, v, .bool (Fm.mk k nm t0 t0 (D.map Pc.f)).wide, .int .i64 (Fm.mk k nm t0 t0 (D.map Pc.f)).size, .int .i64 (Fm.mk k nm t0 t0 (D.map Pc.f)).depth] 59 (0, 0))
      rw [e1, e2, e3]
      exact hbox
