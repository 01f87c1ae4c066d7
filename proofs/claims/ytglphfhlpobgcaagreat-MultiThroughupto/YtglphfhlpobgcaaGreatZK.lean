import Derived.Test.YtglphfhlpobgcaaGreatYK
import Derived.Test.YtglphfhlpobgcaaGreatZF

/-
  multi.covers, of literals.
-/
namespace Go.Proofs.YtglphfhlpobgcaaGreat
open Go.RowKit Go.Maps

/-- The order as a function value. -/
abbrev foL (o : Od) (vn vw : Value) : Value := .func (.func 33) #[oval o vn vw] #[]
noncomputable def odL (o : Od) (p q : (Lt × Value × Value)) : Int := lcm o p.1 q.1
/-- What the order's function answers. -/
def OrdrL (w0 : World) (o : Od) (vn vw : Value) : Prop := ∀ (p q : (Lt × Value × Value)) (W : World), OkL w0 p → OkL w0 q → Below w0.heap.size w0 W →
  Calls Tryz.prog 33 #[oval o vn vw, lval p.1 p.2.1 p.2.2, lval q.1 q.2.1 q.2.2] W fun e W' => e = .returned (.int .i64 (odL o p q)) ∧ Below W.heap.size W W'
theorem eg33 : ∀ args w, (callFunc 33 args).run Tryz.prog w = .ok (.enter 33 args) w := enters_of Tryz.func33 (by kernel_rfl) rfl
theorem eg116 : ∀ args w, (callFunc 116 args).run Tryz.prog w = .ok (.enter 116 args) w := enters_of Tryz.func116 (by kernel_rfl) rfl
theorem eg117 : ∀ args w, (callFunc 117 args).run Tryz.prog w = .ok (.enter 117 args) w := enters_of Tryz.func117 (by kernel_rfl) rfl
theorem bxL_cells (w : World) (p : (Lt × Value × Value)) : CsL (w.alloc (lbox p.1 p.2.1 p.2.2)) w.heap.size 0 p := by
  have h : (w.alloc (lbox p.1 p.2.1 p.2.2)).heap[w.heap.size]? = some (.cells (flL [p]).toArray 32 (0, 0)) := by rw [flL_one]; exact (MapKept.heap_alloc w (lbox p.1 p.2.1 p.2.2)).1
  have := csL_of (W := w.alloc (lbox p.1 p.2.1 p.2.2)) (b := w.heap.size) (off := 0) (ps := [p]) (fun j u hj => by rw [Nat.zero_add, cell_of_row _ _ _ _ 32 (0, 0) h]; simpa using hj) (i := 0) (by simp)
  simpa using this

set_option maxRecDepth 100000 in
set_option maxHeartbeats 2000000 in
theorem cov2L (w0 W0 : World) (o : Od) (vn vw : Value) (ho : OdAt w0 o vn vw) (hO : OrdrL w0 o vn vw) (bo bb : Nat) (q : (Lt × Value × Value)) (hq : OkL w0 q) (hw : Below w0.heap.size w0 W0) (c1 : W0.cell? ⟨bo, 0, none⟩ = some (foL o vn vw)) (lo : bo < W0.heap.size) (cq : CsL W0 bb 0 q) (lq : bb < W0.heap.size) :
    PrL w0 W0 117 #[.pointer (some ⟨bo, 0, none⟩), .pointer (some ⟨bb, 0, none⟩)] (fun p => decide (odL o p q = 1)) := by
  intro p W hp hW
  show Calls Tryz.prog 117 #[lval p.1 p.2.1 p.2.2, .pointer (some ⟨bo, 0, none⟩), .pointer (some ⟨bb, 0, none⟩)] W _
  obtain ⟨an, nn, cn, rfl⟩ := ho.vn
  obtain ⟨aw, nw, cw, rfl⟩ := ho.vw
  have hb := below_box W (lbox p.1 p.2.1 p.2.2)
  have cp := bxL_cells W p
  have b1 : Below W0.heap.size W0 (W.alloc (lbox p.1 p.2.1 p.2.2)) := hW.trans (hb.mono hW.size)
  have d1 := kc b1 lo c1
  have dq := cq.keep b1 lq
  have hc := hO p q (W.alloc (lbox p.1 p.2.1 p.2.2)) hp hq (hw.trans (b1.mono hw.size))
  have eg := eg33
  have HB : Hid (Below W.heap.size W (W.alloc (lbox p.1 p.2.1 p.2.2))) := hb
  obtain ⟨z, hz⟩ : ∃ z, odL o p q = z := ⟨_, rfl⟩
  simp only [hz]
  rw [hz] at hc
  clear ho hO hw c1 cq hW b1 hb hz lo lq
  obtain ⟨x, sx, rx⟩ := p
  obtain ⟨y, sy, ry⟩ := q
  simp only [OkL] at hp hq
  obtain ⟨_, _, rfl, _⟩ := hp.1.1.slice
  obtain ⟨_, _, rfl, _⟩ := hp.1.2.slice
  obtain ⟨_, _, rfl, _⟩ := hq.1.1.slice
  obtain ⟨_, _, rfl, _⟩ := hq.1.2.slice
  obtain ⟨p0, p1, p2, p3, p4, p5, p6⟩ := cp
  obtain ⟨q0, q1, q2, q3, q4, q5, q6⟩ := dq
  simp only at p0 p1 p2 p3 p4 p5 p6 q0 q1 q2 q3 q4 q5 q6 hc d1
  clear hp hq
  go_enter Tryz.func117, Tryz.ntmps117
  go_wp2_with (first | (go_at_fn 33; refine hc.mono ?_; rintro e w3 ⟨rfl, hb3⟩))
  go_ret
  exact ⟨ret_bool (by rw [Bool.eq_iff_iff]; simp), HB.out.trans (hb3.mono HB.out.size)⟩

set_option maxRecDepth 100000 in
set_option maxHeartbeats 2000000 in
theorem cov1L (w0 W0 : World) (o : Od) (vn vw : Value) (ho : OdAt w0 o vn vw) (hO : OrdrL w0 o vn vw) (bo bm : Nat) (vm : Value) (ms : List (Lt × Value × Value)) (hw : Below w0.heap.size w0 W0) (c1 : W0.cell? ⟨bo, 0, none⟩ = some (foL o vn vw)) (lo : bo < W0.heap.size) (c2 : W0.cell? ⟨bm, 0, none⟩ = some vm) (lm : bm < W0.heap.size) (hm : RdL w0 W0 vm ms) :
    PrL w0 W0 116 #[.pointer (some ⟨bm, 0, none⟩), .pointer (some ⟨bo, 0, none⟩)] (fun q => !(ms.any fun p => decide (odL o p q = 1))) := by
  intro q W hq hW
  show Calls Tryz.prog 116 #[lval q.1 q.2.1 q.2.2, .pointer (some ⟨bm, 0, none⟩), .pointer (some ⟨bo, 0, none⟩)] W _
  have hb := below_box W (lbox q.1 q.2.1 q.2.2)
  have cq := bxL_cells W q
  have b1 : Below W0.heap.size W0 (W.alloc (lbox q.1 q.2.1 q.2.2)) := hW.trans (hb.mono hW.size)
  have d1 := kc b1 lo c1
  have d2 := kc b1 lm c2
  have b01 := hw.trans (b1.mono hw.size)
  have hp := cov2L w0 (W.alloc (lbox q.1 q.2.1 q.2.2)) o vn vw ho hO bo W.heap.size q hq b01 d1 (by have := b1.size; omega) cq (by simp)
  have hc := containsL_any w0 (W.alloc (lbox q.1 q.2.1 q.2.2)) 117 _ _ eg117 hp ms vm (W.alloc (lbox q.1 q.2.1 q.2.2)) (Below.refl _ _) (hm.keep b1)
  obtain ⟨a, c, rfl, _, _⟩ := hm.slice
  have HB : Hid (Below W.heap.size W (W.alloc (lbox q.1 q.2.1 q.2.2))) := hb
  obtain ⟨z, hz⟩ : ∃ z, (ms.any fun p => decide (odL o p q = 1)) = z := ⟨_, rfl⟩
  simp only [hz]
  rw [hz] at hc
  clear ho hO hw c1 c2 hW b1 hb hz lo lm hm hp b01 d1 cq
  obtain ⟨y, sy, ry⟩ := q
  simp only [OkL] at hq
  obtain ⟨_, _, rfl, _⟩ := hq.1.1.slice
  obtain ⟨_, _, rfl, _⟩ := hq.1.2.slice
  simp only at hc d2
  clear hq
  go_enter Tryz.func116, Tryz.ntmps116
  go_wp2_with (first | (go_at_call 115; refine hc.mono ?_; rintro e w3 ⟨rfl, hb3⟩))
  go_ret
  exact ⟨rfl, HB.out.trans (hb3.mono HB.out.size)⟩

/-- Is each thing of the second below some thing of the first? -/
noncomputable def covBL (o : Od) (ms ns : List (Lt × Value × Value)) : Bool := !(ns.any fun q => !(ms.any fun p => decide (odL o p q = 1)))
theorem covBL_iff {o : Od} {ms ns : List (Lt × Value × Value)} : covBL o ms ns = true ↔ cov (fun p : Lt × Value × Value => kap p.1) (gL o) ms ns := by
  have hg : ∀ p q : (Lt × Value × Value), odL o p q = 1 ↔ (gL o) ((fun p : Lt × Value × Value => kap p.1) p) ((fun p : Lt × Value × Value => kap p.1) q) := fun p q => gL_iff.symm
  unfold covBL cov
  rw [Bool.not_eq_true', List.any_eq_false]
  constructor
  · intro h b hb
    have h1 := h b hb
    cases e : ms.any fun p => decide (odL o p b = 1)
    · rw [e] at h1; exact absurd rfl h1
    · obtain ⟨a, ha, e⟩ := List.any_eq_true.1 e
      exact ⟨a, ha, (hg a b).1 (of_decide_eq_true e)⟩
  · intro h b hb
    obtain ⟨a, ha, e⟩ := h b hb
    have e : (ms.any fun p => decide (odL o p b = 1)) = true := List.any_eq_true.2 ⟨a, ha, decide_eq_true ((hg a b).2 e)⟩
    rw [e]
    simp

set_option maxRecDepth 100000 in
set_option maxHeartbeats 2000000 in
theorem coversL_any (w0 : World) (o : Od) (vn vw : Value) (ho : OdAt w0 o vn vw) (hO : OrdrL w0 o vn vw) (ms ns : List (Lt × Value × Value)) (vm v : Value) (w : World) (hw : Below w0.heap.size w0 w) (hm : RdL w0 w vm ms) (hn : RdL w0 w v ns) :
    Calls Tryz.prog 72 #[foL o vn vw, vm, v] w fun e w' => e = .returned (.bool (covBL o ms ns)) ∧ Below w.heap.size w w' := by
  obtain ⟨W1, h1⟩ : ∃ X, w.alloc (.cells #[foL o vn vw] 43) = X := ⟨_, rfl⟩
  obtain ⟨W2, h2⟩ : ∃ X, W1.alloc (.cells #[vm] 34) = X := ⟨_, rfl⟩
  have b1 : Below w.heap.size w W1 := by rw [← h1]; exact below_box _ _
  have b2 : Below W1.heap.size W1 W2 := by rw [← h2]; exact below_box _ _
  have s1 : W1.heap.size = w.heap.size + 1 := by rw [← h1]; simp
  have s2 : W2.heap.size = w.heap.size + 2 := by rw [← h2]; simp [s1]
  have bb : Below w.heap.size w W2 := b1.trans (b2.mono b1.size)
  have c1 := box1_cells w (foL o vn vw) 43
  rw [h1] at c1
  have c1' := kc b2 (by omega) c1
  have c2 := box1_cells W1 vm 34
  rw [h2, s1] at c2
  have hp := cov1L w0 W2 o vn vw ho hO w.heap.size (w.heap.size + 1) vm ms (hw.trans (bb.mono hw.size)) c1' (by omega) c2 (by omega) (hm.keep bb)
  have hc := containsL_any w0 W2 116 _ _ eg116 hp ns v W2 (Below.refl _ _) (hn.keep bb)
  obtain ⟨a, c, rfl, _, _⟩ := hm.slice
  obtain ⟨a', c', rfl, _, _⟩ := hn.slice
  obtain ⟨an, nn, cn, rfl⟩ := ho.vn
  obtain ⟨aw, nw, cw, rfl⟩ := ho.vw
  have HB : Hid (Below w.heap.size w W2) := bb
  unfold covBL
  obtain ⟨z, hz⟩ : ∃ z, (ns.any fun q => !(ms.any fun p => decide (odL o p q = 1))) = z := ⟨_, rfl⟩
  rw [hz] at hc ⊢
  clear ho hO hw hm hn hz b1 b2 bb c1 c1' c2 hp s2
  go_enter Tryz.func72, Tryz.ntmps72
  try rw [h1]
  try rw [h2]
  try rw [s1]
  go_wp2_with fail
  try rw [h1]
  try rw [h2]
  try rw [s1]
  refine hc.mono ?_
  rintro e w3 ⟨rfl, hb3⟩
  go_wp2
  go_ret
  exact ⟨rfl, HB.out.trans (hb3.mono HB.out.size)⟩

end Go.Proofs.YtglphfhlpobgcaaGreat

/-
  multi.apart, of literals: what lies in memory.
-/
namespace Go.Proofs.YtglphfhlpobgcaaGreat
open Go.RowKit Go.Maps

abbrev fsL : Value := .func (.func 40) #[] #[]
theorem eg112 : ∀ args w, (callFunc 112 args).run Tryz.prog w = .ok (.enter 112 args) w := enters_of Tryz.func112 (by kernel_rfl) rfl

/-- A thing is stored into its box. -/
theorem bxstL (Y : World) (bx : Nat) (cz : Array Value) (q : (Lt × Value × Value)) (h : Y.heap[bx]? = some (.cells cz 32 (0, 0))) (hz : cz.size = 7) (h1 : ∀ u ∈ flL [q], u.oneCell' = true) :
    ∃ Y', (Instr.storeAt 32 (.pointer (some ⟨bx, 0, none⟩)) (lval q.1 q.2.1 q.2.2)).run Tryz.prog Y = .ok () Y' ∧ CsL Y' bx 0 q ∧ Only [bx] Y Y' := by
  have hfl : (flL [q]).length = 7 := by rw [flL_len]; simp
  obtain ⟨cur', p1, p2, p3⟩ := heap_put bx 32 (flL [q]) 0 Y cz h (by rw [hfl, hz]; omega)
  refine ⟨Y.setCells bx 0 (flL [q]), ?_, ?_, p3⟩
  · have hr := run_storeAt_mid (P := Tryz.prog) Y bx 0 32 (flL [q]).toArray (fun j hj => by
      have hj' : j < 7 := by simpa [hfl] using hj
      have hlt : 0 + j < cz.size := by rw [hz]; omega
      simp only [World.cell?, World.frozen?, h]
      simp at hlt
      simp [hlt]) (by rw [List.size_toArray, hfl]; kernel_rfl) (all_oneCell_toArray h1)
    rw [flL_one] at hr ⊢
    exact hr
  · have := csL_of (W := Y.setCells bx 0 (flL [q])) (b := bx) (off := 0) (ps := [q]) (fun j u hj => by
      have hjl : j < (flL [q]).length := (List.getElem?_eq_some_iff.1 hj).1
      rw [Nat.zero_add]
      simp only [World.cell?, p1]
      have e : cur'[j]? = cur'.toList[j]? := by simp
      rw [p2, List.take_zero, List.nil_append, List.getElem?_append_left hjl, hj] at e
      simpa using e) (i := 0) (by simp)
    simpa using this

set_option maxRecDepth 100000 in
set_option maxHeartbeats 2000000 in
theorem apart1L (w0 W0 : World) (bs ba : Nat) (p : (Lt × Value × Value)) (hp : OkL w0 p) (hw : Below w0.heap.size w0 W0) (c1 : W0.cell? ⟨bs, 0, none⟩ = some fsL) (ls : bs < W0.heap.size) (cp : CsL W0 ba 0 p) (la : ba < W0.heap.size) :
    PrL w0 W0 112 #[.pointer (some ⟨bs, 0, none⟩), .pointer (some ⟨ba, 0, none⟩)] (fun q => smL p q) := by
  intro q W hq hW
  show Calls Tryz.prog 112 #[lval q.1 q.2.1 q.2.2, .pointer (some ⟨bs, 0, none⟩), .pointer (some ⟨ba, 0, none⟩)] W _
  have hb := below_box W (lbox q.1 q.2.1 q.2.2)
  have cq := bxL_cells W q
  have b1 : Below W0.heap.size W0 (W.alloc (lbox q.1 q.2.1 q.2.2)) := hW.trans (hb.mono hW.size)
  have d1 := kc b1 ls c1
  have dp := cp.keep b1 la
  have hc := sameL_any w0 p q hp hq (W.alloc (lbox q.1 q.2.1 q.2.2)) (hw.trans (b1.mono hw.size))
  have eg := eg40
  have HB : Hid (Below W.heap.size W (W.alloc (lbox q.1 q.2.1 q.2.2))) := hb
  obtain ⟨z, hz⟩ : ∃ z, smL p q = z := ⟨_, rfl⟩
  simp only [hz]
  rw [hz] at hc
  clear hw c1 cp hW b1 hb hz ls la
  obtain ⟨x, sx, rx⟩ := p
  obtain ⟨y, sy, ry⟩ := q
  simp only [OkL] at hp hq
  obtain ⟨_, _, rfl, _⟩ := hp.1.1.slice
  obtain ⟨_, _, rfl, _⟩ := hp.1.2.slice
  obtain ⟨_, _, rfl, _⟩ := hq.1.1.slice
  obtain ⟨_, _, rfl, _⟩ := hq.1.2.slice
  obtain ⟨p0, p1, p2, p3, p4, p5, p6⟩ := dp
  obtain ⟨q0, q1, q2, q3, q4, q5, q6⟩ := cq
  simp only at p0 p1 p2 p3 p4 p5 p6 q0 q1 q2 q3 q4 q5 q6 hc d1
  clear hp hq
  go_enter Tryz.func112, Tryz.ntmps112
  go_wp2_with (first | (go_at_fn 40; refine hc.mono ?_; rintro e w3 ⟨rfl, hb3⟩))
  go_ret
  exact ⟨rfl, HB.out.trans (hb3.mono HB.out.size)⟩

/-- What holds as the first list is gone through. -/
structure ApL (w0 w1 : World) (ms ns : List (Lt × Value × Value)) (i : Nat) (vM vN : Value) (out cur : List (Lt × Value × Value)) (W : World) : Prop where
  rm : W.ownsRow w1.heap.size 32 7 vM out.length (flL out)
  rn : W.ownsRow w1.heap.size 32 7 vN cur.length (flL cur)
  bel : Below w1.heap.size w1 W
  dj : ∀ g, vM.ownBlock = some g → vN.ownBlock ≠ some g
  eq : aprt (fun p : Lt × Value × Value => kap p.1) ms ns = (out ++ (aprt (fun p : Lt × Value × Value => kap p.1) (ms.drop i) cur).1, (aprt (fun p : Lt × Value × Value => kap p.1) (ms.drop i) cur).2)
  okm : ∀ p ∈ out, OkL w0 p
  okn : ∀ p ∈ cur, OkL w0 p
  lm : out.length ≤ i
  ln : cur.length ≤ ns.length
  sv : (∃ a c, vM = .slice a out.length c) ∧ ∃ a c, vN = .slice a cur.length c

section
variable {w0 w1 W W' : World} {ms ns : List (Lt × Value × Value)} {i : Nat} {vM vN vM' vN' : Value} {out cur : List (Lt × Value × Value)}
theorem ApL.below (h : ApL w0 w1 ms ns i vM vN out cur W) (hb : Below W.heap.size W W') : ApL w0 w1 ms ns i vM vN out cur W' :=
  ⟨rowL_keep h.rm (fun r hr => by
    obtain ⟨_, c, hc⟩ := row_block h.rm hr
    exact hb.block r (Array.getElem?_eq_some_iff.1 hc).1), rowL_keep h.rn (fun r hr => by
    obtain ⟨_, c, hc⟩ := row_block h.rn hr
    exact hb.block r (Array.getElem?_eq_some_iff.1 hc).1), h.bel.trans (hb.mono h.bel.size), h.dj, h.eq, h.okm, h.okn, h.lm, h.ln, h.sv⟩
theorem ApL.add (h : ApL w0 w1 ms ns i vM vN out cur W) (hi : i < ms.length) (hok : OkL w0 ms[i]) (hf : cur.findIdx? (fun q => smL ms[i] q) = none) (hr : W'.ownsRow w1.heap.size 32 7 vM' (out.length + 1) (flL out ++ flL [ms[i]])) (hg : W.grownBy W' vM.ownBlock) (hb : vM'.ownBlock = vM.ownBlock ∨ vM'.ownBlock = some W.heap.size) :
    ApL w0 w1 ms ns (i + 1) vM' vN (out ++ [ms[i]]) cur W' := by
  have nlt : ∀ g, vN.ownBlock = some g → g < W.heap.size := fun g e => by
    obtain ⟨_, c, hc⟩ := row_block h.rn e
    exact (Array.getElem?_eq_some_iff.1 hc).1
  refine ⟨by rw [List.length_append, flL_app]; exact hr, rowL_keep h.rn (fun r e => hg.block r (nlt r e) (fun k => h.dj r k.symm e)), ?_, fun g e k => ?_, ?_, fun p hp => ?_, h.okn, by simp; exact h.lm, h.ln, ⟨by obtain ⟨a, c, e⟩ := row_slice hr; exact ⟨a, c, by rw [e]; simp⟩, h.sv.2⟩⟩
  · have o : Only vM.ownBlock.toList W W' := Only.of_grown hg (fun r e => by simp [e])
    exact h.bel.trans (o.below h.bel.size (fun r hr => by
      have e : vM.ownBlock = some r := by simpa using hr
      exact (row_block h.rm e).1))
  · rcases hb with q | q
    · exact h.dj g (q ▸ e) k
    · rw [q] at e
      have := nlt g k
      have := Option.some.inj e
      omega
  · rw [h.eq, List.drop_eq_getElem_cons hi, aprt]
    have hf' : cur.findIdx? (fun b => (open Classical in decide ((fun p : Lt × Value × Value => kap p.1) ms[i] = (fun p : Lt × Value × Value => kap p.1) b))) = none := hf
    rw [hf']
    simp
  · rcases List.mem_append.1 hp with q | q
    · exact h.okm p q
    · have : p = ms[i] := by simpa using q
      rw [this]; exact hok
theorem ApL.cut (h : ApL w0 w1 ms ns i vM vN out cur W) (hi : i < ms.length) {k : Nat} (hf : cur.findIdx? (fun q => smL ms[i] q) = some k) (hk : k < cur.length) {g : Nat} (hvN : vN.ownBlock = some g) (hvN' : vN'.ownBlock = some g) (hr : W'.ownsRow w1.heap.size 32 7 vN' (cur.eraseIdx k).length (flL (cur.eraseIdx k))) (ho : Only [g] W W') :
    ApL w0 w1 ms ns (i + 1) vM vN' out (cur.eraseIdx k) W' := by
  refine ⟨rowL_keep h.rm (fun r e => ho.block r (by
    obtain ⟨_, c, hc⟩ := row_block h.rm e
    exact (Array.getElem?_eq_some_iff.1 hc).1) (by simp only [List.mem_singleton]; intro q; exact h.dj r e (by rw [q]; exact hvN))), hr, h.bel.trans (ho.below h.bel.size (by simpa using (row_block h.rn hvN).1)), fun r e q => h.dj r e (by rw [hvN, ← hvN', q]), ?_, h.okm, fun p hp => h.okn p (List.mem_of_mem_eraseIdx hp), by have := h.lm; omega, by have := h.ln; rw [List.length_eraseIdx_of_lt hk]; omega, ⟨h.sv.1, by obtain ⟨a, c, e⟩ := row_slice hr; exact ⟨a, c, e⟩⟩⟩
  rw [h.eq, List.drop_eq_getElem_cons hi, aprt]
  have hf' : cur.findIdx? (fun b => (open Classical in decide ((fun p : Lt × Value × Value => kap p.1) ms[i] = (fun p : Lt × Value × Value => kap p.1) b))) = some k := hf
  rw [hf']
end

end Go.Proofs.YtglphfhlpobgcaaGreat

/-
  multi.apart, of literals.
-/
namespace Go.Proofs.YtglphfhlpobgcaaGreat
open Go.RowKit Go.Maps

set_option maxRecDepth 100000 in
set_option maxHeartbeats 8000000 in
theorem apartL_any (w0 : World) (ms ns : List (Lt × Value × Value)) (vm vn : Value) (w : World) (hw : Below w0.heap.size w0 w) (hm : RdL w0 w vm ms) (hn : RdL w0 w vn ns) (lm : ms.length ≤ 60000) (ln : ns.length ≤ 60000) :
    Calls Tryz.prog 71 #[fsL, vm, vn] w fun e w' => ∃ v1 v2, e = .returned (.tuple #[v1, v2]) ∧ RdL w0 w' v1 (cmpt (fun p : Lt × Value × Value => kap p.1) (aprt (fun p : Lt × Value × Value => kap p.1) ms ns).1) ∧ RdL w0 w' v2 (cmpt (fun p : Lt × Value × Value => kap p.1) (aprt (fun p : Lt × Value × Value => kap p.1) ms ns).2) ∧ Below w.heap.size w w' := by
  obtain ⟨i0, hi0, hz0, hz1, hz2⟩ := info_parts Tryz.info32q
  obtain ⟨w1, h1⟩ : ∃ X, w.alloc (.cells #[fsL] 64) = X := ⟨_, rfl⟩
  have b1 : Below w.heap.size w w1 := by rw [← h1]; exact below_box _ _
  have s1 : w1.heap.size = w.heap.size + 1 := by rw [← h1]; simp
  have cs := box1_cells w fsL 64
  rw [h1] at cs
  have hm1 := hm.keep b1
  have hcl := cloneL_any w0 ns vn w1 (hn.keep b1) (by omega)
  have b01 : Below w0.heap.size w0 w1 := hw.trans (b1.mono hw.size)
  obtain ⟨ma, mc, rfl, hmc1, hmc2⟩ := hm.slice
  obtain ⟨na, nc, rfl, _, _⟩ := hn.slice
  have HH : Hid (RdL w0 w1 (.slice ma ms.length mc) ms ∧ Below w0.heap.size w0 w1 ∧ w1.cell? ⟨w.heap.size, 0, none⟩ = some fsL ∧ w1.heap.size = w.heap.size + 1 ∧ Below w.heap.size w w1 ∧ ∀ p ∈ ns, OkL w0 p) := ⟨hm1, b01, cs, s1, b1, hn.ok⟩
  clear hm hn hm1 b01 cs b1
  go_enter Tryz.func71, Tryz.ntmps71
  try rw [h1]
  go_wp2_with fail
  try rw [h1]
  refine hcl.mono ?_
  rintro e W2 ⟨v', rfl, hr, hb2⟩
  obtain ⟨ca, cc, rfl⟩ := row_slice hr
  have HA : Hid (ApL w0 w1 ms ns 0 (.slice none 0 0) (.slice ca ns.length cc) [] ns W2) := ⟨⟨rfl, .inl ⟨rfl, rfl⟩⟩, hr, hb2, fun g e => by simp [Value.ownBlock] at e, by simp, by simp, HH.out.2.2.2.2.2, Nat.le_refl _, Nat.le_refl _, ⟨none, 0, rfl⟩, ⟨_, _, rfl⟩⟩
  clear hcl hr hb2
  go_wp2
  go_loopw [6, 7, 15] (fun v6 v7 vi wr => ∃ (i : Nat) (a6 : Option Addr) (n6 c6 : Nat) (a7 : Option Addr) (n7 c7 : Nat), v6 = .slice a6 n6 c6 ∧ v7 = .slice a7 n7 c7 ∧ vi = .int .i64 i ∧ i ≤ ms.length ∧ Hid (∃ out cur, n6 = out.length ∧ n7 = cur.length ∧ ApL w0 w1 ms ns i (.slice a6 n6 c6) (.slice a7 n7 c7) out cur wr)) (fun _ _ vi _ => ms.length - (intOf vi).toNat)
  case atStart => exact ⟨0, none, 0, 0, ca, ns.length, cc, rfl, rfl, rfl, Nat.zero_le _, [], ns, rfl, rfl, HA.out⟩
  case round =>
    obtain ⟨i, a6, n6, c6, a7, n7, c7, rfl, rfl, rfl, hi, HI⟩ := hrel
    obtain ⟨out, cur, rfl, rfl, hA⟩ := HI.out
    clear HI HA
    by_cases hlt : i < ms.length
    · have hiI : (i : Int) < (ms.length : Int) := by omega
      obtain ⟨bb, o, rfl, hlb, hcs, hok⟩ := (HH.out.1.keep hA.bel).nth hlt
      -- the box
      obtain ⟨Wz, hWz⟩ : ∃ X, wr.alloc (.cells #[.bool false, .int .i64 0, .string ⟨#[]⟩, .slice none 0 0, .int .i64 0, .string ⟨#[]⟩, .slice none 0 0] 32) = X := ⟨_, rfl⟩
      have bz : Below wr.heap.size wr Wz := by rw [← hWz]; exact below_box _ _
      have hz : Wz.heap[wr.heap.size]? = some (.cells #[.bool false, .int .i64 0, .string ⟨#[]⟩, .slice none 0 0, .int .i64 0, .string ⟨#[]⟩, .slice none 0 0] 32 (0, 0)) := by rw [← hWz]; exact (MapKept.heap_alloc _ _).1
      obtain ⟨W4, hrun, hcp, hon⟩ := bxstL Wz wr.heap.size #[.bool false, .int .i64 0, .string ⟨#[]⟩, .slice none 0 0, .int .i64 0, .string ⟨#[]⟩, .slice none 0 0] ms[i] hz rfl (onesL (w0 := w0) (fun p hp => by
        have e : p = ms[i] := by simpa using hp
        rw [e]; exact hok))
      have b4 : Below wr.heap.size wr W4 := bz.trans (hon.below bz.size (by simp))
      have hA4 := hA.below b4
      have s4 : wr.heap.size < W4.heap.size := by
        have := hon.size
        have : Wz.heap.size = wr.heap.size + 1 := by rw [← hWz]; simp
        omega
      have hws := hA.bel.size
      have d4 : W4.cell? ⟨w.heap.size, 0, none⟩ = some fsL := kc hA4.bel (by have := HH.out.2.2.2.1; omega) HH.out.2.2.1
      have hw04 : Below w0.heap.size w0 W4 := HH.out.2.1.trans (hA4.bel.mono HH.out.2.1.size)
      have hpr := apart1L w0 W4 w.heap.size wr.heap.size ms[i] hok hw04 d4 (by have := HH.out.2.2.2.1; omega) hcp s4
      have hix := indexL_any w0 W4 112 _ _ eg112 hpr cur _ W4 (Below.refl _ _) (rdL_of_row hA4.rn hA4.okn)
      obtain ⟨q, hq⟩ : ∃ q, ms[i] = q := ⟨_, rfl⟩
      have HQ : Hid (∃ h : i < ms.length, ms[i] = q) := ⟨hlt, hq⟩
      have HA4 : Hid (ApL w0 w1 ms ns i (.slice a6 out.length c6) (.slice a7 cur.length c7) out cur W4 ∧ OkL w0 q ∧ CsL W4 wr.heap.size 0 q ∧ wr.heap.size < W4.heap.size) := ⟨hA4, hq ▸ hok, hq ▸ hcp, s4⟩
      have hmax : out.length ≤ 60000 := by have := hA.lm; omega
      rw [hq] at hcs hrun hix hok
      have hff := firstG_find (fun p => smL q p) cur 0
      clear hA hA4 hcp hon b4 bz hz d4 hw04 hpr hq hws s4
      obtain ⟨x, sx, rx⟩ := q
      simp only [OkL] at hok
      obtain ⟨xa, xc, rfl, _, _⟩ := hok.1.1.slice
      obtain ⟨xb, xd, rfl, _, _⟩ := hok.1.2.slice
      obtain ⟨k0, k1, k2, k3, k4, k5, k6⟩ := hcs
      simp only at k0 k1 k2 k3 k4 k5 k6 hrun
      clear hok
      rcases hff with ⟨e1, e2⟩ | ⟨k, hk, e1, e2⟩
      · rw [e1] at hix
        have HF : Hid (cur.findIdx? (fun p => smL (x, .slice xa x.l.args.length xc, .slice xb x.r.args.length xd) p) = none) := e2
        clear e1 e2
        go_wp2_with (first | (refine wpList_store_run rfl 32 _ _ rfl (.pointer (some ⟨wr.heap.size, 0, none⟩)) (lval x (.slice xa x.l.args.length xc) (.slice xb x.r.args.length xd)) rfl rfl hrun ?_))
        try rw [hWz]
        refine hix.mono ?_
        rintro e W5 ⟨rfl, hb5⟩
        have hA5 := HA4.out.1.below hb5
        have hc5 := HA4.out.2.2.1.keep hb5 HA4.out.2.2.2
        obtain ⟨g0, g1, g2, g3, g4, g5, g6⟩ := hc5
        simp only [Nat.zero_add] at g0 g1 g2 g3 g4 g5 g6
        have hb6 := below_box W5 (.cells #[.bool x.neg, .int .i64 x.l.v, .string x.l.fn, .slice xa x.l.args.length xc, .int .i64 x.r.v, .string x.r.fn, .slice xb x.r.args.length xd] 32)
        have hrow6 : (W5.alloc (.cells #[.bool x.neg, .int .i64 x.l.v, .string x.l.fn, .slice xa x.l.args.length xc, .int .i64 x.r.v, .string x.r.fn, .slice xb x.r.args.length xd] 32)).ownsRow w1.heap.size 32 7 (.slice a6 out.length c6) out.length (flL out) := (hA5.below hb6).rm
        have hones : Hid (∀ u ∈ flL [(x, .slice xa x.l.args.length xc, .slice xb x.r.args.length xd)], u.oneCell' = true) := onesL (w0 := w0) (fun p hp => by
          have e : p = (x, .slice xa x.l.args.length xc, .slice xb x.r.args.length xd) := by simpa using hp
          rw [e]; exact HA4.out.2.1)
        have hlow : w1.heap.size ≤ W5.heap.size := hA5.bel.size
        have HA5 : Hid (ApL w0 w1 ms ns i (.slice a6 out.length c6) (.slice a7 cur.length c7) out cur (W5.alloc (.cells #[.bool x.neg, .int .i64 x.l.v, .string x.l.fn, .slice xa x.l.args.length xc, .int .i64 x.r.v, .string x.r.fn, .slice xb x.r.args.length xd] 32))) := hA5.below hb6
        clear hix hrun hA5 hb5 hb6 k0 k1 k2 k3 k4 k5 k6
        go_wp2_with (first
          | (at_builtin; refine wpList_append_own_at _ rfl _ _ 34 rfl w1.heap.size 32 i0 _ 7 104 Tryz.underlying34 hi0 hz0 hz1 hz2 rfl (by decide) (.slice a6 out.length c6) out.length (flL out) rfl hrow6 ⟨W5.heap.size, 0, none⟩ 1 1 (flL [(x, .slice xa x.l.args.length xc, .slice xb x.r.args.length xd)]) rfl (by rw [flL_len]; simp) (fun j u hj => by { rw [Addr.add_mid, Nat.zero_add, cell_of_row _ _ _ _ 32 (0, 0) (MapKept.heap_alloc W5 _).1]; rw [flL_one] at hj; simpa using hj }) hones.out (by unfold maxLen; omega) (by omega) (by simp; omega) ?_; intro v' w6 hown6 hg6 hnil6 hat6; obtain ⟨a8, c8, rfl⟩ := row_slice hown6))
        have HN : Hid (∃ out' cur', out.length + 1 = out'.length ∧ cur.length = cur'.length ∧ ApL w0 w1 ms ns (i + 1) (.slice a8 (out.length + 1) c8) (.slice a7 cur.length c7) out' cur' w6) := by
          obtain ⟨h, e⟩ := HQ.out
          refine ⟨out ++ [ms[i]], cur, by simp, rfl, HA5.out.add h (by rw [e]; exact HA4.out.2.1) (by rw [e]; exact HF.out) (by rw [e]; exact hown6) hg6 hat6⟩
        clear hown6 hg6 hnil6 hat6 hrow6 g0 g1 g2 g3 g4 g5 g6
        go_roundw
        case rel => exact ⟨i + 1, a8, out.length + 1, c8, a7, cur.length, c7, rfl, rfl, by go_num, by omega, HN.out⟩
        case measure => simp [intOf]; omega
      · rw [e1, Nat.zero_add] at hix
        have HF : Hid (cur.findIdx? (fun p => smL (x, .slice xa x.l.args.length xc, .slice xb x.r.args.length xd) p) = some k ∧ k < cur.length) := ⟨e2, hk⟩
        have hk0 : ¬ (k : Int) < 0 := by omega
        clear e1 e2
        go_wp2_with (first | (refine wpList_store_run rfl 32 _ _ rfl (.pointer (some ⟨wr.heap.size, 0, none⟩)) (lval x (.slice xa x.l.args.length xc) (.slice xb x.r.args.length xd)) rfl rfl hrun ?_))
        try rw [hWz]
        refine hix.mono ?_
        rintro e W5 ⟨rfl, hb5⟩
        have hA5 := HA4.out.1.below hb5
        have hdel := deleteL_any w0 w1.heap.size cur (.slice a7 cur.length c7) W5 hA5.rn hA5.okn k (k + 1) rfl hk
        have hcn : (((k + 1 : Nat)) : Int) = (k : Int) + 1 := rfl
        rw [hcn] at hdel
        have hkb : (k : Int) ≤ 60000 := by have := hA5.ln; omega
        have HA5 : Hid (ApL w0 w1 ms ns i (.slice a6 out.length c6) (.slice a7 cur.length c7) out cur W5) := hA5
        clear hix hrun hA5 hb5 k0 k1 k2 k3 k4 k5 k6 hcn
        go_wp2_with fail
        refine hdel.mono ?_
        rintro e W6 ⟨v', g, rfl, hv1, hv2, hr6, ho6⟩
        obtain ⟨a8, c8, rfl⟩ := row_slice hr6
        obtain ⟨n8, hn8⟩ : ∃ n, (cur.eraseIdx k).length = n := ⟨_, rfl⟩
        have HN : Hid (∃ out' cur', out.length = out'.length ∧ n8 = cur'.length ∧ ApL w0 w1 ms ns (i + 1) (.slice a6 out.length c6) (.slice a8 n8 c8) out' cur' W6) := by
          obtain ⟨h, e⟩ := HQ.out
          subst hn8
          exact ⟨out, cur.eraseIdx k, rfl, rfl, HA5.out.cut h (by rw [e]; exact HF.out.1) HF.out.2 hv1 hv2 hr6 ho6⟩
        rw [hn8]
        clear hdel hv1 hv2 hr6 ho6 hn8
        go_wp2
        go_roundw
        case rel => exact ⟨i + 1, a6, out.length, c6, a8, n8, c8, rfl, rfl, by go_num, by omega, HN.out⟩
        case measure => simp [intOf]; omega
    · have he := hA.eq
      rw [List.drop_eq_nil_of_le (by omega)] at he
      simp only [aprt, List.append_nil] at he
      obtain ⟨xs, hxs⟩ : ∃ l, cmpt (fun p : Lt × Value × Value => kap p.1) out = l := ⟨_, rfl⟩
      obtain ⟨ys, hys⟩ : ∃ l, cmpt (fun p : Lt × Value × Value => kap p.1) cur = l := ⟨_, rfl⟩
      have b01 := HH.out.2.1
      have hcM : ∀ Z, Only ((Value.slice a6 out.length c6).ownBlock.toList ++ (Value.slice a7 cur.length c7).ownBlock.toList) wr.drew Z → (∀ r, (Value.slice a6 out.length c6).ownBlock = some r → Z.heap[r]? = wr.heap[r]?) → Calls Tryz.prog 114 #[.slice a6 out.length c6, fsL] Z fun e Z' => ∃ v', e = .returned v' ∧ Z'.ownsRow w1.heap.size 32 7 v' xs.length (flL xs) ∧ v'.ownBlock = (Value.slice a6 out.length c6).ownBlock ∧ Only (Value.slice a6 out.length c6).ownBlock.toList Z Z' := fun Z hZ hk => by
        have hb : Below w1.heap.size w1 Z := hA.bel.drew.trans (hZ.below hA.bel.drew.size (fun r hr => by
          rcases List.mem_append.1 hr with q | q
          · exact (row_block hA.rm (by simpa using q)).1
          · exact (row_block hA.rn (by simpa using q)).1))
        have := compactL_any w0 w1.heap.size out (.slice a6 out.length c6) Z (rowL_keep hA.rm hk) hA.okm (b01.trans (hb.mono b01.size)) b01.size
        rw [hxs] at this
        exact this
      have hcN : ∀ Z, Only ((Value.slice a6 out.length c6).ownBlock.toList ++ (Value.slice a7 cur.length c7).ownBlock.toList) wr.drew Z → (∀ r, (Value.slice a7 cur.length c7).ownBlock = some r → Z.heap[r]? = wr.heap[r]?) → Calls Tryz.prog 114 #[.slice a7 cur.length c7, fsL] Z fun e Z' => ∃ v', e = .returned v' ∧ Z'.ownsRow w1.heap.size 32 7 v' ys.length (flL ys) ∧ v'.ownBlock = (Value.slice a7 cur.length c7).ownBlock ∧ Only (Value.slice a7 cur.length c7).ownBlock.toList Z Z' := fun Z hZ hk => by
        have hb : Below w1.heap.size w1 Z := hA.bel.drew.trans (hZ.below hA.bel.drew.size (fun r hr => by
          rcases List.mem_append.1 hr with q | q
          · exact (row_block hA.rm (by simpa using q)).1
          · exact (row_block hA.rn (by simpa using q)).1))
        have := compactL_any w0 w1.heap.size cur (.slice a7 cur.length c7) Z (rowL_keep hA.rn hk) hA.okn (b01.trans (hb.mono b01.size)) b01.size
        rw [hys] at this
        exact this
      have HDJ : Hid (∀ g, (Value.slice a6 out.length c6).ownBlock = some g → (Value.slice a7 cur.length c7).ownBlock ≠ some g) := hA.dj
      have HLT : Hid ((∀ g, (Value.slice a6 out.length c6).ownBlock = some g → g < wr.heap.size) ∧ ∀ g, (Value.slice a7 cur.length c7).ownBlock = some g → g < wr.heap.size) := ⟨fun g e => by
          obtain ⟨_, c, hc⟩ := row_block hA.rm e
          exact (Array.getElem?_eq_some_iff.1 hc).1, fun g e => by
          obtain ⟨_, c, hc⟩ := row_block hA.rn e
          exact (Array.getElem?_eq_some_iff.1 hc).1⟩
      have q1 : ∀ Z, Only ((Value.slice a6 out.length c6).ownBlock.toList ++ (Value.slice a7 cur.length c7).ownBlock.toList) wr.drew Z → Z.cell? ⟨w.heap.size, 0, none⟩ = some fsL := fun Z hZ => cell_on hZ (fun hr => by
          have hs := HH.out.2.2.2.1
          rcases List.mem_append.1 hr with q | q
          · have := (row_block hA.rm (by simpa using q)).1; omega
          · have := (row_block hA.rn (by simpa using q)).1; omega) (kc hA.bel.drew (by have := HH.out.2.2.2.1; omega) HH.out.2.2.1)
      have HO : Hid ((∀ p ∈ xs, OkL w0 p) ∧ (∀ p ∈ ys, OkL w0 p) ∧ Below w1.heap.size w1 wr.drew ∧ ∀ r ∈ (Value.slice a6 out.length c6).ownBlock.toList ++ (Value.slice a7 cur.length c7).ownBlock.toList, w1.heap.size ≤ r) := ⟨fun p hp => hA.okm p (cmpt_sub _ _ _ (by rw [hxs]; exact hp)), fun p hp => hA.okn p (cmpt_sub _ _ _ (by rw [hys]; exact hp)), hA.bel.drew, fun r hr => by
          rcases List.mem_append.1 hr with q | q
          · exact (row_block hA.rm (by simpa using q)).1
          · exact (row_block hA.rn (by simpa using q)).1⟩
      have hcMH : Hid (∀ Z, Only ((Value.slice a6 out.length c6).ownBlock.toList ++ (Value.slice a7 cur.length c7).ownBlock.toList) wr.drew Z → (∀ r, (Value.slice a6 out.length c6).ownBlock = some r → Z.heap[r]? = wr.heap[r]?) → Calls Tryz.prog 114 #[.slice a6 out.length c6, fsL] Z fun e Z' => ∃ v', e = .returned v' ∧ Z'.ownsRow w1.heap.size 32 7 v' xs.length (flL xs) ∧ v'.ownBlock = (Value.slice a6 out.length c6).ownBlock ∧ Only (Value.slice a6 out.length c6).ownBlock.toList Z Z') := hcM
      have hcNH : Hid (∀ Z, Only ((Value.slice a6 out.length c6).ownBlock.toList ++ (Value.slice a7 cur.length c7).ownBlock.toList) wr.drew Z → (∀ r, (Value.slice a7 cur.length c7).ownBlock = some r → Z.heap[r]? = wr.heap[r]?) → Calls Tryz.prog 114 #[.slice a7 cur.length c7, fsL] Z fun e Z' => ∃ v', e = .returned v' ∧ Z'.ownsRow w1.heap.size 32 7 v' ys.length (flL ys) ∧ v'.ownBlock = (Value.slice a7 cur.length c7).ownBlock ∧ Only (Value.slice a7 cur.length c7).ownBlock.toList Z Z') := hcN
      have HEQ : Hid (cmpt (fun p : Lt × Value × Value => kap p.1) (aprt (fun p : Lt × Value × Value => kap p.1) ms ns).1 = xs ∧ cmpt (fun p : Lt × Value × Value => kap p.1) (aprt (fun p : Lt × Value × Value => kap p.1) ms ns).2 = ys) := by rw [he]; exact ⟨hxs, hys⟩
      clear hA he hxs hys b01 hcM hcN
      go_wp2
      refine wp_region_held_drew (S := fun Z => Only ((Value.slice a6 out.length c6).ownBlock.toList ++ (Value.slice a7 cur.length c7).ownBlock.toList) wr.drew Z) (by kernel_rfl) (Only.refl _ _) (fun hHeld => ?_)
      refine take_mk 0 (.slice a6 out.length c6) rfl (by kernel_rfl) (by kernel_rfl) (by kernel_rfl) (fun _ _ _ h => h) (Or.inl ⟨by rfl, fun Z hZ => by go_simp⟩) (by assumption) ?_
      try simp only [Act.put, List.setIfInBounds_toArray, List.set_cons_zero, List.set_cons_succ]
      refine take_mk 1 (fsL) rfl (by kernel_rfl) (by kernel_rfl) (by kernel_rfl) (fun _ _ _ h => h) (Or.inl ⟨by rfl, fun Z hZ => by have := q1 Z hZ; go_simp⟩) (by assumption) ?_
      try simp only [Act.put, List.setIfInBounds_toArray, List.set_cons_zero, List.set_cons_succ]
      refine take_mk 3 (.slice a7 cur.length c7) rfl (by kernel_rfl) (by kernel_rfl) (by kernel_rfl) (fun _ _ _ h => h) (Or.inl ⟨by rfl, fun Z hZ => by go_simp⟩) (by assumption) ?_
      try simp only [Act.put, List.setIfInBounds_toArray, List.set_cons_zero, List.set_cons_succ]
      refine take_mk 4 (fsL) rfl (by kernel_rfl) (by kernel_rfl) (by kernel_rfl) (fun _ _ _ h => h) (Or.inl ⟨by rfl, fun Z hZ => by have := q1 Z hZ; go_simp⟩) (by assumption) ?_
      try simp only [Act.put, List.setIfInBounds_toArray, List.set_cons_zero, List.set_cons_succ]
      refine wpAnyH_ready (rs := [2]) (by kernel_rfl) (by simp) (AllReadyH.cons (o := ⟨_, _, _, _, _, _⟩) rfl (fun K hK => ?aa) AllReadyH.nil)
      case' aa =>
        rw [if_pos (by rfl)]
        go_simp
        refine (hcMH.out _ hHeld (fun r _ => rfl)).mono ?_
        rintro e X1 ⟨v1, rfl, hr1, hb1, ho1⟩
        obtain ⟨a1, c1, rfl⟩ := row_slice hr1
        have hS1 : Only ((Value.slice a6 out.length c6).ownBlock.toList ++ (Value.slice a7 cur.length c7).ownBlock.toList) wr.drew X1 := hHeld.trans ho1 (fun r hr => .inl (List.mem_append_left _ hr))
        refine hK.out _ _ hS1 (fun hHeld1 => ?_)
        clear hK K
        try simp only [Act.put, List.setIfInBounds_toArray, List.set_cons_zero, List.set_cons_succ]
        refine wpAnyH_ready (rs := [5]) (by kernel_rfl) (by simp) (AllReadyH.cons (o := ⟨_, _, _, _, _, _⟩) rfl (fun K hK => ?_) AllReadyH.nil)
        rw [if_pos (by rfl)]
        go_simp
        refine (hcNH.out _ hS1 (fun r e => ho1.block r (HLT.out.2 r e) (by simp only [Option.mem_toList]; exact fun q => HDJ.out r q e))).mono ?_
        rintro e X2 ⟨v2, rfl, hr2, hb2, ho2⟩
        obtain ⟨a2, c2, rfl⟩ := row_slice hr2
        have hS2 : Only ((Value.slice a6 out.length c6).ownBlock.toList ++ (Value.slice a7 cur.length c7).ownBlock.toList) wr.drew X2 := hS1.trans ho2 (fun r hr => .inl (List.mem_append_right _ hr))
        have HF : Hid (X2.ownsRow w1.heap.size 32 7 (.slice a1 xs.length c1) xs.length (flL xs) ∧ X2.ownsRow w1.heap.size 32 7 (.slice a2 ys.length c2) ys.length (flL ys) ∧ Only ((Value.slice a6 out.length c6).ownBlock.toList ++ (Value.slice a7 cur.length c7).ownBlock.toList) wr.drew X2) := ⟨rowL_keep hr1 (fun r e => ho2.block r (by obtain ⟨_, c, hc⟩ := row_block hr1 e; exact (Array.getElem?_eq_some_iff.1 hc).1) (by simp only [Option.mem_toList]; exact HDJ.out r (by rw [← hb1]; exact e))), hr2, hS2⟩
        refine hK.out _ _ hS2 (fun _ => ?_)
        clear hK K
        try simp only [Act.put, List.setIfInBounds_toArray, List.set_cons_zero, List.set_cons_succ]
        refine take_mk 6 (.slice a1 xs.length c1) rfl (by kernel_rfl) (by kernel_rfl) (by kernel_rfl) (fun _ _ _ h => h) (Or.inl ⟨by rfl, fun Z hZ => by go_simp⟩) (by assumption) ?_
        try simp only [Act.put, List.setIfInBounds_toArray, List.set_cons_zero, List.set_cons_succ]
        refine take_mk 7 (.slice a2 ys.length c2) rfl (by kernel_rfl) (by kernel_rfl) (by kernel_rfl) (fun _ _ _ h => h) (Or.inl ⟨by rfl, fun Z hZ => by go_simp⟩) (by assumption) ?_
        try simp only [Act.put, List.setIfInBounds_toArray, List.set_cons_zero, List.set_cons_succ]
        refine wpAnyH_done (by kernel_rfl) ?_ _
        try simp only [Act.put]
        clear hS1 hS2 hr1 hr2 hb1 hb2 ho1 ho2 hHeld1
      all_goals (
        go_wp2
        (try simp only [Exit.inBlock, Exit.then]); refine bodyPost_ret (results_tmp2 rfl _ _ _) rfl ?_
        refine ⟨_, _, rfl, by rw [HEQ.out.1]; exact rdL_of_row HF.out.1 HO.out.1, by rw [HEQ.out.2]; exact rdL_of_row HF.out.2.1 HO.out.2.1, ?_⟩
        have hb : Below w1.heap.size w1 X2 := HO.out.2.2.1.trans (HF.out.2.2.below HO.out.2.2.1.size HO.out.2.2.2)
        exact HH.out.2.2.2.2.1.trans (hb.mono HH.out.2.2.2.2.1.size))

end Go.Proofs.YtglphfhlpobgcaaGreat

/-
  multi.extend, of literals.
-/
namespace Go.Proofs.YtglphfhlpobgcaaGreat
open Go.RowKit Go.Maps

theorem extL_tells (o : Od) (ms ns : List (Lt × Value × Value)) {xs ys : List (Lt × Value × Value)} (hx : cmpt (fun p : Lt × Value × Value => kap p.1) (aprt (fun p : Lt × Value × Value => kap p.1) ms ns).1 = xs) (hy : cmpt (fun p : Lt × Value × Value => kap p.1) (aprt (fun p : Lt × Value × Value => kap p.1) ms ns).2 = ys) :
    ((xs.length = 0 ∧ ys.length = 0) → mcmp (gL o) (ms.map (fun p : Lt × Value × Value => kap p.1)) (ns.map (fun p : Lt × Value × Value => kap p.1)) = 0) ∧
    (¬ (xs.length = 0 ∧ ys.length = 0) → covBL o xs ys = true → mcmp (gL o) (ms.map (fun p : Lt × Value × Value => kap p.1)) (ns.map (fun p : Lt × Value × Value => kap p.1)) = 1) ∧
    (¬ (xs.length = 0 ∧ ys.length = 0) → covBL o xs ys = false → covBL o ys xs = true → mcmp (gL o) (ms.map (fun p : Lt × Value × Value => kap p.1)) (ns.map (fun p : Lt × Value × Value => kap p.1)) = -1) ∧
    (¬ (xs.length = 0 ∧ ys.length = 0) → covBL o xs ys = false → covBL o ys xs = false → mcmp (gL o) (ms.map (fun p : Lt × Value × Value => kap p.1)) (ns.map (fun p : Lt × Value × Value => kap p.1)) = 2) := by
  obtain ⟨h1, h2⟩ := left_apart (fun p : Lt × Value × Value => kap p.1) ms ns
  rw [hx] at h1
  rw [hy] at h2
  obtain ⟨t1, t2⟩ := left_tells (fun p : Lt × Value × Value => kap p.1) (gL o) h1 h2
  obtain ⟨_, t3⟩ := left_tells (fun p : Lt × Value × Value => kap p.1) (gL o) h2 h1
  have hl : (xs.length = 0 ∧ ys.length = 0) ↔ (xs = [] ∧ ys = []) := by simp [List.length_eq_zero_iff]
  have no : ∀ {a b : List (Lt × Value × Value)}, covBL o a b = false → ¬ cov (fun p : Lt × Value × Value => kap p.1) (gL o) a b := fun {a b} h k => by rw [covBL_iff.2 k] at h; cases h
  unfold mcmp
  refine ⟨fun h => ?_, fun h k => ?_, fun h k q => ?_, fun h k q => ?_⟩
  · rw [if_pos (t1.1 (hl.1 h))]
  · have hne := fun e => h (hl.2 e)
    rw [if_neg (fun e => hne (t1.2 e)), if_pos ((t2 hne).1 (covBL_iff.1 k))]
  · have hne := fun e => h (hl.2 e)
    rw [if_neg (fun e => hne (t1.2 e)), if_neg (fun e => no k ((t2 hne).2 e)), if_pos ((t3 (fun e => hne ⟨e.2, e.1⟩)).1 (covBL_iff.1 q))]
  · have hne := fun e => h (hl.2 e)
    rw [if_neg (fun e => hne (t1.2 e)), if_neg (fun e => no k ((t2 hne).2 e)), if_neg (fun e => no q ((t3 (fun e => hne ⟨e.2, e.1⟩)).2 e))]

set_option maxRecDepth 100000 in
set_option maxHeartbeats 4000000 in
theorem extendL_any (w0 : World) (o : Od) (vn vw : Value) (ho : OdAt w0 o vn vw) (hO : OrdrL w0 o vn vw) (ms ns : List (Lt × Value × Value)) (vm v : Value) (w : World) (hw : Below w0.heap.size w0 w) (hm : RdL w0 w vm ms) (hn : RdL w0 w v ns) (lm : ms.length ≤ 60000) (ln : ns.length ≤ 60000) :
    Calls Tryz.prog 39 #[fsL, foL o vn vw, vm, v] w fun e w' => e = .returned (.int .i64 (mcmp (gL o) (ms.map (fun p : Lt × Value × Value => kap p.1)) (ns.map (fun p : Lt × Value × Value => kap p.1)))) ∧ Below w.heap.size w w' := by
  have hap := apartL_any w0 ms ns vm v w hw hm hn lm ln
  obtain ⟨xs, hx⟩ : ∃ l, cmpt (fun p : Lt × Value × Value => kap p.1) (aprt (fun p : Lt × Value × Value => kap p.1) ms ns).1 = l := ⟨_, rfl⟩
  obtain ⟨ys, hy⟩ : ∃ l, cmpt (fun p : Lt × Value × Value => kap p.1) (aprt (fun p : Lt × Value × Value => kap p.1) ms ns).2 = l := ⟨_, rfl⟩
  have HT := extL_tells o ms ns hx hy
  rw [hx, hy] at hap
  have hcv := fun (W : World) (a b : Value) (hW : Below w.heap.size w W) (h1 : RdL w0 W a xs) (h2 : RdL w0 W b ys) => coversL_any w0 o vn vw ho hO xs ys a b W (hw.trans (hW.mono hw.size)) h1 h2
  have hcv' := fun (W : World) (a b : Value) (hW : Below w.heap.size w W) (h1 : RdL w0 W a ys) (h2 : RdL w0 W b xs) => coversL_any w0 o vn vw ho hO ys xs a b W (hw.trans (hW.mono hw.size)) h1 h2
  obtain ⟨z, hz⟩ : ∃ z, mcmp (gL o) (ms.map (fun p : Lt × Value × Value => kap p.1)) (ns.map (fun p : Lt × Value × Value => kap p.1)) = z := ⟨_, rfl⟩
  rw [hz] at HT ⊢
  obtain ⟨ma, mc, rfl, _, _⟩ := hm.slice
  obtain ⟨na, nc, rfl, _, _⟩ := hn.slice
  obtain ⟨an, nn, cn, rfl⟩ := ho.vn
  obtain ⟨aw, nw, cw, rfl⟩ := ho.vw
  have HC : Hid (∀ (W : World) (a b : Value), Below w.heap.size w W → RdL w0 W a xs → RdL w0 W b ys → Calls Tryz.prog 72 #[foL o (.slice an nn cn) (.slice aw nw cw), a, b] W fun e w' => e = .returned (.bool (covBL o xs ys)) ∧ Below W.heap.size W w') := hcv
  have HC' : Hid (∀ (W : World) (a b : Value), Below w.heap.size w W → RdL w0 W a ys → RdL w0 W b xs → Calls Tryz.prog 72 #[foL o (.slice an nn cn) (.slice aw nw cw), a, b] W fun e w' => e = .returned (.bool (covBL o ys xs)) ∧ Below W.heap.size W w') := hcv'
  clear hz hcv hcv' hm hn ho hO hw hx hy
  by_cases h0 : xs.length = 0 ∧ ys.length = 0
  · have HV : Hid (z = 0) := HT.1 h0
    have e1 : ((xs.length : Int) == 0) = true := by rw [h0.1]; rfl
    have e2 : ((ys.length : Int) == 0) = true := by rw [h0.2]; rfl
    clear h0 HT
    go_enter Tryz.func39, Tryz.ntmps39
    go_wp2_with fail
    refine hap.mono ?_
    rintro e W2 ⟨v1, v2, rfl, r1, r2, b2⟩
    obtain ⟨a1, c1, rfl, _, _⟩ := r1.slice
    obtain ⟨a2, c2, rfl, _, _⟩ := r2.slice
    have HB : Hid (Below w.heap.size w W2) := b2
    clear r1 r2 b2
    go_wp2
    go_ret
    exact ⟨ret_i64 HV.out.symm, HB.out⟩
  · have hp : (((xs.length : Int) == 0) = true ∧ ((ys.length : Int) == 0) = false) ∨ ((xs.length : Int) == 0) = false := by
      by_cases e : xs.length = 0
      · exact .inl ⟨by rw [e]; rfl, by rw [beq_eq_false_iff_ne]; omega⟩
      · exact .inr (by rw [beq_eq_false_iff_ne]; omega)
    cases k1 : covBL o xs ys
    case true =>
      have HV : Hid (z = 1) := HT.2.1 h0 k1
      rw [k1] at HC
      clear h0 HT k1 HC'
      rcases hp with ⟨e1, e2⟩ | e1
      all_goals (
        go_enter Tryz.func39, Tryz.ntmps39
        go_wp2_with fail
        refine hap.mono ?_
        rintro e W2 ⟨v1, v2, rfl, r1, r2, b2⟩
        have hcc := HC.out W2 v1 v2 b2 r1 r2
        obtain ⟨a1, c1, rfl, _, _⟩ := r1.slice
        obtain ⟨a2, c2, rfl, _, _⟩ := r2.slice
        have HB : Hid (Below w.heap.size w W2) := b2
        clear r1 r2 b2
        go_wp2_with fail
        refine hcc.mono ?_
        rintro e W3 ⟨rfl, b3⟩
        go_wp2
        go_ret
        exact ⟨ret_i64 HV.out.symm, HB.out.trans (b3.mono HB.out.size)⟩)
    case false =>
      rw [k1] at HC
      cases k2 : covBL o ys xs
      · rw [k2] at HC'
        have HV : Hid (z = 2) := by show _ = _; exact HT.2.2.2 h0 k1 k2
        clear h0 HT k1 k2
        rcases hp with ⟨e1, e2⟩ | e1
        all_goals (
          go_enter Tryz.func39, Tryz.ntmps39
          go_wp2_with fail
          refine hap.mono ?_
          rintro e W2 ⟨v1, v2, rfl, r1, r2, b2⟩
          have hcc := HC.out W2 v1 v2 b2 r1 r2
          have r1H : Hid (RdL w0 W2 v1 xs ∧ RdL w0 W2 v2 ys) := ⟨r1, r2⟩
          obtain ⟨a1, c1, rfl, _, _⟩ := r1.slice
          obtain ⟨a2, c2, rfl, _, _⟩ := r2.slice
          have HB : Hid (Below w.heap.size w W2) := b2
          clear r1 r2 b2
          go_wp2_with fail
          refine hcc.mono ?_
          rintro e W3 ⟨rfl, b3⟩
          have b03 := HB.out.trans (b3.mono HB.out.size)
          have hcd := HC'.out W3 _ _ b03 (r1H.out.2.keep b3) (r1H.out.1.keep b3)
          have HB3 : Hid (Below w.heap.size w W3) := b03
          clear b3 b03 hcc
          go_wp2_with fail
          refine hcd.mono ?_
          rintro e W4 ⟨rfl, b4⟩
          go_wp2
          go_ret
          exact ⟨ret_i64 HV.out.symm, HB3.out.trans (b4.mono HB3.out.size)⟩)
      · rw [k2] at HC'
        have HV : Hid (z = -1) := by show _ = _; exact HT.2.2.1 h0 k1 k2
        clear h0 HT k1 k2
        rcases hp with ⟨e1, e2⟩ | e1
        all_goals (
          go_enter Tryz.func39, Tryz.ntmps39
          go_wp2_with fail
          refine hap.mono ?_
          rintro e W2 ⟨v1, v2, rfl, r1, r2, b2⟩
          have hcc := HC.out W2 v1 v2 b2 r1 r2
          have r1H : Hid (RdL w0 W2 v1 xs ∧ RdL w0 W2 v2 ys) := ⟨r1, r2⟩
          obtain ⟨a1, c1, rfl, _, _⟩ := r1.slice
          obtain ⟨a2, c2, rfl, _, _⟩ := r2.slice
          have HB : Hid (Below w.heap.size w W2) := b2
          clear r1 r2 b2
          go_wp2_with fail
          refine hcc.mono ?_
          rintro e W3 ⟨rfl, b3⟩
          have b03 := HB.out.trans (b3.mono HB.out.size)
          have hcd := HC'.out W3 _ _ b03 (r1H.out.2.keep b3) (r1H.out.1.keep b3)
          have HB3 : Hid (Below w.heap.size w W3) := b03
          clear b3 b03 hcc
          go_wp2_with fail
          refine hcd.mono ?_
          rintro e W4 ⟨rfl, b4⟩
          go_wp2
          go_ret
          exact ⟨ret_i64 HV.out.symm, HB3.out.trans (b4.mono HB3.out.size)⟩)

end Go.Proofs.YtglphfhlpobgcaaGreat
