import Derived.Test.YtglphfhlpobgcaaGreatYF

namespace Go.Proofs.YtglphfhlpobgcaaGreat
open Go.RowKit Go.Maps
abbrev oval (o : Od) (vn vw : Value) : Value := .agg #[.bool o.path, vn, vw]
abbrev obox (o : Od) (vn vw : Value) : Obj := .cells #[.bool o.path, vn, vw] 40
structure OdAt (w0 : World) (o : Od) (vn vw : Value) : Prop where
  sg : SgAt w0 o.g vn vw
  vn : ∃ a n c, vn = .slice a n c
  vw : ∃ a n c, vw = .slice a n c
theorem odAt_of {w0 : World} {o : Od} {vn vw : Value} (h : SgAt w0 o.g vn vw) : OdAt w0 o vn vw := by
  obtain ⟨a, c, e, _⟩ := h.ns.slice
  obtain ⟨a', c', e', _⟩ := h.ws.slice
  exact ⟨h, ⟨_, _, _, e⟩, ⟨_, _, _, e'⟩⟩
theorem obox_cells (w : World) (x y z : Value) (ty : TypeId) : (w.alloc (.cells #[x, y, z] ty)).cell? ⟨w.heap.size, 0, none⟩ = some x ∧ (w.alloc (.cells #[x, y, z] ty)).cell? ⟨w.heap.size, 1, none⟩ = some y ∧ (w.alloc (.cells #[x, y, z] ty)).cell? ⟨w.heap.size, 2, none⟩ = some z := by
  have h : (w.alloc (.cells #[x, y, z] ty)).heap[w.heap.size]? = some (.cells [x, y, z].toArray ty (0, 0)) := (MapKept.heap_alloc w (.cells #[x, y, z] ty)).1
  refine ⟨?_, ?_, ?_⟩ <;> rw [cell_of_row _ _ _ _ ty (0, 0) h] <;> rfl
theorem box1_cells (w : World) (x : Value) (ty : TypeId) : (w.alloc (.cells #[x] ty)).cell? ⟨w.heap.size, 0, none⟩ = some x := by
  have h : (w.alloc (.cells #[x] ty)).heap[w.heap.size]? = some (.cells [x].toArray ty (0, 0)) := (MapKept.heap_alloc w (.cells #[x] ty)).1
  rw [cell_of_row _ _ _ _ ty (0, 0) h]; rfl
set_option maxRecDepth 100000 in
set_option maxHeartbeats 2000000 in
theorem oterms_any (w0 : World) (o : Od) (vn vw : Value) (ho : OdAt w0 o vn vw) (p q : T × Value) (hp : OkT w0 p) (hq : OkT w0 q) (W : World) (hW : Below w0.heap.size w0 W) :
    Calls Tryz.prog 11 #[oval o vn vw, tval p.1 p.2, tval q.1 q.2] W fun e W' => e = .returned (.int .i64 (ocmp o p.1 q.1)) ∧ Below W.heap.size W W' := by
  obtain ⟨x, sx⟩ := p
  obtain ⟨y, sy⟩ := q
  simp only [OkT] at hp hq
  obtain ⟨an, nn, cn, rfl⟩ := ho.vn
  obtain ⟨aw, nw, cw, rfl⟩ := ho.vw
  obtain ⟨a, ca, rfl, _, _⟩ := hp.1.slice
  obtain ⟨b, cb, rfl, _, _⟩ := hq.1.slice
  obtain ⟨W1, h1⟩ : ∃ X, W.alloc (obox o (.slice an nn cn) (.slice aw nw cw)) = X := ⟨_, rfl⟩
  obtain ⟨W2, h2⟩ : ∃ X, W1.alloc (tbox x (.slice a x.args.length ca)) = X := ⟨_, rfl⟩
  obtain ⟨W3, h3⟩ : ∃ X, W2.alloc (tbox y (.slice b y.args.length cb)) = X := ⟨_, rfl⟩
  have b1 : Below W.heap.size W W1 := by rw [← h1]; exact below_box _ _
  have b2 : Below W1.heap.size W1 W2 := by rw [← h2]; exact below_box _ _
  have b3 : Below W2.heap.size W2 W3 := by rw [← h3]; exact below_box _ _
  have s1 : W1.heap.size = W.heap.size + 1 := by rw [← h1]; simp
  have s2 : W2.heap.size = W.heap.size + 2 := by rw [← h2]; simp [s1]
  have b13 : Below W1.heap.size W1 W3 := b2.trans (b3.mono b2.size)
  have bb : Below W.heap.size W W3 := b1.trans (b13.mono b1.size)
  obtain ⟨o0, o1, o2⟩ := obox_cells W (.bool o.path) (.slice an nn cn) (.slice aw nw cw) 40
  rw [h1] at o0 o1 o2
  obtain ⟨x0, x1, x2⟩ := tbox_cells W1 x (.slice a x.args.length ca)
  rw [h2, s1] at x0 x1 x2
  obtain ⟨y0, y1, y2⟩ := tbox_cells W2 y (.slice b y.args.length cb)
  rw [h3, s2] at y0 y1 y2
  have o0' := kc b13 (by omega) o0
  have o1' := kc b13 (by omega) o1
  have o2' := kc b13 (by omega) o2
  have x0' := kc b3 (by omega) x0
  have x1' := kc b3 (by omega) x1
  have x2' := kc b3 (by omega) x2
  have b03 : Below w0.heap.size w0 W3 := hW.trans (bb.mono hW.size)
  have hl := lcompare_any o.g x y _ _ _ _ W3 (ho.sg.keep b03 (Nat.le_refl _)) (ArgsAt.keep b03 (Nat.le_refl _) hp.1) (ArgsAt.keep b03 (Nat.le_refl _) hq.1) hp.2 hq.2
  have hk := kcompare_any o.g x y _ _ _ _ W3 (ho.sg.keep b03 (Nat.le_refl _)) (ArgsAt.keep b03 (Nat.le_refl _) hp.1) (ArgsAt.keep b03 (Nat.le_refl _) hq.1) hp.2 hq.2
  have HB : Hid (Below W.heap.size W W3) := bb
  obtain ⟨path, g⟩ := o
  simp only at o0' hl hk
  cases path
  · have HV : Hid (ocmp ⟨false, g⟩ x y = ccmp g x y) := by show _ = _; simp [ocmp]
    clear hl b1 b2 b3 b13 bb b03 ho hp hq o0 o1 o2 x0 x1 x2
    go_enter Tryz.func11, Tryz.ntmps11
    try rw [h1]
    try rw [h2]
    try rw [h3]
    try rw [s1]
    try rw [s2]
    go_wp2_with fail
    try rw [h1, h2, h3]
    refine hk.mono ?_
    rintro e W4 ⟨rfl, hb4⟩
    go_wp2
    go_ret
    exact ⟨ret_i64 HV.out.symm, HB.out.trans (hb4.mono HB.out.size)⟩
  · have HV : Hid (ocmp ⟨true, g⟩ x y = lcmp g x y) := by show _ = _; simp [ocmp]
    clear hk b1 b2 b3 b13 bb b03 ho hp hq o0 o1 o2 x0 x1 x2
    go_enter Tryz.func11, Tryz.ntmps11
    try rw [h1]
    try rw [h2]
    try rw [h3]
    try rw [s1]
    try rw [s2]
    go_wp2_with fail
    try rw [h1, h2, h3]
    refine hl.mono ?_
    rintro e W4 ⟨rfl, hb4⟩
    go_wp2
    go_ret
    exact ⟨ret_i64 HV.out.symm, HB.out.trans (hb4.mono HB.out.size)⟩
end Go.Proofs.YtglphfhlpobgcaaGreat

namespace Go.Proofs.YtglphfhlpobgcaaGreat
open Go.RowKit Go.Maps
abbrev foT (o : Od) (vn vw : Value) : Value := .func (.func 11) #[oval o vn vw] #[]
noncomputable def odT (o : Od) (p q : (T × Value)) : Int := ocmp o p.1 q.1
def OrdrT (w0 : World) (o : Od) (vn vw : Value) : Prop := ∀ (p q : (T × Value)) (W : World), OkT w0 p → OkT w0 q → Below w0.heap.size w0 W →
  Calls Tryz.prog 11 #[oval o vn vw, tval p.1 p.2, tval q.1 q.2] W fun e W' => e = .returned (.int .i64 (odT o p q)) ∧ Below W.heap.size W W'
theorem eg11 : ∀ args w, (callFunc 11 args).run Tryz.prog w = .ok (.enter 11 args) w := enters_of Tryz.func11 (by kernel_rfl) rfl
theorem eg141 : ∀ args w, (callFunc 141 args).run Tryz.prog w = .ok (.enter 141 args) w := enters_of Tryz.func141 (by kernel_rfl) rfl
theorem eg142 : ∀ args w, (callFunc 142 args).run Tryz.prog w = .ok (.enter 142 args) w := enters_of Tryz.func142 (by kernel_rfl) rfl
theorem bxT_cells (w : World) (p : (T × Value)) : CsT (w.alloc (tbox p.1 p.2)) w.heap.size 0 p := by
  have h : (w.alloc (tbox p.1 p.2)).heap[w.heap.size]? = some (.cells (flT [p]).toArray 30 (0, 0)) := by rw [flT_one]; exact (MapKept.heap_alloc w (tbox p.1 p.2)).1
  have := csT_of (W := w.alloc (tbox p.1 p.2)) (b := w.heap.size) (off := 0) (ps := [p]) (fun j u hj => by rw [Nat.zero_add, cell_of_row _ _ _ _ 30 (0, 0) h]; simpa using hj) (i := 0) (by simp)
  simpa using this
set_option maxRecDepth 100000 in
set_option maxHeartbeats 2000000 in
theorem cov2T (w0 W0 : World) (o : Od) (vn vw : Value) (ho : OdAt w0 o vn vw) (hO : OrdrT w0 o vn vw) (bo bb : Nat) (q : (T × Value)) (hq : OkT w0 q) (hw : Below w0.heap.size w0 W0) (c1 : W0.cell? ⟨bo, 0, none⟩ = some (foT o vn vw)) (lo : bo < W0.heap.size) (cq : CsT W0 bb 0 q) (lq : bb < W0.heap.size) :
    PrT w0 W0 142 #[.pointer (some ⟨bo, 0, none⟩), .pointer (some ⟨bb, 0, none⟩)] (fun p => decide (odT o p q = 1)) := by
  intro p W hp hW
  show Calls Tryz.prog 142 #[tval p.1 p.2, .pointer (some ⟨bo, 0, none⟩), .pointer (some ⟨bb, 0, none⟩)] W _
  obtain ⟨an, nn, cn, rfl⟩ := ho.vn
  obtain ⟨aw, nw, cw, rfl⟩ := ho.vw
  have hb := below_box W (tbox p.1 p.2)
  have cp := bxT_cells W p
  have b1 : Below W0.heap.size W0 (W.alloc (tbox p.1 p.2)) := hW.trans (hb.mono hW.size)
  have d1 := kc b1 lo c1
  have dq := cq.keep b1 lq
  have hc := hO p q (W.alloc (tbox p.1 p.2)) hp hq (hw.trans (b1.mono hw.size))
  have eg := eg11
  have HB : Hid (Below W.heap.size W (W.alloc (tbox p.1 p.2))) := hb
  obtain ⟨z, hz⟩ : ∃ z, odT o p q = z := ⟨_, rfl⟩
  simp only [hz]
  rw [hz] at hc
  clear ho hO hw c1 cq hW b1 hb hz lo lq
  obtain ⟨x, sx⟩ := p
  obtain ⟨y, sy⟩ := q
  simp only [OkT] at hp hq
  obtain ⟨_, _, rfl, _⟩ := hp.1.slice
  obtain ⟨_, _, rfl, _⟩ := hq.1.slice
  obtain ⟨p0, p1, p2⟩ := cp
  obtain ⟨q0, q1, q2⟩ := dq
  simp only at p0 p1 p2 q0 q1 q2 hc d1
  clear hp hq
  go_enter Tryz.func142, Tryz.ntmps142
  go_wp2_with (first | (go_at_fn 11; refine hc.mono ?_; rintro e w3 ⟨rfl, hb3⟩))
  go_ret
  exact ⟨ret_bool (by rw [Bool.eq_iff_iff]; simp), HB.out.trans (hb3.mono HB.out.size)⟩
set_option maxRecDepth 100000 in
set_option maxHeartbeats 2000000 in
theorem cov1T (w0 W0 : World) (o : Od) (vn vw : Value) (ho : OdAt w0 o vn vw) (hO : OrdrT w0 o vn vw) (bo bm : Nat) (vm : Value) (ms : List (T × Value)) (hw : Below w0.heap.size w0 W0) (c1 : W0.cell? ⟨bo, 0, none⟩ = some (foT o vn vw)) (lo : bo < W0.heap.size) (c2 : W0.cell? ⟨bm, 0, none⟩ = some vm) (lm : bm < W0.heap.size) (hm : RdT w0 W0 vm ms) :
    PrT w0 W0 141 #[.pointer (some ⟨bm, 0, none⟩), .pointer (some ⟨bo, 0, none⟩)] (fun q => !(ms.any fun p => decide (odT o p q = 1))) := by
  intro q W hq hW
  show Calls Tryz.prog 141 #[tval q.1 q.2, .pointer (some ⟨bm, 0, none⟩), .pointer (some ⟨bo, 0, none⟩)] W _
  have hb := below_box W (tbox q.1 q.2)
  have cq := bxT_cells W q
  have b1 : Below W0.heap.size W0 (W.alloc (tbox q.1 q.2)) := hW.trans (hb.mono hW.size)
  have d1 := kc b1 lo c1
  have d2 := kc b1 lm c2
  have b01 := hw.trans (b1.mono hw.size)
  have hp := cov2T w0 (W.alloc (tbox q.1 q.2)) o vn vw ho hO bo W.heap.size q hq b01 d1 (by have := b1.size; omega) cq (by simp)
  have hc := containsT_any w0 (W.alloc (tbox q.1 q.2)) 142 _ _ eg142 hp ms vm (W.alloc (tbox q.1 q.2)) (Below.refl _ _) (hm.keep b1)
  obtain ⟨a, c, rfl, _, _⟩ := hm.slice
  have HB : Hid (Below W.heap.size W (W.alloc (tbox q.1 q.2))) := hb
  obtain ⟨z, hz⟩ : ∃ z, (ms.any fun p => decide (odT o p q = 1)) = z := ⟨_, rfl⟩
  simp only [hz]
  rw [hz] at hc
  clear ho hO hw c1 c2 hW b1 hb hz lo lm hm hp b01 d1 cq
  obtain ⟨y, sy⟩ := q
  simp only [OkT] at hq
  obtain ⟨_, _, rfl, _⟩ := hq.1.slice
  simp only at hc d2
  clear hq
  go_enter Tryz.func141, Tryz.ntmps141
  go_wp2_with (first | (go_at_call 32; refine hc.mono ?_; rintro e w3 ⟨rfl, hb3⟩))
  go_ret
  exact ⟨rfl, HB.out.trans (hb3.mono HB.out.size)⟩
noncomputable def covBT (o : Od) (ms ns : List (T × Value)) : Bool := !(ns.any fun q => !(ms.any fun p => decide (odT o p q = 1)))
theorem covBT_iff {o : Od} {ms ns : List (T × Value)} : covBT o ms ns = true ↔ cov (fun p : T × Value => p.1) (gT o) ms ns := by
  have hg : ∀ p q : (T × Value), odT o p q = 1 ↔ (gT o) ((fun p : T × Value => p.1) p) ((fun p : T × Value => p.1) q) := fun p q => Iff.rfl
  unfold covBT cov
  rw [Bool.not_eq_true', List.any_eq_false]
  constructor
  · intro h b hb
    have h1 := h b hb
    cases e : ms.any fun p => decide (odT o p b = 1)
    · rw [e] at h1; exact absurd rfl h1
    · obtain ⟨a, ha, e⟩ := List.any_eq_true.1 e
      exact ⟨a, ha, (hg a b).1 (of_decide_eq_true e)⟩
  · intro h b hb
    obtain ⟨a, ha, e⟩ := h b hb
    have e : (ms.any fun p => decide (odT o p b = 1)) = true := List.any_eq_true.2 ⟨a, ha, decide_eq_true ((hg a b).2 e)⟩
    rw [e]
    simp
set_option maxRecDepth 100000 in
set_option maxHeartbeats 2000000 in
theorem coversT_any (w0 : World) (o : Od) (vn vw : Value) (ho : OdAt w0 o vn vw) (hO : OrdrT w0 o vn vw) (ms ns : List (T × Value)) (vm v : Value) (w : World) (hw : Below w0.heap.size w0 w) (hm : RdT w0 w vm ms) (hn : RdT w0 w v ns) :
    Calls Tryz.prog 105 #[foT o vn vw, vm, v] w fun e w' => e = .returned (.bool (covBT o ms ns)) ∧ Below w.heap.size w w' := by
  obtain ⟨W1, h1⟩ : ∃ X, w.alloc (.cells #[foT o vn vw] 42) = X := ⟨_, rfl⟩
  obtain ⟨W2, h2⟩ : ∃ X, W1.alloc (.cells #[vm] 28) = X := ⟨_, rfl⟩
  have b1 : Below w.heap.size w W1 := by rw [← h1]; exact below_box _ _
  have b2 : Below W1.heap.size W1 W2 := by rw [← h2]; exact below_box _ _
  have s1 : W1.heap.size = w.heap.size + 1 := by rw [← h1]; simp
  have s2 : W2.heap.size = w.heap.size + 2 := by rw [← h2]; simp [s1]
  have bb : Below w.heap.size w W2 := b1.trans (b2.mono b1.size)
  have c1 := box1_cells w (foT o vn vw) 42
  rw [h1] at c1
  have c1' := kc b2 (by omega) c1
  have c2 := box1_cells W1 vm 28
  rw [h2, s1] at c2
  have hp := cov1T w0 W2 o vn vw ho hO w.heap.size (w.heap.size + 1) vm ms (hw.trans (bb.mono hw.size)) c1' (by omega) c2 (by omega) (hm.keep bb)
  have hc := containsT_any w0 W2 141 _ _ eg141 hp ns v W2 (Below.refl _ _) (hn.keep bb)
  obtain ⟨a, c, rfl, _, _⟩ := hm.slice
  obtain ⟨a', c', rfl, _, _⟩ := hn.slice
  obtain ⟨an, nn, cn, rfl⟩ := ho.vn
  obtain ⟨aw, nw, cw, rfl⟩ := ho.vw
  have HB : Hid (Below w.heap.size w W2) := bb
  unfold covBT
  obtain ⟨z, hz⟩ : ∃ z, (ns.any fun q => !(ms.any fun p => decide (odT o p q = 1))) = z := ⟨_, rfl⟩
  rw [hz] at hc ⊢
  clear ho hO hw hm hn hz b1 b2 bb c1 c1' c2 hp s2
  go_enter Tryz.func105, Tryz.ntmps105
  try rw [h1]
  try rw [h2]
  try rw [s1]
  go_wp2_with fail
  try rw [h1]
  try rw [h2]
  try rw [s1]
  refine hc.mono ?_
  rintro e w3 ⟨rfl, hb3⟩
  go_wp2
  go_ret
  exact ⟨rfl, HB.out.trans (hb3.mono HB.out.size)⟩
theorem ordrT (w0 : World) (o : Od) (vn vw : Value) (ho : OdAt w0 o vn vw) : OrdrT w0 o vn vw := fun p q W hp hq hW => oterms_any w0 o vn vw ho p q hp hq W hW
end Go.Proofs.YtglphfhlpobgcaaGreat

namespace Go.Proofs.YtglphfhlpobgcaaGreat
open Go.RowKit Go.Maps
abbrev fsT : Value := .func (.func 66) #[] #[]
theorem eg138 : ∀ args w, (callFunc 138 args).run Tryz.prog w = .ok (.enter 138 args) w := enters_of Tryz.func138 (by kernel_rfl) rfl
theorem bxstT (Y : World) (bx : Nat) (cz : Array Value) (q : (T × Value)) (h : Y.heap[bx]? = some (.cells cz 30 (0, 0))) (hz : cz.size = 3) (h1 : ∀ u ∈ flT [q], u.oneCell' = true) :
    ∃ Y', (Instr.storeAt 30 (.pointer (some ⟨bx, 0, none⟩)) (tval q.1 q.2)).run Tryz.prog Y = .ok () Y' ∧ CsT Y' bx 0 q ∧ Only [bx] Y Y' := by
  have hfl : (flT [q]).length = 3 := by rw [flT_len]; simp
  obtain ⟨cur', p1, p2, p3⟩ := heap_put bx 30 (flT [q]) 0 Y cz h (by rw [hfl, hz]; omega)
  refine ⟨Y.setCells bx 0 (flT [q]), ?_, ?_, p3⟩
  · have hr := run_storeAt_mid (P := Tryz.prog) Y bx 0 30 (flT [q]).toArray (fun j hj => by
      have hj' : j < 3 := by simpa [hfl] using hj
      have hlt : 0 + j < cz.size := by rw [hz]; omega
      simp only [World.cell?, World.frozen?, h]
      simp at hlt
      simp [hlt]) (by rw [List.size_toArray, hfl]; kernel_rfl) (all_oneCell_toArray h1)
    rw [flT_one] at hr ⊢
    exact hr
  · have := csT_of (W := Y.setCells bx 0 (flT [q])) (b := bx) (off := 0) (ps := [q]) (fun j u hj => by
      have hjl : j < (flT [q]).length := (List.getElem?_eq_some_iff.1 hj).1
      rw [Nat.zero_add]
      simp only [World.cell?, p1]
      have e : cur'[j]? = cur'.toList[j]? := by simp
      rw [p2, List.take_zero, List.nil_append, List.getElem?_append_left hjl, hj] at e
      simpa using e) (i := 0) (by simp)
    simpa using this
set_option maxRecDepth 100000 in
set_option maxHeartbeats 2000000 in
theorem apart1T (w0 W0 : World) (bs ba : Nat) (p : (T × Value)) (hp : OkT w0 p) (hw : Below w0.heap.size w0 W0) (c1 : W0.cell? ⟨bs, 0, none⟩ = some fsT) (ls : bs < W0.heap.size) (cp : CsT W0 ba 0 p) (la : ba < W0.heap.size) :
    PrT w0 W0 138 #[.pointer (some ⟨bs, 0, none⟩), .pointer (some ⟨ba, 0, none⟩)] (fun q => smT p q) := by
  intro q W hq hW
  show Calls Tryz.prog 138 #[tval q.1 q.2, .pointer (some ⟨bs, 0, none⟩), .pointer (some ⟨ba, 0, none⟩)] W _
  have hb := below_box W (tbox q.1 q.2)
  have cq := bxT_cells W q
  have b1 : Below W0.heap.size W0 (W.alloc (tbox q.1 q.2)) := hW.trans (hb.mono hW.size)
  have d1 := kc b1 ls c1
  have dp := cp.keep b1 la
  have hc := sameT_any w0 p q hp hq (W.alloc (tbox q.1 q.2)) (hw.trans (b1.mono hw.size))
  have eg := eg66
  have HB : Hid (Below W.heap.size W (W.alloc (tbox q.1 q.2))) := hb
  obtain ⟨z, hz⟩ : ∃ z, smT p q = z := ⟨_, rfl⟩
  simp only [hz]
  rw [hz] at hc
  clear hw c1 cp hW b1 hb hz ls la
  obtain ⟨x, sx⟩ := p
  obtain ⟨y, sy⟩ := q
  simp only [OkT] at hp hq
  obtain ⟨_, _, rfl, _⟩ := hp.1.slice
  obtain ⟨_, _, rfl, _⟩ := hq.1.slice
  obtain ⟨p0, p1, p2⟩ := dp
  obtain ⟨q0, q1, q2⟩ := cq
  simp only at p0 p1 p2 q0 q1 q2 hc d1
  clear hp hq
  go_enter Tryz.func138, Tryz.ntmps138
  go_wp2_with (first | (go_at_fn 66; refine hc.mono ?_; rintro e w3 ⟨rfl, hb3⟩))
  go_ret
  exact ⟨rfl, HB.out.trans (hb3.mono HB.out.size)⟩
structure ApT (w0 w1 : World) (ms ns : List (T × Value)) (i : Nat) (vM vN : Value) (out cur : List (T × Value)) (W : World) : Prop where
  rm : W.ownsRow w1.heap.size 30 3 vM out.length (flT out)
  rn : W.ownsRow w1.heap.size 30 3 vN cur.length (flT cur)
  bel : Below w1.heap.size w1 W
  dj : ∀ g, vM.ownBlock = some g → vN.ownBlock ≠ some g
  eq : aprt (fun p : T × Value => p.1) ms ns = (out ++ (aprt (fun p : T × Value => p.1) (ms.drop i) cur).1, (aprt (fun p : T × Value => p.1) (ms.drop i) cur).2)
  okm : ∀ p ∈ out, OkT w0 p
  okn : ∀ p ∈ cur, OkT w0 p
  lm : out.length ≤ i
  ln : cur.length ≤ ns.length
  sv : (∃ a c, vM = .slice a out.length c) ∧ ∃ a c, vN = .slice a cur.length c
section
variable {w0 w1 W W' : World} {ms ns : List (T × Value)} {i : Nat} {vM vN vM' vN' : Value} {out cur : List (T × Value)}
theorem ApT.below (h : ApT w0 w1 ms ns i vM vN out cur W) (hb : Below W.heap.size W W') : ApT w0 w1 ms ns i vM vN out cur W' :=
  ⟨rowL_keep h.rm (fun r hr => by
    obtain ⟨_, c, hc⟩ := row_block h.rm hr
    exact hb.block r (Array.getElem?_eq_some_iff.1 hc).1), rowL_keep h.rn (fun r hr => by
    obtain ⟨_, c, hc⟩ := row_block h.rn hr
    exact hb.block r (Array.getElem?_eq_some_iff.1 hc).1), h.bel.trans (hb.mono h.bel.size), h.dj, h.eq, h.okm, h.okn, h.lm, h.ln, h.sv⟩
theorem ApT.add (h : ApT w0 w1 ms ns i vM vN out cur W) (hi : i < ms.length) (hok : OkT w0 ms[i]) (hf : cur.findIdx? (fun q => smT ms[i] q) = none) (hr : W'.ownsRow w1.heap.size 30 3 vM' (out.length + 1) (flT out ++ flT [ms[i]])) (hg : W.grownBy W' vM.ownBlock) (hb : vM'.ownBlock = vM.ownBlock ∨ vM'.ownBlock = some W.heap.size) :
    ApT w0 w1 ms ns (i + 1) vM' vN (out ++ [ms[i]]) cur W' := by
  have nlt : ∀ g, vN.ownBlock = some g → g < W.heap.size := fun g e => by
    obtain ⟨_, c, hc⟩ := row_block h.rn e
    exact (Array.getElem?_eq_some_iff.1 hc).1
  refine ⟨by rw [List.length_append, flT_app]; exact hr, rowL_keep h.rn (fun r e => hg.block r (nlt r e) (fun k => h.dj r k.symm e)), ?_, fun g e k => ?_, ?_, fun p hp => ?_, h.okn, by simp; exact h.lm, h.ln, ⟨by obtain ⟨a, c, e⟩ := row_slice hr; exact ⟨a, c, by rw [e]; simp⟩, h.sv.2⟩⟩
  · have o : Only vM.ownBlock.toList W W' := Only.of_grown hg (fun r e => by simp [e])
    exact h.bel.trans (o.below h.bel.size (fun r hr => by
      have e : vM.ownBlock = some r := by simpa using hr
      exact (row_block h.rm e).1))
  · rcases hb with q | q
    · exact h.dj g (q ▸ e) k
    · rw [q] at e
      have := nlt g k
      have := Option.some.inj e
      omega
  · rw [h.eq, List.drop_eq_getElem_cons hi, aprt]
    have hf' : cur.findIdx? (fun b => (open Classical in decide ((fun p : T × Value => p.1) ms[i] = (fun p : T × Value => p.1) b))) = none := hf
    rw [hf']
    simp
  · rcases List.mem_append.1 hp with q | q
    · exact h.okm p q
    · have : p = ms[i] := by simpa using q
      rw [this]; exact hok
theorem ApT.cut (h : ApT w0 w1 ms ns i vM vN out cur W) (hi : i < ms.length) {k : Nat} (hf : cur.findIdx? (fun q => smT ms[i] q) = some k) (hk : k < cur.length) {g : Nat} (hvN : vN.ownBlock = some g) (hvN' : vN'.ownBlock = some g) (hr : W'.ownsRow w1.heap.size 30 3 vN' (cur.eraseIdx k).length (flT (cur.eraseIdx k))) (ho : Only [g] W W') :
    ApT w0 w1 ms ns (i + 1) vM vN' out (cur.eraseIdx k) W' := by
  refine ⟨rowL_keep h.rm (fun r e => ho.block r (by
    obtain ⟨_, c, hc⟩ := row_block h.rm e
    exact (Array.getElem?_eq_some_iff.1 hc).1) (by simp only [List.mem_singleton]; intro q; exact h.dj r e (by rw [q]; exact hvN))), hr, h.bel.trans (ho.below h.bel.size (by simpa using (row_block h.rn hvN).1)), fun r e q => h.dj r e (by rw [hvN, ← hvN', q]), ?_, h.okm, fun p hp => h.okn p (List.mem_of_mem_eraseIdx hp), by have := h.lm; omega, by have := h.ln; rw [List.length_eraseIdx_of_lt hk]; omega, ⟨h.sv.1, by obtain ⟨a, c, e⟩ := row_slice hr; exact ⟨a, c, e⟩⟩⟩
  rw [h.eq, List.drop_eq_getElem_cons hi, aprt]
  have hf' : cur.findIdx? (fun b => (open Classical in decide ((fun p : T × Value => p.1) ms[i] = (fun p : T × Value => p.1) b))) = some k := hf
  rw [hf']
end
end Go.Proofs.YtglphfhlpobgcaaGreat

namespace Go.Proofs.YtglphfhlpobgcaaGreat
open Go.RowKit Go.Maps
set_option maxRecDepth 100000 in
set_option maxHeartbeats 8000000 in
theorem apartT_any (w0 : World) (ms ns : List (T × Value)) (vm vn : Value) (w : World) (hw : Below w0.heap.size w0 w) (hm : RdT w0 w vm ms) (hn : RdT w0 w vn ns) (lm : ms.length ≤ 60000) (ln : ns.length ≤ 60000) :
    Calls Tryz.prog 104 #[fsT, vm, vn] w fun e w' => ∃ v1 v2, e = .returned (.tuple #[v1, v2]) ∧ RdT w0 w' v1 (cmpt (fun p : T × Value => p.1) (aprt (fun p : T × Value => p.1) ms ns).1) ∧ RdT w0 w' v2 (cmpt (fun p : T × Value => p.1) (aprt (fun p : T × Value => p.1) ms ns).2) ∧ Below w.heap.size w w' := by
  obtain ⟨i0, hi0, hz0, hz1, hz2⟩ := info_parts Tryz.info30q
  obtain ⟨w1, h1⟩ : ∃ X, w.alloc (.cells #[fsT] 90) = X := ⟨_, rfl⟩
  have b1 : Below w.heap.size w w1 := by rw [← h1]; exact below_box _ _
  have s1 : w1.heap.size = w.heap.size + 1 := by rw [← h1]; simp
  have cs := box1_cells w fsT 90
  rw [h1] at cs
  have hm1 := hm.keep b1
  have hcl := cloneT_any w0 ns vn w1 (hn.keep b1) (by omega)
  have b01 : Below w0.heap.size w0 w1 := hw.trans (b1.mono hw.size)
  obtain ⟨ma, mc, rfl, hmc1, hmc2⟩ := hm.slice
  obtain ⟨na, nc, rfl, _, _⟩ := hn.slice
  have HH : Hid (RdT w0 w1 (.slice ma ms.length mc) ms ∧ Below w0.heap.size w0 w1 ∧ w1.cell? ⟨w.heap.size, 0, none⟩ = some fsT ∧ w1.heap.size = w.heap.size + 1 ∧ Below w.heap.size w w1 ∧ ∀ p ∈ ns, OkT w0 p) := ⟨hm1, b01, cs, s1, b1, hn.ok⟩
  clear hm hn hm1 b01 cs b1
  go_enter Tryz.func104, Tryz.ntmps104
  try rw [h1]
  go_wp2_with fail
  try rw [h1]
  refine hcl.mono ?_
  rintro e W2 ⟨v', rfl, hr, hb2⟩
  obtain ⟨ca, cc, rfl⟩ := row_slice hr
  have HA : Hid (ApT w0 w1 ms ns 0 (.slice none 0 0) (.slice ca ns.length cc) [] ns W2) := ⟨⟨rfl, .inl ⟨rfl, rfl⟩⟩, hr, hb2, fun g e => by simp [Value.ownBlock] at e, by simp, by simp, HH.out.2.2.2.2.2, Nat.le_refl _, Nat.le_refl _, ⟨none, 0, rfl⟩, ⟨_, _, rfl⟩⟩
  clear hcl hr hb2
  go_wp2
  go_loopw [6, 7, 15] (fun v6 v7 vi wr => ∃ (i : Nat) (a6 : Option Addr) (n6 c6 : Nat) (a7 : Option Addr) (n7 c7 : Nat), v6 = .slice a6 n6 c6 ∧ v7 = .slice a7 n7 c7 ∧ vi = .int .i64 i ∧ i ≤ ms.length ∧ Hid (∃ out cur, n6 = out.length ∧ n7 = cur.length ∧ ApT w0 w1 ms ns i (.slice a6 n6 c6) (.slice a7 n7 c7) out cur wr)) (fun _ _ vi _ => ms.length - (intOf vi).toNat)
  case atStart => exact ⟨0, none, 0, 0, ca, ns.length, cc, rfl, rfl, rfl, Nat.zero_le _, [], ns, rfl, rfl, HA.out⟩
  case round =>
    obtain ⟨i, a6, n6, c6, a7, n7, c7, rfl, rfl, rfl, hi, HI⟩ := hrel
    obtain ⟨out, cur, rfl, rfl, hA⟩ := HI.out
    clear HI HA
    by_cases hlt : i < ms.length
    · have hiI : (i : Int) < (ms.length : Int) := by omega
      obtain ⟨bb, o, rfl, hlb, hcs, hok⟩ := (HH.out.1.keep hA.bel).nth hlt
      obtain ⟨Wz, hWz⟩ : ∃ X, wr.alloc (.cells #[.int .i64 0, .string ⟨#[]⟩, .slice none 0 0] 30) = X := ⟨_, rfl⟩
      have bz : Below wr.heap.size wr Wz := by rw [← hWz]; exact below_box _ _
      have hz : Wz.heap[wr.heap.size]? = some (.cells #[.int .i64 0, .string ⟨#[]⟩, .slice none 0 0] 30 (0, 0)) := by rw [← hWz]; exact (MapKept.heap_alloc _ _).1
      obtain ⟨W4, hrun, hcp, hon⟩ := bxstT Wz wr.heap.size #[.int .i64 0, .string ⟨#[]⟩, .slice none 0 0] ms[i] hz rfl (onesT (w0 := w0) (fun p hp => by
        have e : p = ms[i] := by simpa using hp
        rw [e]; exact hok))
      have b4 : Below wr.heap.size wr W4 := bz.trans (hon.below bz.size (by simp))
      have hA4 := hA.below b4
      have s4 : wr.heap.size < W4.heap.size := by
        have := hon.size
        have : Wz.heap.size = wr.heap.size + 1 := by rw [← hWz]; simp
        omega
      have hws := hA.bel.size
      have d4 : W4.cell? ⟨w.heap.size, 0, none⟩ = some fsT := kc hA4.bel (by have := HH.out.2.2.2.1; omega) HH.out.2.2.1
      have hw04 : Below w0.heap.size w0 W4 := HH.out.2.1.trans (hA4.bel.mono HH.out.2.1.size)
      have hpr := apart1T w0 W4 w.heap.size wr.heap.size ms[i] hok hw04 d4 (by have := HH.out.2.2.2.1; omega) hcp s4
      have hix := indexT_any w0 W4 138 _ _ eg138 hpr cur _ W4 (Below.refl _ _) (rdT_of_row hA4.rn hA4.okn)
      obtain ⟨q, hq⟩ : ∃ q, ms[i] = q := ⟨_, rfl⟩
      have HQ : Hid (∃ h : i < ms.length, ms[i] = q) := ⟨hlt, hq⟩
      have HA4 : Hid (ApT w0 w1 ms ns i (.slice a6 out.length c6) (.slice a7 cur.length c7) out cur W4 ∧ OkT w0 q ∧ CsT W4 wr.heap.size 0 q ∧ wr.heap.size < W4.heap.size) := ⟨hA4, hq ▸ hok, hq ▸ hcp, s4⟩
      have hmax : out.length ≤ 60000 := by have := hA.lm; omega
      rw [hq] at hcs hrun hix hok
      have hff := firstG_find (fun p => smT q p) cur 0
      clear hA hA4 hcp hon b4 bz hz d4 hw04 hpr hq hws s4
      obtain ⟨x, sx⟩ := q
      simp only [OkT] at hok
      obtain ⟨xa, xc, rfl, _, _⟩ := hok.1.slice
      obtain ⟨k0, k1, k2⟩ := hcs
      simp only at k0 k1 k2 hrun
      clear hok
      rcases hff with ⟨e1, e2⟩ | ⟨k, hk, e1, e2⟩
      · rw [e1] at hix
        have HF : Hid (cur.findIdx? (fun p => smT (x, .slice xa x.args.length xc) p) = none) := e2
        clear e1 e2
        go_wp2_with (first | (refine wpList_store_run rfl 30 _ _ rfl (.pointer (some ⟨wr.heap.size, 0, none⟩)) (tval x (.slice xa x.args.length xc)) rfl rfl hrun ?_))
        try rw [hWz]
        refine hix.mono ?_
        rintro e W5 ⟨rfl, hb5⟩
        have hA5 := HA4.out.1.below hb5
        have hc5 := HA4.out.2.2.1.keep hb5 HA4.out.2.2.2
        obtain ⟨g0, g1, g2⟩ := hc5
        simp only [Nat.zero_add] at g0 g1 g2
        have hb6 := below_box W5 (.cells #[.int .i64 x.v, .string x.fn, .slice xa x.args.length xc] 30)
        have hrow6 : (W5.alloc (.cells #[.int .i64 x.v, .string x.fn, .slice xa x.args.length xc] 30)).ownsRow w1.heap.size 30 3 (.slice a6 out.length c6) out.length (flT out) := (hA5.below hb6).rm
        have hones : Hid (∀ u ∈ flT [(x, .slice xa x.args.length xc)], u.oneCell' = true) := onesT (w0 := w0) (fun p hp => by
          have e : p = (x, .slice xa x.args.length xc) := by simpa using hp
          rw [e]; exact HA4.out.2.1)
        have hlow : w1.heap.size ≤ W5.heap.size := hA5.bel.size
        have HA5 : Hid (ApT w0 w1 ms ns i (.slice a6 out.length c6) (.slice a7 cur.length c7) out cur (W5.alloc (.cells #[.int .i64 x.v, .string x.fn, .slice xa x.args.length xc] 30))) := hA5.below hb6
        clear hix hrun hA5 hb5 hb6 k0 k1 k2
        go_wp2_with (first
          | (at_builtin; refine wpList_append_own_at _ rfl _ _ 28 rfl w1.heap.size 30 i0 _ 3 48 Tryz.underlying28 hi0 hz0 hz1 hz2 rfl (by decide) (.slice a6 out.length c6) out.length (flT out) rfl hrow6 ⟨W5.heap.size, 0, none⟩ 1 1 (flT [(x, .slice xa x.args.length xc)]) rfl (by rw [flT_len]; simp) (fun j u hj => by { rw [Addr.add_mid, Nat.zero_add, cell_of_row _ _ _ _ 30 (0, 0) (MapKept.heap_alloc W5 _).1]; rw [flT_one] at hj; simpa using hj }) hones.out (by unfold maxLen; omega) (by omega) (by simp; omega) ?_; intro v' w6 hown6 hg6 hnil6 hat6; obtain ⟨a8, c8, rfl⟩ := row_slice hown6))
        have HN : Hid (∃ out' cur', out.length + 1 = out'.length ∧ cur.length = cur'.length ∧ ApT w0 w1 ms ns (i + 1) (.slice a8 (out.length + 1) c8) (.slice a7 cur.length c7) out' cur' w6) := by
          obtain ⟨h, e⟩ := HQ.out
          refine ⟨out ++ [ms[i]], cur, by simp, rfl, HA5.out.add h (by rw [e]; exact HA4.out.2.1) (by rw [e]; exact HF.out) (by rw [e]; exact hown6) hg6 hat6⟩
        clear hown6 hg6 hnil6 hat6 hrow6 g0 g1 g2
        go_roundw
        case rel => exact ⟨i + 1, a8, out.length + 1, c8, a7, cur.length, c7, rfl, rfl, by go_num, by omega, HN.out⟩
        case measure => simp [intOf]; omega
      · rw [e1, Nat.zero_add] at hix
        have HF : Hid (cur.findIdx? (fun p => smT (x, .slice xa x.args.length xc) p) = some k ∧ k < cur.length) := ⟨e2, hk⟩
        have hk0 : ¬ (k : Int) < 0 := by omega
        clear e1 e2
        go_wp2_with (first | (refine wpList_store_run rfl 30 _ _ rfl (.pointer (some ⟨wr.heap.size, 0, none⟩)) (tval x (.slice xa x.args.length xc)) rfl rfl hrun ?_))
        try rw [hWz]
        refine hix.mono ?_
        rintro e W5 ⟨rfl, hb5⟩
        have hA5 := HA4.out.1.below hb5
        have hdel := deleteT_any w0 w1.heap.size cur (.slice a7 cur.length c7) W5 hA5.rn hA5.okn k (k + 1) rfl hk
        have hcn : (((k + 1 : Nat)) : Int) = (k : Int) + 1 := rfl
        rw [hcn] at hdel
        have hkb : (k : Int) ≤ 60000 := by have := hA5.ln; omega
        have HA5 : Hid (ApT w0 w1 ms ns i (.slice a6 out.length c6) (.slice a7 cur.length c7) out cur W5) := hA5
        clear hix hrun hA5 hb5 k0 k1 k2 hcn
        go_wp2_with fail
        refine hdel.mono ?_
        rintro e W6 ⟨v', g, rfl, hv1, hv2, hr6, ho6⟩
        obtain ⟨a8, c8, rfl⟩ := row_slice hr6
        obtain ⟨n8, hn8⟩ : ∃ n, (cur.eraseIdx k).length = n := ⟨_, rfl⟩
        have HN : Hid (∃ out' cur', out.length = out'.length ∧ n8 = cur'.length ∧ ApT w0 w1 ms ns (i + 1) (.slice a6 out.length c6) (.slice a8 n8 c8) out' cur' W6) := by
          obtain ⟨h, e⟩ := HQ.out
          subst hn8
          exact ⟨out, cur.eraseIdx k, rfl, rfl, HA5.out.cut h (by rw [e]; exact HF.out.1) HF.out.2 hv1 hv2 hr6 ho6⟩
        rw [hn8]
        clear hdel hv1 hv2 hr6 ho6 hn8
        go_wp2
        go_roundw
        case rel => exact ⟨i + 1, a6, out.length, c6, a8, n8, c8, rfl, rfl, by go_num, by omega, HN.out⟩
        case measure => simp [intOf]; omega
    · have he := hA.eq
      rw [List.drop_eq_nil_of_le (by omega)] at he
      simp only [aprt, List.append_nil] at he
      obtain ⟨xs, hxs⟩ : ∃ l, cmpt (fun p : T × Value => p.1) out = l := ⟨_, rfl⟩
      obtain ⟨ys, hys⟩ : ∃ l, cmpt (fun p : T × Value => p.1) cur = l := ⟨_, rfl⟩
      have b01 := HH.out.2.1
      have hcM : ∀ Z, Only ((Value.slice a6 out.length c6).ownBlock.toList ++ (Value.slice a7 cur.length c7).ownBlock.toList) wr.drew Z → (∀ r, (Value.slice a6 out.length c6).ownBlock = some r → Z.heap[r]? = wr.heap[r]?) → Calls Tryz.prog 140 #[.slice a6 out.length c6, fsT] Z fun e Z' => ∃ v', e = .returned v' ∧ Z'.ownsRow w1.heap.size 30 3 v' xs.length (flT xs) ∧ v'.ownBlock = (Value.slice a6 out.length c6).ownBlock ∧ Only (Value.slice a6 out.length c6).ownBlock.toList Z Z' := fun Z hZ hk => by
        have hb : Below w1.heap.size w1 Z := hA.bel.drew.trans (hZ.below hA.bel.drew.size (fun r hr => by
          rcases List.mem_append.1 hr with q | q
          · exact (row_block hA.rm (by simpa using q)).1
          · exact (row_block hA.rn (by simpa using q)).1))
        have := compactT_any w0 w1.heap.size out (.slice a6 out.length c6) Z (rowL_keep hA.rm hk) hA.okm (b01.trans (hb.mono b01.size)) b01.size
        rw [hxs] at this
        exact this
      have hcN : ∀ Z, Only ((Value.slice a6 out.length c6).ownBlock.toList ++ (Value.slice a7 cur.length c7).ownBlock.toList) wr.drew Z → (∀ r, (Value.slice a7 cur.length c7).ownBlock = some r → Z.heap[r]? = wr.heap[r]?) → Calls Tryz.prog 140 #[.slice a7 cur.length c7, fsT] Z fun e Z' => ∃ v', e = .returned v' ∧ Z'.ownsRow w1.heap.size 30 3 v' ys.length (flT ys) ∧ v'.ownBlock = (Value.slice a7 cur.length c7).ownBlock ∧ Only (Value.slice a7 cur.length c7).ownBlock.toList Z Z' := fun Z hZ hk => by
        have hb : Below w1.heap.size w1 Z := hA.bel.drew.trans (hZ.below hA.bel.drew.size (fun r hr => by
          rcases List.mem_append.1 hr with q | q
          · exact (row_block hA.rm (by simpa using q)).1
          · exact (row_block hA.rn (by simpa using q)).1))
        have := compactT_any w0 w1.heap.size cur (.slice a7 cur.length c7) Z (rowL_keep hA.rn hk) hA.okn (b01.trans (hb.mono b01.size)) b01.size
        rw [hys] at this
        exact this
      have HDJ : Hid (∀ g, (Value.slice a6 out.length c6).ownBlock = some g → (Value.slice a7 cur.length c7).ownBlock ≠ some g) := hA.dj
      have HLT : Hid ((∀ g, (Value.slice a6 out.length c6).ownBlock = some g → g < wr.heap.size) ∧ ∀ g, (Value.slice a7 cur.length c7).ownBlock = some g → g < wr.heap.size) := ⟨fun g e => by
          obtain ⟨_, c, hc⟩ := row_block hA.rm e
          exact (Array.getElem?_eq_some_iff.1 hc).1, fun g e => by
          obtain ⟨_, c, hc⟩ := row_block hA.rn e
          exact (Array.getElem?_eq_some_iff.1 hc).1⟩
      have q1 : ∀ Z, Only ((Value.slice a6 out.length c6).ownBlock.toList ++ (Value.slice a7 cur.length c7).ownBlock.toList) wr.drew Z → Z.cell? ⟨w.heap.size, 0, none⟩ = some fsT := fun Z hZ => cell_on hZ (fun hr => by
          have hs := HH.out.2.2.2.1
          rcases List.mem_append.1 hr with q | q
          · have := (row_block hA.rm (by simpa using q)).1; omega
          · have := (row_block hA.rn (by simpa using q)).1; omega) (kc hA.bel.drew (by have := HH.out.2.2.2.1; omega) HH.out.2.2.1)
      have HO : Hid ((∀ p ∈ xs, OkT w0 p) ∧ (∀ p ∈ ys, OkT w0 p) ∧ Below w1.heap.size w1 wr.drew ∧ ∀ r ∈ (Value.slice a6 out.length c6).ownBlock.toList ++ (Value.slice a7 cur.length c7).ownBlock.toList, w1.heap.size ≤ r) := ⟨fun p hp => hA.okm p (cmpt_sub _ _ _ (by rw [hxs]; exact hp)), fun p hp => hA.okn p (cmpt_sub _ _ _ (by rw [hys]; exact hp)), hA.bel.drew, fun r hr => by
          rcases List.mem_append.1 hr with q | q
          · exact (row_block hA.rm (by simpa using q)).1
          · exact (row_block hA.rn (by simpa using q)).1⟩
      have hcMH : Hid (∀ Z, Only ((Value.slice a6 out.length c6).ownBlock.toList ++ (Value.slice a7 cur.length c7).ownBlock.toList) wr.drew Z → (∀ r, (Value.slice a6 out.length c6).ownBlock = some r → Z.heap[r]? = wr.heap[r]?) → Calls Tryz.prog 140 #[.slice a6 out.length c6, fsT] Z fun e Z' => ∃ v', e = .returned v' ∧ Z'.ownsRow w1.heap.size 30 3 v' xs.length (flT xs) ∧ v'.ownBlock = (Value.slice a6 out.length c6).ownBlock ∧ Only (Value.slice a6 out.length c6).ownBlock.toList Z Z') := hcM
      have hcNH : Hid (∀ Z, Only ((Value.slice a6 out.length c6).ownBlock.toList ++ (Value.slice a7 cur.length c7).ownBlock.toList) wr.drew Z → (∀ r, (Value.slice a7 cur.length c7).ownBlock = some r → Z.heap[r]? = wr.heap[r]?) → Calls Tryz.prog 140 #[.slice a7 cur.length c7, fsT] Z fun e Z' => ∃ v', e = .returned v' ∧ Z'.ownsRow w1.heap.size 30 3 v' ys.length (flT ys) ∧ v'.ownBlock = (Value.slice a7 cur.length c7).ownBlock ∧ Only (Value.slice a7 cur.length c7).ownBlock.toList Z Z') := hcN
      have HEQ : Hid (cmpt (fun p : T × Value => p.1) (aprt (fun p : T × Value => p.1) ms ns).1 = xs ∧ cmpt (fun p : T × Value => p.1) (aprt (fun p : T × Value => p.1) ms ns).2 = ys) := by rw [he]; exact ⟨hxs, hys⟩
      clear hA he hxs hys b01 hcM hcN
      go_wp2
      refine wp_region_held_drew (S := fun Z => Only ((Value.slice a6 out.length c6).ownBlock.toList ++ (Value.slice a7 cur.length c7).ownBlock.toList) wr.drew Z) (by kernel_rfl) (Only.refl _ _) (fun hHeld => ?_)
      refine take_mk 0 (.slice a6 out.length c6) rfl (by kernel_rfl) (by kernel_rfl) (by kernel_rfl) (fun _ _ _ h => h) (Or.inl ⟨by rfl, fun Z hZ => by go_simp⟩) (by assumption) ?_
      try simp only [Act.put, List.setIfInBounds_toArray, List.set_cons_zero, List.set_cons_succ]
      refine take_mk 1 (fsT) rfl (by kernel_rfl) (by kernel_rfl) (by kernel_rfl) (fun _ _ _ h => h) (Or.inl ⟨by rfl, fun Z hZ => by have := q1 Z hZ; go_simp⟩) (by assumption) ?_
      try simp only [Act.put, List.setIfInBounds_toArray, List.set_cons_zero, List.set_cons_succ]
      refine take_mk 3 (.slice a7 cur.length c7) rfl (by kernel_rfl) (by kernel_rfl) (by kernel_rfl) (fun _ _ _ h => h) (Or.inl ⟨by rfl, fun Z hZ => by go_simp⟩) (by assumption) ?_
      try simp only [Act.put, List.setIfInBounds_toArray, List.set_cons_zero, List.set_cons_succ]
      refine take_mk 4 (fsT) rfl (by kernel_rfl) (by kernel_rfl) (by kernel_rfl) (fun _ _ _ h => h) (Or.inl ⟨by rfl, fun Z hZ => by have := q1 Z hZ; go_simp⟩) (by assumption) ?_
      try simp only [Act.put, List.setIfInBounds_toArray, List.set_cons_zero, List.set_cons_succ]
      refine wpAnyH_ready (rs := [2]) (by kernel_rfl) (by simp) (AllReadyH.cons (o := ⟨_, _, _, _, _, _⟩) rfl (fun K hK => ?aa) AllReadyH.nil)
      case' aa =>
        rw [if_pos (by rfl)]
        go_simp
        refine (hcMH.out _ hHeld (fun r _ => rfl)).mono ?_
        rintro e X1 ⟨v1, rfl, hr1, hb1, ho1⟩
        obtain ⟨a1, c1, rfl⟩ := row_slice hr1
        have hS1 : Only ((Value.slice a6 out.length c6).ownBlock.toList ++ (Value.slice a7 cur.length c7).ownBlock.toList) wr.drew X1 := hHeld.trans ho1 (fun r hr => .inl (List.mem_append_left _ hr))
        refine hK.out _ _ hS1 (fun hHeld1 => ?_)
        clear hK K
        try simp only [Act.put, List.setIfInBounds_toArray, List.set_cons_zero, List.set_cons_succ]
        refine wpAnyH_ready (rs := [5]) (by kernel_rfl) (by simp) (AllReadyH.cons (o := ⟨_, _, _, _, _, _⟩) rfl (fun K hK => ?_) AllReadyH.nil)
        rw [if_pos (by rfl)]
        go_simp
        refine (hcNH.out _ hS1 (fun r e => ho1.block r (HLT.out.2 r e) (by simp only [Option.mem_toList]; exact fun q => HDJ.out r q e))).mono ?_
        rintro e X2 ⟨v2, rfl, hr2, hb2, ho2⟩
        obtain ⟨a2, c2, rfl⟩ := row_slice hr2
        have hS2 : Only ((Value.slice a6 out.length c6).ownBlock.toList ++ (Value.slice a7 cur.length c7).ownBlock.toList) wr.drew X2 := hS1.trans ho2 (fun r hr => .inl (List.mem_append_right _ hr))
        have HF : Hid (X2.ownsRow w1.heap.size 30 3 (.slice a1 xs.length c1) xs.length (flT xs) ∧ X2.ownsRow w1.heap.size 30 3 (.slice a2 ys.length c2) ys.length (flT ys) ∧ Only ((Value.slice a6 out.length c6).ownBlock.toList ++ (Value.slice a7 cur.length c7).ownBlock.toList) wr.drew X2) := ⟨rowL_keep hr1 (fun r e => ho2.block r (by obtain ⟨_, c, hc⟩ := row_block hr1 e; exact (Array.getElem?_eq_some_iff.1 hc).1) (by simp only [Option.mem_toList]; exact HDJ.out r (by rw [← hb1]; exact e))), hr2, hS2⟩
        refine hK.out _ _ hS2 (fun _ => ?_)
        clear hK K
        try simp only [Act.put, List.setIfInBounds_toArray, List.set_cons_zero, List.set_cons_succ]
        refine take_mk 6 (.slice a1 xs.length c1) rfl (by kernel_rfl) (by kernel_rfl) (by kernel_rfl) (fun _ _ _ h => h) (Or.inl ⟨by rfl, fun Z hZ => by go_simp⟩) (by assumption) ?_
        try simp only [Act.put, List.setIfInBounds_toArray, List.set_cons_zero, List.set_cons_succ]
        refine take_mk 7 (.slice a2 ys.length c2) rfl (by kernel_rfl) (by kernel_rfl) (by kernel_rfl) (fun _ _ _ h => h) (Or.inl ⟨by rfl, fun Z hZ => by go_simp⟩) (by assumption) ?_
        try simp only [Act.put, List.setIfInBounds_toArray, List.set_cons_zero, List.set_cons_succ]
        refine wpAnyH_done (by kernel_rfl) ?_ _
        try simp only [Act.put]
        clear hS1 hS2 hr1 hr2 hb1 hb2 ho1 ho2 hHeld1
      all_goals (
        go_wp2
        (try simp only [Exit.inBlock, Exit.then]); refine bodyPost_ret (results_tmp2 rfl _ _ _) rfl ?_
        refine ⟨_, _, rfl, by rw [HEQ.out.1]; exact rdT_of_row HF.out.1 HO.out.1, by rw [HEQ.out.2]; exact rdT_of_row HF.out.2.1 HO.out.2.1, ?_⟩
        have hb : Below w1.heap.size w1 X2 := HO.out.2.2.1.trans (HF.out.2.2.below HO.out.2.2.1.size HO.out.2.2.2)
        exact HH.out.2.2.2.2.1.trans (hb.mono HH.out.2.2.2.2.1.size))
end Go.Proofs.YtglphfhlpobgcaaGreat

namespace Go.Proofs.YtglphfhlpobgcaaGreat
open Go.RowKit Go.Maps
theorem extT_tells (o : Od) (ms ns : List (T × Value)) {xs ys : List (T × Value)} (hx : cmpt (fun p : T × Value => p.1) (aprt (fun p : T × Value => p.1) ms ns).1 = xs) (hy : cmpt (fun p : T × Value => p.1) (aprt (fun p : T × Value => p.1) ms ns).2 = ys) :
    ((xs.length = 0 ∧ ys.length = 0) → mcmp (gT o) (ms.map (fun p : T × Value => p.1)) (ns.map (fun p : T × Value => p.1)) = 0) ∧
    (¬ (xs.length = 0 ∧ ys.length = 0) → covBT o xs ys = true → mcmp (gT o) (ms.map (fun p : T × Value => p.1)) (ns.map (fun p : T × Value => p.1)) = 1) ∧
    (¬ (xs.length = 0 ∧ ys.length = 0) → covBT o xs ys = false → covBT o ys xs = true → mcmp (gT o) (ms.map (fun p : T × Value => p.1)) (ns.map (fun p : T × Value => p.1)) = -1) ∧
    (¬ (xs.length = 0 ∧ ys.length = 0) → covBT o xs ys = false → covBT o ys xs = false → mcmp (gT o) (ms.map (fun p : T × Value => p.1)) (ns.map (fun p : T × Value => p.1)) = 2) := by
  obtain ⟨h1, h2⟩ := left_apart (fun p : T × Value => p.1) ms ns
  rw [hx] at h1
  rw [hy] at h2
  obtain ⟨t1, t2⟩ := left_tells (fun p : T × Value => p.1) (gT o) h1 h2
  obtain ⟨_, t3⟩ := left_tells (fun p : T × Value => p.1) (gT o) h2 h1
  have hl : (xs.length = 0 ∧ ys.length = 0) ↔ (xs = [] ∧ ys = []) := by simp [List.length_eq_zero_iff]
  have no : ∀ {a b : List (T × Value)}, covBT o a b = false → ¬ cov (fun p : T × Value => p.1) (gT o) a b := fun {a b} h k => by rw [covBT_iff.2 k] at h; cases h
  unfold mcmp
  refine ⟨fun h => ?_, fun h k => ?_, fun h k q => ?_, fun h k q => ?_⟩
  · rw [if_pos (t1.1 (hl.1 h))]
  · have hne := fun e => h (hl.2 e)
    rw [if_neg (fun e => hne (t1.2 e)), if_pos ((t2 hne).1 (covBT_iff.1 k))]
  · have hne := fun e => h (hl.2 e)
    rw [if_neg (fun e => hne (t1.2 e)), if_neg (fun e => no k ((t2 hne).2 e)), if_pos ((t3 (fun e => hne ⟨e.2, e.1⟩)).1 (covBT_iff.1 q))]
  · have hne := fun e => h (hl.2 e)
    rw [if_neg (fun e => hne (t1.2 e)), if_neg (fun e => no k ((t2 hne).2 e)), if_neg (fun e => no q ((t3 (fun e => hne ⟨e.2, e.1⟩)).2 e))]
set_option maxRecDepth 100000 in
set_option maxHeartbeats 4000000 in
theorem extendT_any (w0 : World) (o : Od) (vn vw : Value) (ho : OdAt w0 o vn vw) (hO : OrdrT w0 o vn vw) (ms ns : List (T × Value)) (vm v : Value) (w : World) (hw : Below w0.heap.size w0 w) (hm : RdT w0 w vm ms) (hn : RdT w0 w v ns) (lm : ms.length ≤ 60000) (ln : ns.length ≤ 60000) :
    Calls Tryz.prog 65 #[fsT, foT o vn vw, vm, v] w fun e w' => e = .returned (.int .i64 (mcmp (gT o) (ms.map (fun p : T × Value => p.1)) (ns.map (fun p : T × Value => p.1)))) ∧ Below w.heap.size w w' := by
  have hap := apartT_any w0 ms ns vm v w hw hm hn lm ln
  obtain ⟨xs, hx⟩ : ∃ l, cmpt (fun p : T × Value => p.1) (aprt (fun p : T × Value => p.1) ms ns).1 = l := ⟨_, rfl⟩
  obtain ⟨ys, hy⟩ : ∃ l, cmpt (fun p : T × Value => p.1) (aprt (fun p : T × Value => p.1) ms ns).2 = l := ⟨_, rfl⟩
  have HT := extT_tells o ms ns hx hy
  rw [hx, hy] at hap
  have hcv := fun (W : World) (a b : Value) (hW : Below w.heap.size w W) (h1 : RdT w0 W a xs) (h2 : RdT w0 W b ys) => coversT_any w0 o vn vw ho hO xs ys a b W (hw.trans (hW.mono hw.size)) h1 h2
  have hcv' := fun (W : World) (a b : Value) (hW : Below w.heap.size w W) (h1 : RdT w0 W a ys) (h2 : RdT w0 W b xs) => coversT_any w0 o vn vw ho hO ys xs a b W (hw.trans (hW.mono hw.size)) h1 h2
  obtain ⟨z, hz⟩ : ∃ z, mcmp (gT o) (ms.map (fun p : T × Value => p.1)) (ns.map (fun p : T × Value => p.1)) = z := ⟨_, rfl⟩
  rw [hz] at HT ⊢
  obtain ⟨ma, mc, rfl, _, _⟩ := hm.slice
  obtain ⟨na, nc, rfl, _, _⟩ := hn.slice
  obtain ⟨an, nn, cn, rfl⟩ := ho.vn
  obtain ⟨aw, nw, cw, rfl⟩ := ho.vw
  have HC : Hid (∀ (W : World) (a b : Value), Below w.heap.size w W → RdT w0 W a xs → RdT w0 W b ys → Calls Tryz.prog 105 #[foT o (.slice an nn cn) (.slice aw nw cw), a, b] W fun e w' => e = .returned (.bool (covBT o xs ys)) ∧ Below W.heap.size W w') := hcv
  have HC' : Hid (∀ (W : World) (a b : Value), Below w.heap.size w W → RdT w0 W a ys → RdT w0 W b xs → Calls Tryz.prog 105 #[foT o (.slice an nn cn) (.slice aw nw cw), a, b] W fun e w' => e = .returned (.bool (covBT o ys xs)) ∧ Below W.heap.size W w') := hcv'
  clear hz hcv hcv' hm hn ho hO hw hx hy
  by_cases h0 : xs.length = 0 ∧ ys.length = 0
  · have HV : Hid (z = 0) := HT.1 h0
    have e1 : ((xs.length : Int) == 0) = true := by rw [h0.1]; rfl
    have e2 : ((ys.length : Int) == 0) = true := by rw [h0.2]; rfl
    clear h0 HT
    go_enter Tryz.func65, Tryz.ntmps65
    go_wp2_with fail
    refine hap.mono ?_
    rintro e W2 ⟨v1, v2, rfl, r1, r2, b2⟩
    obtain ⟨a1, c1, rfl, _, _⟩ := r1.slice
    obtain ⟨a2, c2, rfl, _, _⟩ := r2.slice
    have HB : Hid (Below w.heap.size w W2) := b2
    clear r1 r2 b2
    go_wp2
    go_ret
    exact ⟨ret_i64 HV.out.symm, HB.out⟩
  · have hp : (((xs.length : Int) == 0) = true ∧ ((ys.length : Int) == 0) = false) ∨ ((xs.length : Int) == 0) = false := by
      by_cases e : xs.length = 0
      · exact .inl ⟨by rw [e]; rfl, by rw [beq_eq_false_iff_ne]; omega⟩
      · exact .inr (by rw [beq_eq_false_iff_ne]; omega)
    cases k1 : covBT o xs ys
    case true =>
      have HV : Hid (z = 1) := HT.2.1 h0 k1
      rw [k1] at HC
      clear h0 HT k1 HC'
      rcases hp with ⟨e1, e2⟩ | e1
      all_goals (
        go_enter Tryz.func65, Tryz.ntmps65
        go_wp2_with fail
        refine hap.mono ?_
        rintro e W2 ⟨v1, v2, rfl, r1, r2, b2⟩
        have hcc := HC.out W2 v1 v2 b2 r1 r2
        obtain ⟨a1, c1, rfl, _, _⟩ := r1.slice
        obtain ⟨a2, c2, rfl, _, _⟩ := r2.slice
        have HB : Hid (Below w.heap.size w W2) := b2
        clear r1 r2 b2
        go_wp2_with fail
        refine hcc.mono ?_
        rintro e W3 ⟨rfl, b3⟩
        go_wp2
        go_ret
        exact ⟨ret_i64 HV.out.symm, HB.out.trans (b3.mono HB.out.size)⟩)
    case false =>
      rw [k1] at HC
      cases k2 : covBT o ys xs
      · rw [k2] at HC'
        have HV : Hid (z = 2) := by show _ = _; exact HT.2.2.2 h0 k1 k2
        clear h0 HT k1 k2
        rcases hp with ⟨e1, e2⟩ | e1
        all_goals (
          go_enter Tryz.func65, Tryz.ntmps65
          go_wp2_with fail
          refine hap.mono ?_
          rintro e W2 ⟨v1, v2, rfl, r1, r2, b2⟩
          have hcc := HC.out W2 v1 v2 b2 r1 r2
          have r1H : Hid (RdT w0 W2 v1 xs ∧ RdT w0 W2 v2 ys) := ⟨r1, r2⟩
          obtain ⟨a1, c1, rfl, _, _⟩ := r1.slice
          obtain ⟨a2, c2, rfl, _, _⟩ := r2.slice
          have HB : Hid (Below w.heap.size w W2) := b2
          clear r1 r2 b2
          go_wp2_with fail
          refine hcc.mono ?_
          rintro e W3 ⟨rfl, b3⟩
          have b03 := HB.out.trans (b3.mono HB.out.size)
          have hcd := HC'.out W3 _ _ b03 (r1H.out.2.keep b3) (r1H.out.1.keep b3)
          have HB3 : Hid (Below w.heap.size w W3) := b03
          clear b3 b03 hcc
          go_wp2_with fail
          refine hcd.mono ?_
          rintro e W4 ⟨rfl, b4⟩
          go_wp2
          go_ret
          exact ⟨ret_i64 HV.out.symm, HB3.out.trans (b4.mono HB3.out.size)⟩)
      · rw [k2] at HC'
        have HV : Hid (z = -1) := by show _ = _; exact HT.2.2.1 h0 k1 k2
        clear h0 HT k1 k2
        rcases hp with ⟨e1, e2⟩ | e1
        all_goals (
          go_enter Tryz.func65, Tryz.ntmps65
          go_wp2_with fail
          refine hap.mono ?_
          rintro e W2 ⟨v1, v2, rfl, r1, r2, b2⟩
          have hcc := HC.out W2 v1 v2 b2 r1 r2
          have r1H : Hid (RdT w0 W2 v1 xs ∧ RdT w0 W2 v2 ys) := ⟨r1, r2⟩
          obtain ⟨a1, c1, rfl, _, _⟩ := r1.slice
          obtain ⟨a2, c2, rfl, _, _⟩ := r2.slice
          have HB : Hid (Below w.heap.size w W2) := b2
          clear r1 r2 b2
          go_wp2_with fail
          refine hcc.mono ?_
          rintro e W3 ⟨rfl, b3⟩
          have b03 := HB.out.trans (b3.mono HB.out.size)
          have hcd := HC'.out W3 _ _ b03 (r1H.out.2.keep b3) (r1H.out.1.keep b3)
          have HB3 : Hid (Below w.heap.size w W3) := b03
          clear b3 b03 hcc
          go_wp2_with fail
          refine hcd.mono ?_
          rintro e W4 ⟨rfl, b4⟩
          go_wp2
          go_ret
          exact ⟨ret_i64 HV.out.symm, HB3.out.trans (b4.mono HB3.out.size)⟩)
end Go.Proofs.YtglphfhlpobgcaaGreat
