/-
  multi.sides and Order.literals.
-/
import Derived.Test.YtglphfhlpobgcaaGreatYK
import Derived.Test.YtglphfhlpobgcaaGreatZK
namespace Go.Proofs.YtglphfhlpobgcaaGreat
open Go.RowKit Go.Maps

/-- A literal's sides, with their arguments. -/
def spt (x : Lt) (s r : Value) : List (T × Value) := if x.neg = true then [(x.l, s), (x.l, s), (x.r, r), (x.r, r)] else [(x.l, s), (x.r, r)]
theorem spt_sds (x : Lt) (s r : Value) : (spt x s r).map (fun p => p.1) = sds x := by
  unfold spt sds
  split <;> rfl
theorem spt_ok {w0 : World} {x : Lt} {s r : Value} (h : OkL w0 (x, s, r)) : ∀ p ∈ spt x s r, OkT w0 p := by
  have h1 : OkT w0 (x.l, s) := ⟨h.1.1, h.2.1⟩
  have h2 : OkT w0 (x.r, r) := ⟨h.1.2, h.2.2⟩
  intro p hp
  unfold spt at hp
  split at hp
  · simp only [List.mem_cons, List.not_mem_nil, or_false] at hp
    rcases hp with rfl | rfl | rfl | rfl
    · exact h1
    · exact h1
    · exact h2
    · exact h2
  · simp only [List.mem_cons, List.not_mem_nil, or_false] at hp
    rcases hp with rfl | rfl
    · exact h1
    · exact h2
theorem spt_len (x : Lt) (s r : Value) : (spt x s r).length ≤ 4 := by
  unfold spt
  split <;> simp
/-- A row that was built. -/
theorem row_built (W : World) (ps : List (T × Value)) (hl : ps.length ≤ 1000) : (W.alloc (.cells (flT ps).toArray 30)).ownsRow W.heap.size 30 3 (.slice (some ⟨W.heap.size, 0, none⟩) ps.length ps.length) ps.length (flT ps) :=
  ⟨flT_len _, .inr ⟨W.heap.size, ps.length, (flT ps).toArray, rfl, Nat.le_refl _, (MapKept.heap_alloc W _).1, Nat.le_refl _, by unfold maxLen; omega, by rw [List.size_toArray, flT_len], by rw [List.toList_toArray, ← flT_len, List.take_length]⟩⟩

set_option maxRecDepth 100000 in
set_option maxHeartbeats 2000000 in
theorem side_any (w0 : World) (x : Lt) (s r : Value) (hx : OkL w0 (x, s, r)) (W : World) (_hW : Below w0.heap.size w0 W) :
    Calls Tryz.prog 67 #[lval x s r] W fun e W' => ∃ v, e = .returned v ∧ RdT w0 W' v (spt x s r) ∧ Below W.heap.size W W' := by
  obtain ⟨W1, h1⟩ : ∃ X, W.alloc (lbox x s r) = X := ⟨_, rfl⟩
  have hb : Below W.heap.size W W1 := by rw [← h1]; exact below_box _ _
  have hc := bxL_cells W (x, s, r)
  simp only at hc
  rw [h1] at hc
  have hrow := row_built W1 (spt x s r) (by have := spt_len x s r; omega)
  have hok := spt_ok hx
  have hb2 := below_box W1 (.cells (flT (spt x s r)).toArray 30)
  have HF : Hid (RdT w0 (W1.alloc (.cells (flT (spt x s r)).toArray 30)) (.slice (some ⟨W1.heap.size, 0, none⟩) (spt x s r).length (spt x s r).length) (spt x s r) ∧ Below W.heap.size W (W1.alloc (.cells (flT (spt x s r)).toArray 30))) := ⟨rdT_of_row hrow hok, hb.trans (hb2.mono hb.size)⟩
  simp only [OkL] at hx
  obtain ⟨xa, xc, rfl, _, _⟩ := hx.1.1.slice
  obtain ⟨xb, xd, rfl, _, _⟩ := hx.1.2.slice
  obtain ⟨k0, k1, k2, k3, k4, k5, k6⟩ := hc
  simp only [Nat.zero_add] at k0 k1 k2 k3 k4 k5 k6
  obtain ⟨n, l, r⟩ := x
  simp only at *
  clear hb hrow hok hb2 hx
  cases n
  · have HG := HF.out
    simp only [spt, Bool.false_eq_true, if_false, flT, List.flatMap_cons, List.flatMap_nil, List.append_nil, List.cons_append, List.nil_append, List.length_cons, List.length_nil] at HG
    have HH : Hid (∃ v, Ending.returned (.slice (some ⟨W1.heap.size, 0, none⟩) 2 2) = .returned v ∧ RdT w0 (W1.alloc (.cells #[.int .i64 l.v, .string l.fn, .slice xa l.args.length xc, .int .i64 r.v, .string r.fn, .slice xb r.args.length xd] 30)) v (spt ⟨false, l, r⟩ (.slice xa l.args.length xc) (.slice xb r.args.length xd)) ∧ Below W.heap.size W (W1.alloc (.cells #[.int .i64 l.v, .string l.fn, .slice xa l.args.length xc, .int .i64 r.v, .string r.fn, .slice xb r.args.length xd] 30))) := ⟨_, rfl, by simpa [spt] using HG.1, HG.2⟩
    clear HF HG
    go_enter Tryz.func67, Tryz.ntmps67
    try rw [h1]
    go_wp2
    try rw [h1]
    go_ret
    exact HH.out
  · have HG := HF.out
    simp only [spt, if_true, flT, List.flatMap_cons, List.flatMap_nil, List.append_nil, List.cons_append, List.nil_append, List.length_cons, List.length_nil] at HG
    have HH : Hid (∃ v, Ending.returned (.slice (some ⟨W1.heap.size, 0, none⟩) 4 4) = .returned v ∧ RdT w0 (W1.alloc (.cells #[.int .i64 l.v, .string l.fn, .slice xa l.args.length xc, .int .i64 l.v, .string l.fn, .slice xa l.args.length xc, .int .i64 r.v, .string r.fn, .slice xb r.args.length xd, .int .i64 r.v, .string r.fn, .slice xb r.args.length xd] 30)) v (spt ⟨true, l, r⟩ (.slice xa l.args.length xc) (.slice xb r.args.length xd)) ∧ Below W.heap.size W (W1.alloc (.cells #[.int .i64 l.v, .string l.fn, .slice xa l.args.length xc, .int .i64 l.v, .string l.fn, .slice xa l.args.length xc, .int .i64 r.v, .string r.fn, .slice xb r.args.length xd, .int .i64 r.v, .string r.fn, .slice xb r.args.length xd] 30))) := ⟨_, rfl, by simpa [spt] using HG.1, HG.2⟩
    clear HF HG
    go_enter Tryz.func67, Tryz.ntmps67
    try rw [h1]
    go_wp2
    try rw [h1]
    go_ret
    exact HH.out

set_option maxRecDepth 100000 in
set_option maxHeartbeats 4000000 in
theorem literals_any (w0 : World) (o : Od) (vn vw : Value) (ho : OdAt w0 o vn vw) : OrdrL w0 o vn vw := by
  intro p q W hp hq hW
  obtain ⟨x, sx, rx⟩ := p
  obtain ⟨y, sy, ry⟩ := q
  obtain ⟨an, nn, cn, rfl⟩ := ho.vn
  obtain ⟨aw, nw, cw, rfl⟩ := ho.vw
  obtain ⟨W1, h1⟩ : ∃ X, W.alloc (obox o (.slice an nn cn) (.slice aw nw cw)) = X := ⟨_, rfl⟩
  obtain ⟨W2, h2⟩ : ∃ X, W1.alloc (lbox x sx rx) = X := ⟨_, rfl⟩
  obtain ⟨W3, h3⟩ : ∃ X, W2.alloc (lbox y sy ry) = X := ⟨_, rfl⟩
  have b1 : Below W.heap.size W W1 := by rw [← h1]; exact below_box _ _
  have b2 : Below W1.heap.size W1 W2 := by rw [← h2]; exact below_box _ _
  have b3 : Below W2.heap.size W2 W3 := by rw [← h3]; exact below_box _ _
  have s1 : W1.heap.size = W.heap.size + 1 := by rw [← h1]; simp
  have s2 : W2.heap.size = W.heap.size + 2 := by rw [← h2]; simp [s1]
  have s3 : W3.heap.size = W.heap.size + 3 := by rw [← h3]; simp [s2]
  have b13 : Below W1.heap.size W1 W3 := b2.trans (b3.mono b2.size)
  have bb : Below W.heap.size W W3 := b1.trans (b13.mono b1.size)
  obtain ⟨Wd, hWd⟩ : ∃ X, W3.drew = X := ⟨_, rfl⟩
  have hd : Below W3.heap.size W3 Wd := by rw [← hWd]; exact (Below.refl _ W3).drew
  obtain ⟨n0, hn0⟩ : ∃ n, Wd.heap.size = n := ⟨_, rfl⟩
  have hsd : Wd.heap.size = W3.heap.size := by rw [← hWd]; rfl
  have hB0 : Below n0 W3.drew W3.drew := Below.refl _ _
  obtain ⟨o0, o1, o2⟩ := obox_cells W (.bool o.path) (.slice an nn cn) (.slice aw nw cw) 40
  rw [h1] at o0 o1 o2
  have cx := bxL_cells W1 (x, sx, rx)
  simp only at cx
  rw [h2, s1] at cx
  have cy := bxL_cells W2 (y, sy, ry)
  simp only at cy
  rw [h3, s2] at cy
  have cx3 := cx.keep b3 (by omega)
  have qo : ∀ Z, Below n0 Wd Z → Z.cell? ⟨W.heap.size, 0, none⟩ = some (.bool o.path) ∧ Z.cell? ⟨W.heap.size, 1, none⟩ = some (.slice an nn cn) ∧ Z.cell? ⟨W.heap.size, 2, none⟩ = some (.slice aw nw cw) := fun Z hZ => by
    have e : Below W1.heap.size W1 Z := (b13.trans (hd.mono b13.size)).trans (hZ.mono (by omega))
    exact ⟨kc e (by omega) o0, kc e (by omega) o1, kc e (by omega) o2⟩
  have b0d : Below w0.heap.size w0 Wd := (hW.trans (bb.mono hW.size)).trans (hd.mono (by have := hW.size; omega))
  have lw : w0.heap.size ≤ n0 := by have := b0d.size; omega
  have HC1 : Hid (∀ Z, Below n0 Wd Z → Calls Tryz.prog 67 #[lval x sx rx] Z fun e Z' => ∃ v, e = .returned v ∧ RdT w0 Z' v (spt x sx rx) ∧ Below Z.heap.size Z Z') := fun Z hZ => side_any w0 x sx rx hp Z (b0d.trans (hZ.mono lw))
  have HC2 : Hid (∀ Z, Below n0 Wd Z → Calls Tryz.prog 67 #[lval y sy ry] Z fun e Z' => ∃ v, e = .returned v ∧ RdT w0 Z' v (spt y sy ry) ∧ Below Z.heap.size Z Z') := fun Z hZ => side_any w0 y sy ry hq Z (b0d.trans (hZ.mono lw))
  have HC3 : Hid (∀ Z v1 v2, Below n0 Wd Z → RdT w0 Z v1 (spt x sx rx) → RdT w0 Z v2 (spt y sy ry) → Calls Tryz.prog 65 #[fsT, foT o (.slice an nn cn) (.slice aw nw cw), v1, v2] Z fun e Z' => e = .returned (.int .i64 (odL o (x, sx, rx) (y, sy, ry))) ∧ Below Z.heap.size Z Z') := fun Z v1 v2 hZ r1 r2 => by
    have := extendT_any w0 o _ _ ho (ordrT w0 o _ _ ho) (spt x sx rx) (spt y sy ry) v1 v2 Z (b0d.trans (hZ.mono lw)) r1 r2 (by have := spt_len x sx rx; omega) (by have := spt_len y sy ry; omega)
    rw [spt_sds, spt_sds] at this
    exact this
  have qx : ∀ Z, Below n0 Wd Z → CsL Z (W.heap.size + 1) 0 (x, sx, rx) := fun Z hZ => cx3.keep (n := W3.heap.size) (hd.trans (hZ.mono (by omega))) (by omega)
  have qy : ∀ Z, Below n0 Wd Z → CsL Z (W.heap.size + 2) 0 (y, sy, ry) := fun Z hZ => cy.keep (n := W3.heap.size) (hd.trans (hZ.mono (by omega))) (by omega)
  have HW : Hid (Below W.heap.size W Wd ∧ W.heap.size ≤ n0) := ⟨bb.trans (hd.mono bb.size), by omega⟩
  have HN : Hid (Wd.heap.size = n0) := hn0
  obtain ⟨z, hz⟩ : ∃ z, odL o (x, sx, rx) (y, sy, ry) = z := ⟨_, rfl⟩
  rw [hz] at HC3 ⊢
  simp only [OkL] at hp hq
  obtain ⟨xa, xc, rfl, _, _⟩ := hp.1.1.slice
  obtain ⟨xb, xd, rfl, _, _⟩ := hp.1.2.slice
  obtain ⟨ya, yc, rfl, _, _⟩ := hq.1.1.slice
  obtain ⟨yb, yd, rfl, _, _⟩ := hq.1.2.slice
  simp only [CsL, Nat.zero_add] at qx qy
  clear hz b1 b2 b3 b13 bb hd o0 o1 o2 cx cy cx3 b0d lw hp hq hW ho hn0 hsd s3
  simp only
  go_enter Tryz.func33, Tryz.ntmps33
  try rw [h1]
  try rw [h2]
  try rw [h3]
  go_wp2
  try rw [h1]
  try rw [h2]
  try rw [h3]
  try rw [s1]
  try rw [s2]
  refine wp_region_held_drew (S := fun Z => Below n0 W3.drew Z) (by kernel_rfl) hB0 (fun hHeld => ?_)
  rw [hWd] at hHeld ⊢
  refine take_mk 0 (oval o (.slice an nn cn) (.slice aw nw cw)) rfl (by kernel_rfl) (by kernel_rfl) (by kernel_rfl) (fun _ _ _ h => h) (Or.inl ⟨by rfl, fun Z hZ => by obtain ⟨y0, y1, y2⟩ := qo Z hZ; go_simp⟩) (by assumption) ?_
  try simp only [Act.put, List.setIfInBounds_toArray, List.set_cons_zero, List.set_cons_succ]
  refine take_mk 1 (foT o (.slice an nn cn) (.slice aw nw cw)) rfl (by kernel_rfl) (by kernel_rfl) (by kernel_rfl) (fun _ _ _ h => h) (Or.inl ⟨by rfl, fun Z hZ => by go_simp⟩) (by assumption) ?_
  try simp only [Act.put, List.setIfInBounds_toArray, List.set_cons_zero, List.set_cons_succ]
  refine take_mk 2 (lval x (.slice xa x.l.args.length xc) (.slice xb x.r.args.length xd)) rfl (by kernel_rfl) (by kernel_rfl) (by kernel_rfl) (fun _ _ _ h => h) (Or.inl ⟨by rfl, fun Z hZ => by obtain ⟨y0, y1, y2, y3, y4, y5, y6⟩ := qx Z hZ; go_simp⟩) (by assumption) ?_
  try simp only [Act.put, List.setIfInBounds_toArray, List.set_cons_zero, List.set_cons_succ]
  refine take_mk 4 (lval y (.slice ya y.l.args.length yc) (.slice yb y.r.args.length yd)) rfl (by kernel_rfl) (by kernel_rfl) (by kernel_rfl) (fun _ _ _ h => h) (Or.inl ⟨by rfl, fun Z hZ => by obtain ⟨y0, y1, y2, y3, y4, y5, y6⟩ := qy Z hZ; go_simp⟩) (by assumption) ?_
  try simp only [Act.put, List.setIfInBounds_toArray, List.set_cons_zero, List.set_cons_succ]
  refine wpAnyH_ready (rs := [3]) (by kernel_rfl) (by simp) (AllReadyH.cons (o := ⟨_, _, _, _, _, _⟩) rfl (fun K hK => ?_) AllReadyH.nil)
  rw [if_pos (by rfl)]
  go_simp
  refine (HC1.out _ hHeld).mono ?_
  rintro e X1 ⟨v1, rfl, r1, b1⟩
  obtain ⟨a1, c1, rfl, _, _⟩ := r1.slice
  have hS1 : Below n0 Wd X1 := hHeld.trans (b1.mono (by have := hHeld.size; have := HN.out; omega))
  refine hK.out _ _ hS1 (fun hHeld1 => ?_)
  clear hK K
  try simp only [Act.put, List.setIfInBounds_toArray, List.set_cons_zero, List.set_cons_succ]
  refine wpAnyH_ready (rs := [5]) (by kernel_rfl) (by simp) (AllReadyH.cons (o := ⟨_, _, _, _, _, _⟩) rfl (fun K hK => ?_) AllReadyH.nil)
  rw [if_pos (by rfl)]
  go_simp
  refine (HC2.out _ hS1).mono ?_
  rintro e X2 ⟨v2, rfl, r2, b2⟩
  obtain ⟨a2, c2, rfl, _, _⟩ := r2.slice
  have hS2 : Below n0 Wd X2 := hS1.trans (b2.mono (by have := hS1.size; have := HN.out; omega))
  have hcx := HC3.out _ _ _ hS2 (r1.keep b2) r2
  refine hK.out _ _ hS2 (fun hHeld2 => ?_)
  clear hK K
  try simp only [Act.put, List.setIfInBounds_toArray, List.set_cons_zero, List.set_cons_succ]
  refine wpAnyH_ready (rs := [6]) (by kernel_rfl) (by simp) (AllReadyH.cons (o := ⟨_, _, _, _, _, _⟩) rfl (fun K hK => ?_) AllReadyH.nil)
  rw [if_pos (by rfl)]
  go_simp
  refine hcx.mono ?_
  rintro e X3 ⟨rfl, b3⟩
  have hS3 : Below n0 Wd X3 := hS2.trans (b3.mono (by have := hS2.size; have := HN.out; omega))
  refine hK.out _ _ hS3 (fun hHeld3 => ?_)
  clear hK K
  try simp only [Act.put, List.setIfInBounds_toArray, List.set_cons_zero, List.set_cons_succ]
  refine take_mk 7 (.int .i64 z) rfl (by kernel_rfl) (by kernel_rfl) (by kernel_rfl) (fun _ _ _ h => h) (Or.inl ⟨by rfl, fun Z hZ => by go_simp⟩) (by assumption) ?_
  try simp only [Act.put, List.setIfInBounds_toArray, List.set_cons_zero, List.set_cons_succ]
  refine wpAnyH_done (by kernel_rfl) ?_ _
  try simp only [Act.put]
  have HE : Hid (Below n0 Wd X3) := hS3
  clear hS1 hS2 hS3 hHeld hHeld1 hHeld2 hHeld3 hcx b1 b2 b3 r1 r2
  go_wp2
  go_ret
  exact ⟨rfl, HW.out.1.trans (HE.out.mono HW.out.2)⟩

end Go.Proofs.YtglphfhlpobgcaaGreat
