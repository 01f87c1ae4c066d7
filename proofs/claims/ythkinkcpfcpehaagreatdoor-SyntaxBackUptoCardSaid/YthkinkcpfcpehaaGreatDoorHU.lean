import Derived.Test.YthkinkcpfcpehaaGreatDoorHT
namespace Go.Proofs.YthkinkcpfcpehaaGreatDoor
set_option maxRecDepth 100000
set_option maxHeartbeats 32000000
open Go.RowKit Go.Maps
open Lx (agg_store wpList_store_run row_block row_keep row_slice)
theorem cnF_congr (f : Fm) : ∀ (g g' : ByteArray → Option Int) (nx : Nat), (∀ s, (g s).getD 0 = (g' s).getD 0) → cnF g nx f = cnF g' nx f := by
  refine Fm.ind (P := fun f => ∀ (g g' : ByteArray → Option Int) (nx : Nat), (∀ s, (g s).getD 0 = (g' s).getD 0) → cnF g nx f = cnF g' nx f) (fun f ih => ?_) f
  intro g g' nx h
  have key : ∀ l : List Fm, (∀ a ∈ l, a ∈ f.kids) → ∀ (g g' : ByteArray → Option Int) (nx : Nat), (∀ s, (g s).getD 0 = (g' s).getD 0) → cnF.cnFs g nx l = cnF.cnFs g' nx l := by
    intro l
    induction l with
    | nil => intro _ g g' nx _; rw [cnF.cnFs, cnF.cnFs]
    | cons a r ihl =>
      intro hm g g' nx hg
      rw [cnF.cnFs, cnF.cnFs, ih a (hm a (by simp)) g g' nx hg]
      rw [ihl (fun b hb => hm b (by simp [hb])) g g' _ hg]
  rw [cnF_eq, cnF_eq, rnT_congr h, rnT_congr h]
  have h2 : ∀ s, ((if qB f = true then fput g f.nm (nx : Nat) else g) s).getD 0 = ((if qB f = true then fput g' f.nm (nx : Nat) else g') s).getD 0 := by
    intro s
    split
    · rw [fput_getD, fput_getD, h]
    · exact h s
  rw [key f.kids (fun a h => h) _ _ _ h2]
theorem cnF_le (f : Fm) : ∀ (g : ByteArray → Option Int) (nx : Nat), nx ≤ (cnF g nx f).2 ∧ ((cnF g nx f).2 : Int) ≤ nx + f.size := by
  refine Fm.ind (P := fun f => ∀ (g : ByteArray → Option Int) (nx : Nat), nx ≤ (cnF g nx f).2 ∧ ((cnF g nx f).2 : Int) ≤ nx + f.size) (fun f ih => ?_) f
  intro g nx
  have key : ∀ l : List Fm, (∀ a ∈ l, a ∈ f.kids) → ∀ (g : ByteArray → Option Int) (nx : Nat), nx ≤ (cnF.cnFs g nx l).2 ∧ ((cnF.cnFs g nx l).2 : Int) ≤ nx + Fm.size.sizes l := by
    intro l
    induction l with
    | nil => intro _ g nx; rw [cnF.cnFs, Fm.size.sizes]; exact ⟨Nat.le_refl _, by simp⟩
    | cons a r ihl =>
      intro hm g nx
      rw [cnF.cnFs, Fm.size.sizes]
      have h1 := ih a (hm a (by simp)) g nx
      have h2 := ihl (fun b hb => hm b (by simp [hb])) g (cnF g nx a).2
      dsimp only
      omega
  rw [cnF_eq]
  have h1 := key f.kids (fun a h => h) (if qB f = true then fput g f.nm (nx : Nat) else g) (if qB f = true then nx + 1 else nx)
  have h2 := size_kid f
  dsimp only
  by_cases hq : qB f = true
  · simp only [hq, if_true] at h1 ⊢
    omega
  · simp only [hq] at h1 ⊢
    simp only [Bool.false_eq_true, if_false] at h1 ⊢
    omega
/-- What renaming a formula does. -/
def RFP (rb M : Nat) (g : ByteArray → Option Int) (nxt cnt : Nat) (w : World) (u : Fm) (e : Ending) (w' : World) : Prop :=
  ∃ sl sr sk g', e = .returned (fval u sl sr sk) ∧ FmP (fun j => w.heap.size ≤ j) w' u sl sr sk ∧ RN w' rb M (nxt : Nat) g' cnt ∧ (∀ s, (g' s).getD 0 = (g s).getD 0) ∧ Only [rb, M] w w'
def RFc (rb M K : Nat) (f : Fm) : Prop := ∀ (g : ByteArray → Option Int) (nx cnt : Nat) (w : World) (sl sr sk : Value), RN w rb M (nx : Nat) g cnt → NumO K rb M w → FmP (fun k => k ≠ rb ∧ k ≠ M) w f sl sr sk → (∀ s, ∃ k : Nat, k < K ∧ (g s).getD 0 = (k : Nat)) → nx + f.size ≤ K → cnt + 2 * f.size ≤ 8388608 →
  Calls Tryz.prog 38 #[.pointer (some ⟨rb, 0, none⟩), fval f sl sr sk] w (RFP rb M g (cnF g nx f).2 (cnt + 2 * f.size.toNat) w (cnF g nx f).1)
theorem Only.more {rb M : Nat} {W W' : World} (h : Only [M] W W') : Only [rb, M] W W' := ⟨h.os, h.tape, h.output, h.size, fun k hk hn => h.block k hk (fun e => hn (by simp at e ⊢; exact .inr e))⟩
theorem Only.more2 {rb M : Nat} {W W' : World} (h : Only [rb] W W') : Only [rb, M] W W' := ⟨h.os, h.tape, h.output, h.size, fun k hk hn => h.block k hk (fun e => hn (by simp at e ⊢; exact .inl e))⟩
theorem news_of (X : World) (l : List Value) (ty : TypeId) : ∀ j u, l[j]? = some u → (X.alloc (.cells l.toArray ty)).cell? ((⟨X.heap.size, 0, none⟩ : Addr).add j) = some u := by
  intro j u hj
  have ea : (⟨X.heap.size, 0, none⟩ : Addr).add j = ⟨X.heap.size, j, none⟩ := by unfold Addr.add; split <;> simp_all
  rw [ea, World.cell?_alloc_new]
  simpa using hj
theorem info27p : (Tryz.prog.info? 27).map (fun i => (i.zero, i.size, i.bytes)) = some (some zval, 9, 144) := by kernel_rfl
def CutN3 (A : Nat → Value → Value → Value → Act) (I : Nat → World → Prop) : Exit → Act → World → Prop
  | .normal, a', w' => ∃ n u v x, a' = A n u v x ∧ I n w'
  | _, _, _ => False
theorem wp_cutN3 {P : Program} {id : Nat} {ops : Array Oper} {b : Bool} {Q : Exit → Act → World → Prop} {a : Act} {w : World} (A : Nat → Value → Value → Value → Act) (I : Nat → World → Prop) (h : (Code.region id ops b).wp P (CutN3 A I) a w) (hQ : ∀ n u v x w', I n w' → Q .normal (A n u v x) w') : (Code.region id ops b).wp P Q a w :=
  Code.wp_mono (fun e a w h => by
    cases e <;> first | exact h.elim | (obtain ⟨n, u, v, x, rfl, hI⟩ := h; exact hQ n u v x w hI)) h
theorem CutN3.normal {A : Nat → Value → Value → Value → Act} {I : Nat → World → Prop} {a : Act} {w : World} (n : Nat) (u v x : Value) (ha : a = A n u v x) (h : I n w) : CutN3 A I .normal a w := ⟨n, u, v, x, ha, h⟩
/-- A region that does not panic. -/
theorem wp_calm {P : Program} {c : Code} {Q : Exit → Act → World → Prop} {a : Act} {w : World} (h : c.wp P (fun e a w => e = Exit.normal ∧ Q e a w) a w) : c.wp P Q a w := Code.wp_mono (fun _ _ _ h => h.2) h
theorem rformula_step {rb M K : Nat} (hrM : rb ≠ M) (hK : K ≤ 4194304) {f : Fm} (ih : ∀ a ∈ f.kids, RFc rb M K a) (hns : f.nsm) (hwd : wideT f.l = false ∧ wideT f.r = false) (hkl : f.kids.length ≤ 2) : RFc rb M K f := by
  intro g nx cnt w sl sr sk hrn hno hfm hg hnx hcnt
  obtain ⟨la, lc, rfl, _, _⟩ := hfm.l.slice'
  obtain ⟨ra, rc, rfl, _, _⟩ := hfm.r.slice'
  obtain ⟨ka, kc, rfl, hkc, hkm⟩ := hfm.k.slice
  have hkm' : kc ≤ 9223372036854775807 := by unfold maxLen at hkm; omega
  obtain ⟨n, hn⟩ : ∃ n, f.kids.length = n := ⟨_, rfl⟩
  have HN := hidR hn
  have hb1 := below_box w (.cells #[.pointer (some ⟨rb, 0, none⟩)] 112)
  have hz1 := (MapKept.heap_alloc w (.cells #[.pointer (some ⟨rb, 0, none⟩)] 112)).1
  have hs1 : (w.alloc (.cells #[.pointer (some ⟨rb, 0, none⟩)] 112)).heap.size = w.heap.size + 1 := World.size_alloc _ _
  have hfmX : ∀ X, Only [rb, M] w X → FmP (fun k => k ≠ rb ∧ k ≠ M) X f (.slice la f.l.args.length lc) (.slice ra f.r.args.length rc) (.slice ka f.kids.length kc) := fun X hX => hfm.keep hX.size (fun k hk hl => ⟨hk, hX.block k hl (by simp; exact hk)⟩)
  rw [hn] at hkc hkl hfmX ⊢
  obtain ⟨P2, hP2⟩ : ∃ R, w.heap.size = R := ⟨_, rfl⟩
  obtain ⟨w0, hw0⟩ : ∃ X : World, w.alloc (.cells #[.pointer (some ⟨rb, 0, none⟩)] 112) = X := ⟨_, rfl⟩
  rw [hw0] at hb1 hz1 hs1
  rw [hP2] at hz1 hs1
  have hb2 := below_box w0 (fbox f (.slice la f.l.args.length lc) (.slice ra f.r.args.length rc) (.slice ka n kc))
  have hz2 := (MapKept.heap_alloc w0 (fbox f (.slice la f.l.args.length lc) (.slice ra f.r.args.length rc) (.slice ka n kc))).1
  obtain ⟨w1, hw1⟩ : ∃ X : World, w0.alloc (fbox f (.slice la f.l.args.length lc) (.slice ra f.r.args.length rc) (.slice ka n kc)) = X := ⟨_, rfl⟩
  have hs2 : w1.heap.size = P2 + 2 := by rw [← hw1, World.size_alloc, hs1]
  rw [hw1] at hb2 hz2
  rw [hs1] at hz2
  have hb3 := below_box w1 zbox
  have hz3 := (MapKept.heap_alloc w1 zbox).1
  obtain ⟨W0, hW0⟩ : ∃ X : World, w1.alloc zbox = X := ⟨_, rfl⟩
  have hs3 : W0.heap.size = P2 + 3 := by rw [← hW0, World.size_alloc, hs2]
  rw [hW0] at hb3 hz3
  rw [hs2] at hz3
  have hrl : rb < P2 ∧ M < P2 := ⟨by rw [← hP2]; exact (Array.getElem?_eq_some_iff.1 hrn.box).1, by rw [← hP2]; exact hrn.nm.lt⟩
  have hb01 : Below w.heap.size w w1 := hb1.trans (hb2.mono hb1.size)
  have hzP1 : w1.heap[P2]? = some (.cells #[.pointer (some ⟨rb, 0, none⟩)] 112 (0, 0)) := (hb2.block P2 (by omega)).trans hz1
  have HST : Hid (∀ Z, Only [rb, M] w1 Z → Z.heap[P2]? = some (.cells #[.pointer (some ⟨rb, 0, none⟩)] 112 (0, 0)) ∧ Z.heap[P2 + 1]? = some (fbox f (.slice la f.l.args.length lc) (.slice ra f.r.args.length rc) (.slice ka n kc)) ∧ FmP (fun k => k ≠ rb ∧ k ≠ M) Z f (.slice la f.l.args.length lc) (.slice ra f.r.args.length rc) (.slice ka n kc) ∧ NumO K rb M Z ∧ Only [rb, M] w Z) := fun Z hZ => by
    have hwZ : Only [rb, M] w Z := (Only.of_below (B := [rb, M]) hb01).trans hZ (fun r hr => .inl hr)
    exact ⟨(hZ.block P2 (by omega) (by simp; omega)).trans hzP1, (hZ.block (P2 + 1) (by omega) (by simp; omega)).trans hz2, hfmX Z hwZ, hno.next hwZ, hwZ⟩
  have hon0 : Only [rb, M] w1 W0 := Only.of_below hb3
  have hrn0 : RN W0 rb M (nx : Nat) g cnt := (hrn.keep hb01).keep hb3
  have H0 := hidR (And.intro hz3 (And.intro hs3 (And.intro hon0 hrn0)))
  have HRL := hidR hrl
  have HBU := hidR (And.intro hg (And.intro hnx hcnt))
  have HNS := hidR (And.intro hns hwd)
  have HIH := hidR ih
  have HW0 := hidR hW0
  have HW1 := hidR hw1
  have Hw0 := hidR hw0
  have HS2 := hidR hs2
  have HP2 := hidR hP2
  have hfs : f.nm.size ≤ maxLen := by have := Fm.nsm_nm hns; unfold maxLen; omega
  clear hrn hno hfm hg hnx hcnt hb1 hz1 hb2 hz2 hb3 hz3 hs3 hrl hb01 hzP1 hon0 hrn0 hns hwd ih hW0 hw1 hw0 hfmX hn hkm
  go_enter_defers Tryz.func38, Tryz.ntmps38
  go_upto_region 1 with fail
  try simp only [hP2]
  try rw [show _ = w0 from Hw0.out]
  try simp only [hs1]
  try rw [show _ = w1 from HW1.out]
  try simp only [hs2]
  rw [show _ = W0 from HW0.out]
  clear HW0 hs1 hs2 hP2 HW1 Hw0
  obtain ⟨zP, zF, -, -, -⟩ := HST.out W0 H0.out.2.2.1
  apply wp_cutN3 (I := fun O W => ∃ sl' sr', KBx w1 rb M (P2 + 2) O f.k e0 (rnT g f.l) (rnT g f.r) sl' sr' [] (.slice none 0 0) W ∧ Below W0.heap.size W0 W)
  case h =>
    refine wp_region_held_drew (S := fun X => X.heap[P2]? = some (.cells #[.pointer (some ⟨rb, 0, none⟩)] 112 (0, 0)) ∧ X.heap[P2 + 1]? = some (fbox f (.slice la f.l.args.length lc) (.slice ra f.r.args.length rc) (.slice ka n kc))) (by kernel_rfl) ⟨zP, zF⟩ (fun hHeld => ?_)
    have HL : Hid (∀ X, Below W0.heap.size W0 X → Calls Tryz.prog 71 #[.pointer (some ⟨rb, 0, none⟩), tval f.l (.slice la f.l.args.length lc)] X (RTP X (rnT g f.l))) := fun X hX => by
      have ho := H0.out.2.2.1.trans (Only.of_below (B := [rb, M]) hX) (fun r hr => .inl hr)
      obtain ⟨-, -, q3, q4, -⟩ := HST.out X ho
      exact rterm_any HBU.out.1 f.l (Fm.nsm_l HNS.out.1) HNS.out.2.1 X _ (H0.out.2.2.2.keep hX) q4.c q3.l.args
    have HR : Hid (∀ X, Below W0.heap.size W0 X → Calls Tryz.prog 71 #[.pointer (some ⟨rb, 0, none⟩), tval f.r (.slice ra f.r.args.length rc)] X (RTP X (rnT g f.r))) := fun X hX => by
      have ho := H0.out.2.2.1.trans (Only.of_below (B := [rb, M]) hX) (fun r hr => .inl hr)
      obtain ⟨-, -, q3, q4, -⟩ := HST.out X ho
      exact rterm_any HBU.out.1 f.r (Fm.nsm_r HNS.out.1) HNS.out.2.2 X _ (H0.out.2.2.2.keep hX) q4.c q3.r.args
    have HSX : Hid (∀ X, Below W0.heap.size W0 X → X.heap[P2]? = some (.cells #[.pointer (some ⟨rb, 0, none⟩)] 112 (0, 0)) ∧ X.heap[P2 + 1]? = some (fbox f (.slice la f.l.args.length lc) (.slice ra f.r.args.length rc) (.slice ka n kc))) := fun X hX => by
      obtain ⟨q1, q2, -⟩ := HST.out X (H0.out.2.2.1.trans (Only.of_below (B := [rb, M]) hX) (fun r hr => .inl hr))
      exact ⟨q1, q2⟩
    have HMK : Hid (∀ (X : World) (O : Nat) (sl' sr' : Value), Below W0.heap.size W0 X → X.heap[O]? = some zbox → W0.heap.size ≤ O → ArgsP (fun j => P2 + 2 < j ∧ j ≠ O) X sl' (rnT g f.l).args → ArgsP (fun j => P2 + 2 < j ∧ j ≠ O) X sr' (rnT g f.r).args → ∃ Y, (Instr.storeAt 27 (.pointer (some ⟨O, 0, none⟩)) (fval (.mk f.k e0 (rnT g f.l) (rnT g f.r) []) sl' sr' (.slice none 0 0))).run Tryz.prog X = .ok () Y ∧ Hid (KBx w1 rb M (P2 + 2) O f.k e0 (rnT g f.l) (rnT g f.r) sl' sr' [] (.slice none 0 0) Y ∧ Below W0.heap.size W0 Y)) := fun X O sl' sr' hX hO hOl hal har => by
      have h3 := H0.out.2.1
      obtain ⟨Y, h1, h2, h4⟩ := KBx.made (k := f.k) (rb := rb) (M := M) (w1 := w1) ((hX.block (P2 + 2) (by omega)).trans H0.out.1) hO hal har (by omega) (by have := HRL.out; omega) (H0.out.2.2.1.trans (Only.of_below (B := [rb, M]) hX) (fun r hr => .inl hr)) HS2.out
      exact ⟨Y, h1, h4.out, hX.trans ⟨h2.os, h2.tape, h2.output, h2.size, fun j hj => h2.block j (by have := hX.size; omega) (by simp; omega)⟩⟩
    refine Lx.take_mk 0 (.pointer (some ⟨P2 + 1, 0, none⟩)) rfl (by kernel_rfl) (by kernel_rfl) (by kernel_rfl) (fun _ _ _ h => h) (Or.inl ⟨by rfl, ?_⟩) (by first | assumption | trivial) ?_
    · intro w hSw; (try dsimp only at hSw); go_simp
    try simp only [Act.put, List.setIfInBounds_toArray, List.set_cons_zero, List.set_cons_succ]
    refine Lx.take_mk 1 (.int .i64 f.k) rfl (by kernel_rfl) (by kernel_rfl) (by kernel_rfl) (fun _ _ _ h => h) (Or.inl ⟨by rfl, ?_⟩) (by first | assumption | trivial) ?_
    · intro w hSw; obtain ⟨⟨f0, f1, f2, f3, f4, f5, f6, f7, f8⟩, -⟩ := f_cells hSw.2; have p0 := cell_store (vs := [_]) (i := 0) hSw.1 rfl; (try dsimp only at hSw); go_simp
    try simp only [Act.put, List.setIfInBounds_toArray, List.set_cons_zero, List.set_cons_succ]
    refine Lx.take_mk 2 (.pointer (some ⟨rb, 0, none⟩)) rfl (by kernel_rfl) (by kernel_rfl) (by kernel_rfl) (fun _ _ _ h => h) (Or.inl ⟨by rfl, ?_⟩) (by first | assumption | trivial) ?_
    · intro w hSw; obtain ⟨⟨f0, f1, f2, f3, f4, f5, f6, f7, f8⟩, -⟩ := f_cells hSw.2; have p0 := cell_store (vs := [_]) (i := 0) hSw.1 rfl; (try dsimp only at hSw); go_simp
    try simp only [Act.put, List.setIfInBounds_toArray, List.set_cons_zero, List.set_cons_succ]
    refine Lx.take_mk 3 (.pointer (some ⟨P2 + 1, 2, none⟩)) rfl (by kernel_rfl) (by kernel_rfl) (by kernel_rfl) (fun _ _ _ h => h) (Or.inl ⟨by rfl, ?_⟩) (by first | assumption | trivial) ?_
    · intro w hSw; (try dsimp only at hSw); go_simp
    try simp only [Act.put, List.setIfInBounds_toArray, List.set_cons_zero, List.set_cons_succ]
    refine Lx.take_mk 4 (tval f.l (.slice la f.l.args.length lc)) rfl (by kernel_rfl) (by kernel_rfl) (by kernel_rfl) (fun _ _ _ h => h) (Or.inl ⟨by rfl, ?_⟩) (by first | assumption | trivial) ?_
    · intro w hSw; obtain ⟨⟨f0, f1, f2, f3, f4, f5, f6, f7, f8⟩, -⟩ := f_cells hSw.2; have p0 := cell_store (vs := [_]) (i := 0) hSw.1 rfl; (try dsimp only at hSw); go_simp
    try simp only [Act.put, List.setIfInBounds_toArray, List.set_cons_zero, List.set_cons_succ]
    refine Lx.take_mk 6 (.pointer (some ⟨rb, 0, none⟩)) rfl (by kernel_rfl) (by kernel_rfl) (by kernel_rfl) (fun _ _ _ h => h) (Or.inl ⟨by rfl, ?_⟩) (by first | assumption | trivial) ?_
    · intro w hSw; obtain ⟨⟨f0, f1, f2, f3, f4, f5, f6, f7, f8⟩, -⟩ := f_cells hSw.2; have p0 := cell_store (vs := [_]) (i := 0) hSw.1 rfl; (try dsimp only at hSw); go_simp
    try simp only [Act.put, List.setIfInBounds_toArray, List.set_cons_zero, List.set_cons_succ]
    refine Lx.take_mk 7 (.pointer (some ⟨P2 + 1, 5, none⟩)) rfl (by kernel_rfl) (by kernel_rfl) (by kernel_rfl) (fun _ _ _ h => h) (Or.inl ⟨by rfl, ?_⟩) (by first | assumption | trivial) ?_
    · intro w hSw; (try dsimp only at hSw); go_simp
    try simp only [Act.put, List.setIfInBounds_toArray, List.set_cons_zero, List.set_cons_succ]
    refine Lx.take_mk 8 (tval f.r (.slice ra f.r.args.length rc)) rfl (by kernel_rfl) (by kernel_rfl) (by kernel_rfl) (fun _ _ _ h => h) (Or.inl ⟨by rfl, ?_⟩) (by first | assumption | trivial) ?_
    · intro w hSw; obtain ⟨⟨f0, f1, f2, f3, f4, f5, f6, f7, f8⟩, -⟩ := f_cells hSw.2; have p0 := cell_store (vs := [_]) (i := 0) hSw.1 rfl; (try dsimp only at hSw); go_simp
    try simp only [Act.put, List.setIfInBounds_toArray, List.set_cons_zero, List.set_cons_succ]
    refine wpAnyH_ready (rs := [5, 11]) (by kernel_rfl) (by simp) ?_
    refine AllReadyH.cons rfl (fun Kq hKq => ?_) (AllReadyH.cons rfl (fun Kq hKq => ?_) AllReadyH.nil)
    · have hbd := (Below.refl W0.heap.size W0).drew
      have hsz0 := H0.out.2.1
      have hcl := HL.out W0.drew hbd
      go_simp
      refine hcl.mono ?_
      rintro e X1 ⟨sl', rfl, hal, hbL⟩
      obtain ⟨sb, sd, rfl⟩ := hal.slice
      clear hcl
      have hb1 : Below W0.heap.size W0 X1 := hbd.trans hbL
      have hs1 : W0.heap.size ≤ X1.heap.size := hb1.size
      have hal1 : ArgsP (fun j => P2 + 2 < j ∧ j < X1.heap.size) X1 (.slice sb (rnT g f.l).args.length sd) (rnT g f.l).args := hal.keep (Nat.le_refl _) (fun j hj hl => ⟨⟨by have : W0.heap.size ≤ j := hj; omega, hl⟩, rfl⟩)
      refine hKq.out _ _ (HSX.out X1 hb1) (fun hHeld => ?_)
      clear hKq Kq
      try simp only [Act.put, List.getElem_toArray, List.getElem_cons_succ, List.getElem_cons_zero, List.setIfInBounds_toArray, List.set_cons_zero, List.set_cons_succ]
      refine wpAnyH_ready (rs := [9, 11]) (by kernel_rfl) (by simp) ?_
      refine AllReadyH.cons rfl (fun Kq hKq => ?_) (AllReadyH.cons rfl (fun Kq hKq => ?_) AllReadyH.nil)
      · have hcr := HR.out X1 hb1
        go_simp
        refine hcr.mono ?_
        rintro e X2 ⟨sr', rfl, har, hbR⟩
        obtain ⟨sb2, sd2, rfl⟩ := har.slice
        clear hcr
        have hb2 : Below W0.heap.size W0 X2 := hb1.trans (hbR.mono hs1)
        refine hKq.out _ _ (HSX.out X2 hb2) (fun hHeld => ?_)
        clear hKq Kq
        try simp only [Act.put, List.getElem_toArray, List.getElem_cons_succ, List.getElem_cons_zero, List.setIfInBounds_toArray, List.set_cons_zero, List.set_cons_succ]
        refine Lx.take_mk 10 (.agg #[.int .i64 f.k, .string ⟨#[]⟩, .int .i64 (rnT g f.l).v, .string (rnT g f.l).fn, .slice sb (rnT g f.l).args.length sd, .int .i64 (rnT g f.r).v, .string (rnT g f.r).fn, .slice sb2 (rnT g f.r).args.length sd2, .slice none 0 0]) rfl (by kernel_rfl) (by kernel_rfl) (by kernel_rfl) (fun _ _ _ h => h) (Or.inl ⟨by rfl, ?_⟩) (by first | assumption | trivial) ?_
        · intro w hSw; (try dsimp only at hSw); go_simp
        try simp only [Act.put, List.setIfInBounds_toArray, List.set_cons_zero, List.set_cons_succ]
        refine wpAnyH_ready (rs := [11]) (by kernel_rfl) (by simp) ?_
        refine AllReadyH.cons rfl (fun Kq hKq => ?_) AllReadyH.nil
        go_simp
        have hbZ := below_box X2 zbox
        have hb3 : Below W0.heap.size W0 (X2.alloc zbox) := hb2.trans (hbZ.mono hb2.size)
        refine hKq.out _ _ (HSX.out _ hb3) (fun hHeld => ?_)
        clear hKq Kq
        try simp only [Act.put, List.getElem_toArray, List.getElem_cons_succ, List.getElem_cons_zero, List.setIfInBounds_toArray, List.set_cons_zero, List.set_cons_succ]
        obtain ⟨Y, hrun, HKY⟩ := HMK.out (X2.alloc zbox) X2.heap.size _ _ hb3 (MapKept.heap_alloc X2 zbox).1 hb2.size (hal1.keep (Nat.le_trans hbR.size hbZ.size) (fun j hj hl => ⟨⟨hj.1, by have := hbR.size; have := hj.2; omega⟩, (hbZ.block j (Nat.lt_of_lt_of_le hl hbR.size)).trans (hbR.block j hl)⟩)) (har.keep hbZ.size (fun j hj hl => ⟨⟨by omega, by omega⟩, hbZ.block j hl⟩))
        have sY := HSX.out Y HKY.out.2
        refine wpAnyH_ready (rs := [12]) (by kernel_rfl) (by simp) ?_
        refine AllReadyH.cons rfl (fun Kq hKq => ?_) AllReadyH.nil
        try rw [if_pos (by rfl)]
        refine Lx.wp_store_run 27 _ _ rfl (.pointer (some ⟨X2.heap.size, 0, none⟩)) (.agg #[.int .i64 f.k, .string ⟨#[]⟩, .int .i64 (rnT g f.l).v, .string (rnT g f.l).fn, .slice sb (rnT g f.l).args.length sd, .int .i64 (rnT g f.r).v, .string (rnT g f.r).fn, .slice sb2 (rnT g f.r).args.length sd2, .slice none 0 0]) rfl (by kernel_rfl) hrun ?_
        refine hKq.out _ _ sY (fun hHeld => ?_)
        clear hKq Kq
        try simp only [Act.put, List.getElem_toArray, List.getElem_cons_succ, List.getElem_cons_zero]
        refine wpAnyH_done (by kernel_rfl) ?_ _
        have HFIN := hidR (show ∃ sl' sr', KBx w1 rb M (P2 + 2) X2.heap.size f.k e0 (rnT g f.l) (rnT g f.r) sl' sr' [] (.slice none 0 0) Y ∧ Below W0.heap.size W0 Y from ⟨_, _, HKY.out.1, HKY.out.2⟩)
        clear hrun HKY sY
        generalize Value.agg #[.int .i64 f.k, .string ⟨#[]⟩, .int .i64 (rnT g f.l).v, .string (rnT g f.l).fn, .slice sb (rnT g f.l).args.length sd, .int .i64 (rnT g f.r).v, .string (rnT g f.r).fn, .slice sb2 (rnT g f.r).args.length sd2, .slice none 0 0] = u3
        generalize tval (rnT g f.l) (.slice sb (rnT g f.l).args.length sd) = u1
        generalize tval (rnT g f.r) (.slice sb2 (rnT g f.r).args.length sd2) = u2
        generalize X2.heap.size = On at HFIN ⊢
        exact CutN3.normal On u1 u2 u3 rfl HFIN.out
      · go_simp
        have hbZ := below_box X1 zbox
        have hsZ : (X1.alloc zbox).heap.size = X1.heap.size + 1 := World.size_alloc _ _
        have hb2 : Below W0.heap.size W0 (X1.alloc zbox) := hb1.trans (hbZ.mono hs1)
        refine hKq.out _ _ (HSX.out _ hb2) (fun hHeld => ?_)
        clear hKq Kq
        try simp only [Act.put, List.getElem_toArray, List.getElem_cons_succ, List.getElem_cons_zero, List.setIfInBounds_toArray, List.set_cons_zero, List.set_cons_succ]
        refine wpAnyH_ready (rs := [9]) (by kernel_rfl) (by simp) ?_
        refine AllReadyH.cons rfl (fun Kq hKq => ?_) AllReadyH.nil
        have hcr := HR.out (X1.alloc zbox) hb2
        go_simp
        refine hcr.mono ?_
        rintro e X2 ⟨sr', rfl, har, hbR⟩
        obtain ⟨sb2, sd2, rfl⟩ := har.slice
        clear hcr
        have hb3 : Below W0.heap.size W0 X2 := hb2.trans (hbR.mono hb2.size)
        refine hKq.out _ _ (HSX.out _ hb3) (fun hHeld => ?_)
        clear hKq Kq
        try simp only [Act.put, List.getElem_toArray, List.getElem_cons_succ, List.getElem_cons_zero, List.setIfInBounds_toArray, List.set_cons_zero, List.set_cons_succ]
        refine Lx.take_mk 10 (.agg #[.int .i64 f.k, .string ⟨#[]⟩, .int .i64 (rnT g f.l).v, .string (rnT g f.l).fn, .slice sb (rnT g f.l).args.length sd, .int .i64 (rnT g f.r).v, .string (rnT g f.r).fn, .slice sb2 (rnT g f.r).args.length sd2, .slice none 0 0]) rfl (by kernel_rfl) (by kernel_rfl) (by kernel_rfl) (fun _ _ _ h => h) (Or.inl ⟨by rfl, ?_⟩) (by first | assumption | trivial) ?_
        · intro w hSw; (try dsimp only at hSw); go_simp
        try simp only [Act.put, List.setIfInBounds_toArray, List.set_cons_zero, List.set_cons_succ]
        obtain ⟨Y, hrun, HKY⟩ := HMK.out X2 X1.heap.size _ _ hb3 ((hbR.block X1.heap.size (by omega)).trans (MapKept.heap_alloc X1 zbox).1) hs1 (hal1.keep (Nat.le_trans hbZ.size hbR.size) (fun j hj hl => ⟨⟨hj.1, by have := hj.2; omega⟩, (hbR.block j (Nat.lt_of_lt_of_le hl hbZ.size)).trans (hbZ.block j hl)⟩)) (har.keep (Nat.le_refl _) (fun j hj hl => ⟨⟨by omega, by omega⟩, rfl⟩))
        have sY := HSX.out Y HKY.out.2
        refine wpAnyH_ready (rs := [12]) (by kernel_rfl) (by simp) ?_
        refine AllReadyH.cons rfl (fun Kq hKq => ?_) AllReadyH.nil
        try rw [if_pos (by rfl)]
        refine Lx.wp_store_run 27 _ _ rfl (.pointer (some ⟨X1.heap.size, 0, none⟩)) (.agg #[.int .i64 f.k, .string ⟨#[]⟩, .int .i64 (rnT g f.l).v, .string (rnT g f.l).fn, .slice sb (rnT g f.l).args.length sd, .int .i64 (rnT g f.r).v, .string (rnT g f.r).fn, .slice sb2 (rnT g f.r).args.length sd2, .slice none 0 0]) rfl (by kernel_rfl) hrun ?_
        refine hKq.out _ _ sY (fun hHeld => ?_)
        clear hKq Kq
        try simp only [Act.put, List.getElem_toArray, List.getElem_cons_succ, List.getElem_cons_zero]
        refine wpAnyH_done (by kernel_rfl) ?_ _
        have HFIN := hidR (show ∃ sl' sr', KBx w1 rb M (P2 + 2) X1.heap.size f.k e0 (rnT g f.l) (rnT g f.r) sl' sr' [] (.slice none 0 0) Y ∧ Below W0.heap.size W0 Y from ⟨_, _, HKY.out.1, HKY.out.2⟩)
        clear hrun HKY sY
        generalize Value.agg #[.int .i64 f.k, .string ⟨#[]⟩, .int .i64 (rnT g f.l).v, .string (rnT g f.l).fn, .slice sb (rnT g f.l).args.length sd, .int .i64 (rnT g f.r).v, .string (rnT g f.r).fn, .slice sb2 (rnT g f.r).args.length sd2, .slice none 0 0] = u3
        generalize tval (rnT g f.l) (.slice sb (rnT g f.l).args.length sd) = u1
        generalize tval (rnT g f.r) (.slice sb2 (rnT g f.r).args.length sd2) = u2
        generalize X1.heap.size = On at HFIN ⊢
        exact CutN3.normal On u1 u2 u3 rfl HFIN.out
    · have hbd := (Below.refl W0.heap.size W0).drew
      have hsz0 := H0.out.2.1
      go_simp
      have hbZ := below_box W0 zbox
      have hsZ : (W0.alloc zbox).heap.size = P2 + 4 := by rw [World.size_alloc, hsz0]
      have hzZ := (MapKept.heap_alloc W0 zbox).1
      rw [hsz0] at hzZ
      have hbZd : Below W0.heap.size W0 (W0.alloc zbox).drew := hbZ.trans ((Below.refl (W0.alloc zbox).heap.size _).drew.mono hbZ.size)
      try simp only [hsz0]
      refine hKq.out _ _ (HSX.out _ hbZd) (fun hHeld => ?_)
      clear hKq Kq
      try simp only [Act.put, List.getElem_toArray, List.getElem_cons_succ, List.getElem_cons_zero, List.setIfInBounds_toArray, List.set_cons_zero, List.set_cons_succ]
      refine wpAnyH_ready (rs := [5]) (by kernel_rfl) (by simp) ?_
      refine AllReadyH.cons rfl (fun Kq hKq => ?_) AllReadyH.nil
      have hcl := HL.out (W0.drew.alloc zbox) hbZd
      go_simp
      refine hcl.mono ?_
      rintro e X1 ⟨sl', rfl, hal, hbL⟩
      obtain ⟨sb, sd, rfl⟩ := hal.slice
      clear hcl
      have hb1 : Below W0.heap.size W0 X1 := (hbZd).trans (hbL.mono (hbZd).size)
      have hs1 : P2 + 4 ≤ X1.heap.size := by have := hbL.size; have hq : ((W0.drew.alloc zbox)).heap.size = P2 + 4 := hsZ; omega
      have hal1 : ArgsP (fun j => P2 + 2 < j ∧ j ≠ P2 + 3) X1 (.slice sb (rnT g f.l).args.length sd) (rnT g f.l).args := hal.keep (Nat.le_refl _) (fun j hj hl => ⟨⟨by have hq : ((W0.drew.alloc zbox)).heap.size = P2 + 4 := hsZ; have : ((W0.drew.alloc zbox)).heap.size ≤ j := hj; omega, by have hq : ((W0.drew.alloc zbox)).heap.size = P2 + 4 := hsZ; have : ((W0.drew.alloc zbox)).heap.size ≤ j := hj; omega⟩, rfl⟩)
      refine hKq.out _ _ (HSX.out X1 hb1) (fun hHeld => ?_)
      clear hKq Kq
      try simp only [Act.put, List.getElem_toArray, List.getElem_cons_succ, List.getElem_cons_zero, List.setIfInBounds_toArray, List.set_cons_zero, List.set_cons_succ]
      refine wpAnyH_ready (rs := [9]) (by kernel_rfl) (by simp) ?_
      refine AllReadyH.cons rfl (fun Kq hKq => ?_) AllReadyH.nil
      have hcr := HR.out X1 hb1
      go_simp
      refine hcr.mono ?_
      rintro e X2 ⟨sr', rfl, har, hbR⟩
      obtain ⟨sb2, sd2, rfl⟩ := har.slice
      clear hcr
      have hb2 : Below W0.heap.size W0 X2 := hb1.trans (hbR.mono hb1.size)
      refine hKq.out _ _ (HSX.out X2 hb2) (fun hHeld => ?_)
      clear hKq Kq
      try simp only [Act.put, List.getElem_toArray, List.getElem_cons_succ, List.getElem_cons_zero, List.setIfInBounds_toArray, List.set_cons_zero, List.set_cons_succ]
      refine Lx.take_mk 10 (.agg #[.int .i64 f.k, .string ⟨#[]⟩, .int .i64 (rnT g f.l).v, .string (rnT g f.l).fn, .slice sb (rnT g f.l).args.length sd, .int .i64 (rnT g f.r).v, .string (rnT g f.r).fn, .slice sb2 (rnT g f.r).args.length sd2, .slice none 0 0]) rfl (by kernel_rfl) (by kernel_rfl) (by kernel_rfl) (fun _ _ _ h => h) (Or.inl ⟨by rfl, ?_⟩) (by first | assumption | trivial) ?_
      · intro w hSw; (try dsimp only at hSw); go_simp
      try simp only [Act.put, List.setIfInBounds_toArray, List.set_cons_zero, List.set_cons_succ]
      obtain ⟨Y, hrun, HKY⟩ := HMK.out X2 (P2 + 3) _ _ hb2 ((hbR.block (P2 + 3) (by omega)).trans ((hbL.block (P2 + 3) (by have hq : ((W0.drew.alloc zbox)).heap.size = P2 + 4 := hsZ; omega)).trans hzZ)) (by omega) (hal1.keep hbR.size (fun j hj hl => ⟨hj, hbR.block j hl⟩)) (har.keep (Nat.le_refl _) (fun j hj hl => ⟨⟨by omega, by omega⟩, rfl⟩))
      have sY := HSX.out Y HKY.out.2
      refine wpAnyH_ready (rs := [12]) (by kernel_rfl) (by simp) ?_
      refine AllReadyH.cons rfl (fun Kq hKq => ?_) AllReadyH.nil
      try rw [if_pos (by rfl)]
      refine Lx.wp_store_run 27 _ _ rfl (.pointer (some ⟨(P2 + 3), 0, none⟩)) (.agg #[.int .i64 f.k, .string ⟨#[]⟩, .int .i64 (rnT g f.l).v, .string (rnT g f.l).fn, .slice sb (rnT g f.l).args.length sd, .int .i64 (rnT g f.r).v, .string (rnT g f.r).fn, .slice sb2 (rnT g f.r).args.length sd2, .slice none 0 0]) rfl (by kernel_rfl) hrun ?_
      refine hKq.out _ _ sY (fun hHeld => ?_)
      clear hKq Kq
      try simp only [Act.put, List.getElem_toArray, List.getElem_cons_succ, List.getElem_cons_zero]
      refine wpAnyH_done (by kernel_rfl) ?_ _
      have HFIN := hidR (show ∃ sl' sr', KBx w1 rb M (P2 + 2) (P2 + 3) f.k e0 (rnT g f.l) (rnT g f.r) sl' sr' [] (.slice none 0 0) Y ∧ Below W0.heap.size W0 Y from ⟨_, _, HKY.out.1, HKY.out.2⟩)
      clear hrun HKY sY
      generalize Value.agg #[.int .i64 f.k, .string ⟨#[]⟩, .int .i64 (rnT g f.l).v, .string (rnT g f.l).fn, .slice sb (rnT g f.l).args.length sd, .int .i64 (rnT g f.r).v, .string (rnT g f.r).fn, .slice sb2 (rnT g f.r).args.length sd2, .slice none 0 0] = u3
      generalize tval (rnT g f.l) (.slice sb (rnT g f.l).args.length sd) = u1
      generalize tval (rnT g f.r) (.slice sb2 (rnT g f.r).args.length sd2) = u2
      generalize (P2 + 3) = On at HFIN ⊢
      exact CutN3.normal On u1 u2 u3 rfl HFIN.out
  case hQ =>
    intro O u1 u2 u3 W2 hI
    obtain ⟨sl', sr', hkb, hb2⟩ := hI
    have hrn2 := H0.out.2.2.2.keep hb2
    obtain ⟨zP2, zF2, hfm2, -, -⟩ := HST.out W2 hkb.on
    have hiq := isQuant_any hfm2
    obtain ⟨⟨n0, n1, n2, n3, n4, n5, n6, n7, n8⟩, -⟩ := f_cells zF2
    have HK2 := hidR (And.intro hkb hrn2)
    obtain ⟨b1, hb1⟩ : ∃ b, qB f = b := ⟨_, rfl⟩
    have HQ := hidR hb1
    have hmf : ∀ (fn : Fn) (first cap : Array Value) (w : World), (Instr.makeFunc fn first cap).run Tryz.prog w = .ok (.func fn first cap) w := fun _ _ _ _ => rfl
    obtain ⟨i0, hi0, hz0, hz1, hz2⟩ := info_parts info27p
    rw [hb1] at hiq
    clear zP zF zP2 zF2 hfm2 hkb hrn2 hb2 hb1
    go_wp2_with fail
    refine hiq.mono ?_
    rintro e W3 ⟨rfl, hb3⟩
    have hkb3 := HK2.out.1.step (Only.of_below (B := [rb, M]) hb3)
    have hrn3 := HK2.out.2.keep hb3
    clear hiq hb3 n0 n1 n2 n3 n4 n5 n6 n7 n8 HK2
    obtain ⟨zP3, zF3, -, -, -⟩ := HST.out W3 hkb3.on
    cases b1 with
    | false =>
      have hkbT := hkb3
      have hrnT := hrn3
      have HKT := hidR (And.intro hkbT hrnT)
      obtain ⟨-, zFT, -, -, -⟩ := HST.out W3 hkbT.on
      have nT := (f_cells zFT).1.2.2.2.2.2.2.2.2
      have HKS : Hid (∀ Z, Only [rb, M] w1 Z → KidsP (fun k => k ≠ rb ∧ k ≠ M) Z (.slice ka n kc) f.kids) := fun Z hZ => (HST.out Z hZ).2.2.1.k
      have HCF : Hid (∀ (gi : ByteArray → Option Int) (s : ByteArray), (∀ s, (gi s).getD 0 = (g s).getD 0) → ∃ k : Nat, k < K ∧ (gi s).getD 0 = (k : Nat)) := fun gi s hgi => by
        rw [hgi]
        exact HBU.out.1 s
      have hsk := size_kid f
      have hsp := sizes_pos f.kids
      have HSZ : Hid (1 + Fm.size.sizes f.kids ≤ f.size ∧ 0 ≤ Fm.size.sizes f.kids) := ⟨hsk, hsp⟩
      clear hkbT hrnT zFT hsk hsp zP3 zF3 hkb3 hrn3
      go_wp2
      go_loopw [8, 56] (fun v8 vi wr => ∃ i : Nat, vi = .int .i64 i ∧ i ≤ n ∧ Hid (∃ (zs : List Pc) (v : Value) (gi : ByteArray → Option Int) (nxi ci : Nat), zs.map Pc.f ++ (cnF.cnFs g nxi (f.kids.drop i)).1 = (cnF.cnFs g nx f.kids).1 ∧ (cnF.cnFs g nxi (f.kids.drop i)).2 = (cnF.cnFs g nx f.kids).2 ∧ zs.length = i ∧ KBx w1 rb M (P2 + 2) O f.k e0 (rnT g f.l) (rnT g f.r) sl' sr' zs v wr ∧ RN wr rb M (nxi : Nat) gi ci ∧ (∀ s, (gi s).getD 0 = (g s).getD 0) ∧ (nxi : Int) + Fm.size.sizes (f.kids.drop i) ≤ K ∧ (ci : Int) + 2 * Fm.size.sizes (f.kids.drop i) ≤ cnt + 2 * Fm.size.sizes f.kids)) (fun v8 vi _ => n - (intOf vi).toNat)
      case atStart =>
        have h1 := HBU.out
        have h2 := HSZ.out
        exact ⟨0, rfl, Nat.zero_le _, [], _, g, nx, cnt, by simp, by simp, rfl, HKT.out.1, HKT.out.2, fun _ => rfl, by rw [List.drop_zero]; omega, by rw [List.drop_zero]; omega⟩
      case round =>
        obtain ⟨i, rfl, hi, HI⟩ := hrel
        obtain ⟨zs, v, gi, nxi, ci, hc1, hc2, hzl, hkb, hrn, hgi, hbu1, hbu2⟩ := HI.out
        obtain ⟨va, vc, rfl⟩ := row_slice hkb.row
        rw [hzl] at hkb
        by_cases hlt : i < n
        · have hil : i < f.kids.length := by rw [HN.out]; exact hlt
          have hks := HKS.out wr hkb.on
          rw [← HN.out] at hks
          obtain ⟨b, o, sl, sr, sk, rfl, hbm, hbl, ⟨y0, y1, ⟨y2, y3, y4⟩, ⟨y5, y6, y7⟩, y8⟩, hss⟩ := hks.nth hil
          obtain ⟨a1, c1, rfl, _, _⟩ := hss.l.slice'
          obtain ⟨a2, c2, rfl, _, _⟩ := hss.r.slice'
          obtain ⟨a3, c3, rfl, _, _⟩ := hss.k.slice
          have hstep := sizes_step hil
          have hmem := List.getElem_mem hil
          have hdrop := List.drop_eq_getElem_cons hil
          have hspos := sizes_pos (f.kids.drop (i + 1))
          have hbG := below_box wr (fbox f.kids[i] (.slice a1 f.kids[i].l.args.length c1) (.slice a2 f.kids[i].r.args.length c2) (.slice a3 f.kids[i].kids.length c3))
          have hzG := (MapKept.heap_alloc wr (fbox f.kids[i] (.slice a1 f.kids[i].l.args.length c1) (.slice a2 f.kids[i].r.args.length c2) (.slice a3 f.kids[i].kids.length c3))).1
          obtain ⟨G, hG⟩ : ∃ G, wr.heap.size = G := ⟨_, rfl⟩
          obtain ⟨X1, hX1⟩ : ∃ X : World, wr.alloc (fbox f.kids[i] (.slice a1 f.kids[i].l.args.length c1) (.slice a2 f.kids[i].r.args.length c2) (.slice a3 f.kids[i].kids.length c3)) = X := ⟨_, rfl⟩
          rw [hX1] at hbG hzG
          rw [hG] at hzG
          have hbd : Below wr.heap.size wr X1.drew := hbG.trans ((Below.refl X1.heap.size X1).drew.mono hbG.size)
          have hkb1 := hkb.step (Only.of_below (B := [rb, M]) hbd)
          have hrn1 := hrn.keep hbd
          obtain ⟨q1, -, -, q4, -⟩ := HST.out X1.drew hkb1.on
          have hcntK := HBU.out.2.2
          have hszp := HSZ.out
          have hc := HIH.out f.kids[i] hmem gi nxi ci X1.drew _ _ _ hrn1 q4 (hss.keep hbd.size (fun k hk hl => ⟨hk, hbd.block k hl⟩)) (fun s => HCF.out gi s hgi) (by omega) (by omega)
          have hkl' := hkb.lt
          have hGX : G < X1.heap.size := (Array.getElem?_eq_some_iff.1 hzG).1
          have hvZ : ∀ g, (Value.slice va i vc).ownBlock = some g → g < G := fun g hg => by
            obtain ⟨h1, cu, hcu⟩ := row_block hkb.row hg
            have := (Array.getElem?_eq_some_iff.1 hcu).1; omega
          have HZ : Hid (KBx w1 rb M (P2 + 2) O f.k e0 (rnT g f.l) (rnT g f.r) sl' sr' zs (.slice va i vc) X1.drew ∧ O < X1.drew.heap.size ∧ (∀ g, (Value.slice va i vc).ownBlock = some g → g < X1.drew.heap.size) ∧ (∀ g, (Value.slice va i vc).ownBlock = some g → g < G)) := ⟨hkb1, hkb1.lt, fun g hg => by have := hvZ g hg; show g < X1.heap.size; omega, hvZ⟩
          have HG1 : Hid (X1.drew.heap[G]? = some (fbox f.kids[i] (.slice a1 f.kids[i].l.args.length c1) (.slice a2 f.kids[i].r.args.length c2) (.slice a3 f.kids[i].kids.length c3)) ∧ G < X1.drew.heap.size) := ⟨hzG, hGX⟩
          have HGR : Hid (P2 + 2 < O ∧ O < G ∧ rb < P2 ∧ M < P2) := ⟨hkb.RO, by omega, HRL.out⟩
          have HGO : Hid (G ≠ O ∧ P2 ≠ O) := by have := HGR.out; exact ⟨by omega, by omega⟩
          have o1 : X1.cell? ⟨O, 8, none⟩ = some (.slice va i vc) := YthkinkcpfcpehaaGreatDoor.kc hbG hkl' hkb.cells.2.2.2.2.2.2.2.2
          have HZL := hidR hzl
          have HGI := hidR hgi
          have HBS : Hid (f.kids[i].size + Fm.size.sizes (f.kids.drop (i + 1)) = Fm.size.sizes (f.kids.drop i) ∧ (nxi : Int) + Fm.size.sizes (f.kids.drop i) ≤ K ∧ (ci : Int) + 2 * Fm.size.sizes (f.kids.drop i) ≤ cnt + 2 * Fm.size.sizes f.kids ∧ 1 ≤ f.kids[i].size) := ⟨hstep.symm, hbu1, hbu2, fm_pos _⟩
          have HC1 : Hid (zs.map Pc.f ++ ((cnF g nxi f.kids[i]).1 :: (cnF.cnFs g (cnF g nxi f.kids[i]).2 (f.kids.drop (i + 1))).1) = (cnF.cnFs g nx f.kids).1 ∧ (cnF.cnFs g (cnF g nxi f.kids[i]).2 (f.kids.drop (i + 1))).2 = (cnF.cnFs g nx f.kids).2) := by
            rw [hdrop, cnF.cnFs] at hc1 hc2
            exact ⟨hc1, hc2⟩
          have HX1 := hidR hX1
          generalize f.kids[i] = u at y0 y1 y2 y3 y4 y5 y6 y7 y8 hc HG1 HBS HC1 HX1
          have s1 : X1.drew.heap[P2]? = some (.cells #[.pointer (some ⟨rb, 0, none⟩)] 112 (0, 0)) ∧ X1.drew.heap[G]? = some (fbox u (.slice a1 u.l.args.length c1) (.slice a2 u.r.args.length c2) (.slice a3 u.kids.length c3)) := ⟨q1, HG1.out.1⟩
          clear hks hss hstep hmem hdrop hspos hbG hzG hX1 hbd hkb1 hrn1 q1 q4 hkl' hGX hvZ hcntK hszp HI hc1 hc2 hzl hkb hrn hgi hbu1 hbu2 hbl hbm
          go_upto_region 11 with fail
          try simp only [hG]
          rw [show _ = X1 from HX1.out]
          clear HX1 hG
          refine wp_calm ?_
          refine wp_region_held_drew (S := fun X => X.heap[P2]? = some (.cells #[.pointer (some ⟨rb, 0, none⟩)] 112 (0, 0)) ∧ X.heap[G]? = some (fbox u (.slice a1 u.l.args.length c1) (.slice a2 u.r.args.length c2) (.slice a3 u.kids.length c3))) (by kernel_rfl) s1 (fun hHeld => ?_)
          refine Lx.take_mk 0 (.pointer (some ⟨O, 8, none⟩)) rfl (by kernel_rfl) (by kernel_rfl) (by kernel_rfl) (fun _ _ _ h => by cases h.1) (Or.inl ⟨by rfl, ?_⟩) (by first | assumption | trivial) ?_
          · intro w hSw; (try dsimp only at hSw); go_simp
          try simp only [Act.put, List.setIfInBounds_toArray, List.set_cons_zero, List.set_cons_succ]
          refine Lx.take_mk 2 (.pointer (some ⟨rb, 0, none⟩)) rfl (by kernel_rfl) (by kernel_rfl) (by kernel_rfl) (fun _ _ _ h => by cases h.1) (Or.inl ⟨by rfl, ?_⟩) (by first | assumption | trivial) ?_
          · intro w hSw; have p0 := cell_store (vs := [_]) (i := 0) hSw.1 rfl; (try dsimp only at hSw); go_simp
          try simp only [Act.put, List.setIfInBounds_toArray, List.set_cons_zero, List.set_cons_succ]
          refine Lx.take_mk 3 (fval u (.slice a1 u.l.args.length c1) (.slice a2 u.r.args.length c2) (.slice a3 u.kids.length c3)) rfl (by kernel_rfl) (by kernel_rfl) (by kernel_rfl) (fun _ _ _ h => by cases h.1) (Or.inl ⟨by rfl, ?_⟩) (by first | assumption | trivial) ?_
          · intro w hSw; obtain ⟨⟨f0, f1, f2, f3, f4, f5, f6, f7, f8⟩, -⟩ := f_cells hSw.2; (try dsimp only at hSw); go_simp
          try simp only [Act.put, List.setIfInBounds_toArray, List.set_cons_zero, List.set_cons_succ]
          refine wpAnyH_ready (rs := [1, 4]) (by kernel_rfl) (by simp) ?_
          refine AllReadyH.cons rfl (fun Kq hKq => ?_) (AllReadyH.cons rfl (fun Kq hKq => ?_) AllReadyH.nil)
          · go_simp
            refine hKq.out _ _ s1 (fun hHeld => ?_)
            clear hKq Kq
            try simp only [Act.put, List.getElem_toArray, List.getElem_cons_succ, List.getElem_cons_zero, List.setIfInBounds_toArray, List.set_cons_zero, List.set_cons_succ]
            refine wpAnyH_ready (rs := [4]) (by kernel_rfl) (by simp) ?_
            refine AllReadyH.cons rfl (fun Kq hKq => ?_) AllReadyH.nil
            go_simp
            refine hc.mono ?_
            rintro e W3 ⟨sl2, sr2, sk2, g', rfl, hfm2, hrn2, hgs2, ho2⟩
            obtain ⟨d1, e1, rfl, _, _⟩ := hfm2.l.slice'
            obtain ⟨d2, e2, rfl, _, _⟩ := hfm2.r.slice'
            obtain ⟨d3, e3, rfl, _, _⟩ := hfm2.k.slice
            have hkb3 := HZ.out.1.step ho2
            obtain ⟨-, -, -, -, -, -, -, -, o3⟩ := hkb3.cells
            have o3a : ∀ ob : Obj, (W3.alloc ob).cell? ⟨O, 8, none⟩ = some (.slice va i vc) := fun ob => YthkinkcpfcpehaaGreatDoor.kc (below_box W3 ob) hkb3.lt o3
            have HROW : Hid (W3.ownsRow (O + 1) 27 9 (.slice va i vc) i (flP zs)) := by have := hkb3.row; rwa [HZL.out] at this
            have HO3 : Hid (O < W3.heap.size) := hkb3.lt
            have HONE : Hid (∀ u' ∈ ([.int .i64 (cnF gi nxi u).1.k, .string (cnF gi nxi u).1.nm, .int .i64 (cnF gi nxi u).1.l.v, .string (cnF gi nxi u).1.l.fn, .slice d1 (cnF gi nxi u).1.l.args.length e1, .int .i64 (cnF gi nxi u).1.r.v, .string (cnF gi nxi u).1.r.fn, .slice d2 (cnF gi nxi u).1.r.args.length e2, .slice d3 (cnF gi nxi u).1.kids.length e3] : List Value), u'.oneCell' = true) := hfm2.one
            have hP3 := (HST.out W3 hkb3.on).1
            have hPl := (Array.getElem?_eq_some_iff.1 hP3).1
            have s3 : W3.heap[P2]? = some (.cells #[.pointer (some ⟨rb, 0, none⟩)] 112 (0, 0)) ∧ W3.heap[G]? = some (fbox u (.slice a1 u.l.args.length c1) (.slice a2 u.r.args.length c2) (.slice a3 u.kids.length c3)) := ⟨hP3, (ho2.block G HG1.out.2 (by have := HGR.out; simp; omega)).trans HG1.out.1⟩
            have hGl3 : G < W3.heap.size := Nat.lt_of_lt_of_le HG1.out.2 ho2.size
            have s3a : ∀ ob : Obj, (W3.alloc ob).heap[P2]? = some (.cells #[.pointer (some ⟨rb, 0, none⟩)] 112 (0, 0)) ∧ (W3.alloc ob).heap[G]? = some (fbox u (.slice a1 u.l.args.length c1) (.slice a2 u.r.args.length c2) (.slice a3 u.kids.length c3)) := fun ob => ⟨((below_box W3 ob).block P2 hPl).trans s3.1, ((below_box W3 ob).block G hGl3).trans s3.2⟩
            have HS6 : Hid (∀ (x : Obj) (w6 : World), (W3.alloc x).grownBy w6 (Value.slice va i vc).ownBlock → w6.heap[P2]? = some (.cells #[.pointer (some ⟨rb, 0, none⟩)] 112 (0, 0)) ∧ w6.heap[G]? = some (fbox u (.slice a1 u.l.args.length c1) (.slice a2 u.r.args.length c2) (.slice a3 u.kids.length c3))) := fun x w6 hgr => ⟨(hgr.block P2 (Nat.lt_of_lt_of_le hPl (below_box W3 x).size) (fun e => by have := (row_block hkb3.row e.symm).1; have := HGR.out; omega)).trans (s3a x).1, (hgr.block G (Nat.lt_of_lt_of_le hGl3 (below_box W3 x).size) (fun e => by have := HZ.out.2.2.2 G e.symm; omega)).trans (s3a x).2⟩
            have HPUSH : Hid (∀ (v' : Value) (w6 : World), w6.ownsRow (O + 1) 27 9 v' (i + 1) (flP zs ++ [.int .i64 (cnF gi nxi u).1.k, .string (cnF gi nxi u).1.nm, .int .i64 (cnF gi nxi u).1.l.v, .string (cnF gi nxi u).1.l.fn, .slice d1 (cnF gi nxi u).1.l.args.length e1, .int .i64 (cnF gi nxi u).1.r.v, .string (cnF gi nxi u).1.r.fn, .slice d2 (cnF gi nxi u).1.r.args.length e2, .slice d3 (cnF gi nxi u).1.kids.length e3]) → (W3.alloc (.cells #[.int .i64 (cnF gi nxi u).1.k, .string (cnF gi nxi u).1.nm, .int .i64 (cnF gi nxi u).1.l.v, .string (cnF gi nxi u).1.l.fn, .slice d1 (cnF gi nxi u).1.l.args.length e1, .int .i64 (cnF gi nxi u).1.r.v, .string (cnF gi nxi u).1.r.fn, .slice d2 (cnF gi nxi u).1.r.args.length e2, .slice d3 (cnF gi nxi u).1.kids.length e3] 27)).grownBy w6 (Value.slice va i vc).ownBlock → (v'.ownBlock = (Value.slice va i vc).ownBlock ∨ v'.ownBlock = some (W3.alloc (.cells #[.int .i64 (cnF gi nxi u).1.k, .string (cnF gi nxi u).1.nm, .int .i64 (cnF gi nxi u).1.l.v, .string (cnF gi nxi u).1.l.fn, .slice d1 (cnF gi nxi u).1.l.args.length e1, .int .i64 (cnF gi nxi u).1.r.v, .string (cnF gi nxi u).1.r.fn, .slice d2 (cnF gi nxi u).1.r.args.length e2, .slice d3 (cnF gi nxi u).1.kids.length e3] 27)).heap.size) →
              KBx w1 rb M (P2 + 2) O f.k e0 (rnT g f.l) (rnT g f.r) sl' sr' (zs ++ [⟨0, (cnF gi nxi u).1, .slice d1 (cnF gi nxi u).1.l.args.length e1, .slice d2 (cnF gi nxi u).1.r.args.length e2, .slice d3 (cnF gi nxi u).1.kids.length e3⟩]) v' (w6.setCell ⟨O, 8, none⟩ v') ∧ Only (O :: (Value.slice va i vc).ownBlock.toList) W3 (w6.setCell ⟨O, 8, none⟩ v') ∧ w6.cell? ⟨O, 8, none⟩ = some (.slice va i vc) ∧ w6.frozen? ⟨O, 8, none⟩ = false) :=
              fun v' w6 q1 q2 q3 => hkb3.push (x := ⟨0, (cnF gi nxi u).1, .slice d1 (cnF gi nxi u).1.l.args.length e1, .slice d2 (cnF gi nxi u).1.r.args.length e2, .slice d3 (cnF gi nxi u).1.kids.length e3⟩) HZ.out.2.1 HZ.out.2.2.1 hfm2 (by rw [HZL.out]; exact q1) (below_box W3 _) q2 q3
            have HFIN : Hid (∀ (v' : Value) (w6 : World), (W3.alloc (.cells #[.int .i64 (cnF gi nxi u).1.k, .string (cnF gi nxi u).1.nm, .int .i64 (cnF gi nxi u).1.l.v, .string (cnF gi nxi u).1.l.fn, .slice d1 (cnF gi nxi u).1.l.args.length e1, .int .i64 (cnF gi nxi u).1.r.v, .string (cnF gi nxi u).1.r.fn, .slice d2 (cnF gi nxi u).1.r.args.length e2, .slice d3 (cnF gi nxi u).1.kids.length e3] 27)).grownBy w6 (Value.slice va i vc).ownBlock → (v'.ownBlock = (Value.slice va i vc).ownBlock ∨ v'.ownBlock = some (W3.alloc (.cells #[.int .i64 (cnF gi nxi u).1.k, .string (cnF gi nxi u).1.nm, .int .i64 (cnF gi nxi u).1.l.v, .string (cnF gi nxi u).1.l.fn, .slice d1 (cnF gi nxi u).1.l.args.length e1, .int .i64 (cnF gi nxi u).1.r.v, .string (cnF gi nxi u).1.r.fn, .slice d2 (cnF gi nxi u).1.r.args.length e2, .slice d3 (cnF gi nxi u).1.kids.length e3] 27)).heap.size) → KBx w1 rb M (P2 + 2) O f.k e0 (rnT g f.l) (rnT g f.r) sl' sr' (zs ++ [⟨0, (cnF gi nxi u).1, .slice d1 (cnF gi nxi u).1.l.args.length e1, .slice d2 (cnF gi nxi u).1.r.args.length e2, .slice d3 (cnF gi nxi u).1.kids.length e3⟩]) v' (w6.setCell ⟨O, 8, none⟩ v') →
              ∃ (zs : List Pc) (v : Value) (gi : ByteArray → Option Int) (nxi ci : Nat), zs.map Pc.f ++ (cnF.cnFs g nxi (f.kids.drop (i + 1))).1 = (cnF.cnFs g nx f.kids).1 ∧ (cnF.cnFs g nxi (f.kids.drop (i + 1))).2 = (cnF.cnFs g nx f.kids).2 ∧ zs.length = i + 1 ∧ KBx w1 rb M (P2 + 2) O f.k e0 (rnT g f.l) (rnT g f.r) sl' sr' zs v (w6.setCell ⟨O, 8, none⟩ v') ∧ RN (w6.setCell ⟨O, 8, none⟩ v') rb M (nxi : Nat) gi ci ∧ (∀ s, (gi s).getD 0 = (g s).getD 0) ∧ (nxi : Int) + Fm.size.sizes (f.kids.drop (i + 1)) ≤ K ∧ (ci : Int) + 2 * Fm.size.sizes (f.kids.drop (i + 1)) ≤ cnt + 2 * Fm.size.sizes f.kids) := fun v' w6 hgr hb hk7 => by
              obtain ⟨x0, hx0⟩ : ∃ x : Obj, Obj.cells #[.int .i64 (cnF gi nxi u).1.k, .string (cnF gi nxi u).1.nm, .int .i64 (cnF gi nxi u).1.l.v, .string (cnF gi nxi u).1.l.fn, .slice d1 (cnF gi nxi u).1.l.args.length e1, .int .i64 (cnF gi nxi u).1.r.v, .string (cnF gi nxi u).1.r.fn, .slice d2 (cnF gi nxi u).1.r.args.length e2, .slice d3 (cnF gi nxi u).1.kids.length e3] 27 = x := ⟨_, rfl⟩
              rw [hx0] at hgr hb
              have hle := cnF_le u gi nxi
              have hbs := HBS.out
              have hrb3 := (Array.getElem?_eq_some_iff.1 hrn2.box).1
              have hMl3 := hrn2.nm.lt
              have hkM := hkb3.rM
              have hkRO := hkb3.RO
              have sm : ∀ j, j < W3.heap.size → j < O → (w6.setCell ⟨O, 8, none⟩ v').heap[j]? = W3.heap[j]? := fun j hj hjO => (Below.heap_setCell _ _ _ j (by show j ≠ O; omega)).trans ((hgr.block j (Nat.lt_of_lt_of_le hj (below_box W3 x0).size) (fun e => by have := (row_block hkb3.row e.symm).1; omega)).trans ((below_box W3 x0).block j hj))
              refine ⟨_, _, g', (cnF gi nxi u).2, ci + 2 * u.size.toNat, ?_, ?_, by rw [List.length_append, HZL.out]; rfl, hk7, ⟨(sm rb hrb3 (by omega)).trans hrn2.box, hrn2.nm.same (sm M hMl3 (by omega))⟩, fun s => by rw [hgs2, HGI.out], by omega, by push_cast; omega⟩
              · rw [← HC1.out.1, List.map_append, List.append_assoc, cnF_congr u gi g nxi HGI.out]; rfl
              · rw [← HC1.out.2, cnF_congr u gi g nxi HGI.out]
            clear hkb3 hfm2 hrn2 hgs2 ho2 hP3 hPl hGl3
            refine hKq.out _ _ s3 (fun hHeld => ?_)
            clear hKq Kq
            try simp only [Act.put, List.getElem_toArray, List.getElem_cons_succ, List.getElem_cons_zero, List.setIfInBounds_toArray, List.set_cons_zero, List.set_cons_succ]
            refine wpAnyH_ready (rs := [5]) (by kernel_rfl) (by simp) ?_
            refine AllReadyH.cons rfl (fun Kq hKq => ?_) AllReadyH.nil
            go_simp
            refine hKq.out _ _ (s3a _) (fun hHeld => ?_)
            clear hKq Kq
            try simp only [Act.put, List.getElem_toArray, List.getElem_cons_succ, List.getElem_cons_zero, List.setIfInBounds_toArray, List.set_cons_zero, List.set_cons_succ]
            refine wpAnyH_ready (rs := [6]) (by kernel_rfl) (by simp) ?_
            refine AllReadyH.cons rfl (fun Kq hKq => ?_) AllReadyH.nil
            refine step_append_own _ rfl (.tmp 61) (.tmp 65) 25 rfl (O + 1) 27 i0 _ 9 144 Tryz.underlying25 hi0 hz0 hz1 hz2 rfl (by decide) (.slice va i vc) i (flP zs) rfl (Lx.row_below HROW.out (below_box W3 _)) ⟨W3.heap.size, 0, none⟩ 1 1 [.int .i64 (cnF gi nxi u).1.k, .string (cnF gi nxi u).1.nm, .int .i64 (cnF gi nxi u).1.l.v, .string (cnF gi nxi u).1.l.fn, .slice d1 (cnF gi nxi u).1.l.args.length e1, .int .i64 (cnF gi nxi u).1.r.v, .string (cnF gi nxi u).1.r.fn, .slice d2 (cnF gi nxi u).1.r.args.length e2, .slice d3 (cnF gi nxi u).1.kids.length e3] rfl rfl (news_of W3 _ 27) HONE.out (by unfold maxLen; omega) (by omega) (by have := HO3.out; simp; omega) ?_
            intro v' w6 hrow6 hg6 hb6
            obtain ⟨va6, vc6, rfl⟩ := row_slice hrow6
            obtain ⟨hab7, hon7, hc6, hf6⟩ := HPUSH.out _ w6 hrow6 hg6 hb6
            have s6 := HS6.out _ w6 hg6
            refine hKq.out _ _ s6 (fun hHeld => ?_)
            clear hKq Kq
            try simp only [Act.put, List.getElem_toArray, List.getElem_cons_succ, List.getElem_cons_zero, List.setIfInBounds_toArray, List.set_cons_zero, List.set_cons_succ]
            refine Lx.take_mk 7 (.pointer (some ⟨O, 8, none⟩)) rfl (by kernel_rfl) (by kernel_rfl) (by kernel_rfl) (fun _ _ _ h => by cases h.1) (Or.inl ⟨by rfl, ?_⟩) (by first | assumption | trivial) ?_
            · intro w hSw; (try dsimp only at hSw); go_simp
            try simp only [Act.put, List.setIfInBounds_toArray, List.set_cons_zero, List.set_cons_succ]
            refine wpAnyH_ready (rs := [8]) (by kernel_rfl) (by simp) ?_
            refine AllReadyH.cons rfl (fun Kq hKq => ?_) AllReadyH.nil
            go_simp
            have s7 : (w6.setCell ⟨O, 8, none⟩ (.slice va6 (i + 1) vc6)).heap[P2]? = some (.cells #[.pointer (some ⟨rb, 0, none⟩)] 112 (0, 0)) ∧ (w6.setCell ⟨O, 8, none⟩ (.slice va6 (i + 1) vc6)).heap[G]? = some (fbox u (.slice a1 u.l.args.length c1) (.slice a2 u.r.args.length c2) (.slice a3 u.kids.length c3)) := ⟨(Below.heap_setCell _ _ _ P2 HGO.out.2).trans s6.1, (Below.heap_setCell _ _ _ G HGO.out.1).trans s6.2⟩
            refine hKq.out _ _ s7 (fun hHeld => ?_)
            clear hKq Kq
            try simp only [Act.put, List.getElem_toArray, List.getElem_cons_succ, List.getElem_cons_zero, List.setIfInBounds_toArray, List.set_cons_zero, List.set_cons_succ]
            refine wpAnyH_done (by kernel_rfl) ?_ _
            have HI7 := HFIN.out _ _ hg6 hb6 hab7
            obtain ⟨W7, hW7⟩ : ∃ X, w6.setCell ⟨O, 8, none⟩ (.slice va6 (i + 1) vc6) = X := ⟨_, rfl⟩
            rw [hW7] at HI7
            rw [hW7]
            have HM7 := hidR HI7
            clear hab7 hon7 HPUSH hW7 s6 s7 HI7 HFIN
            refine ⟨rfl, ?_⟩
            go_wp2
            go_roundw
            case rel => exact ⟨i + 1, by go_num, by omega, HM7.out⟩
            case measure => simp [intOf]; omega
          · go_simp
            refine hc.mono ?_
            rintro e W3 ⟨sl2, sr2, sk2, g', rfl, hfm2, hrn2, hgs2, ho2⟩
            obtain ⟨d1, e1, rfl, _, _⟩ := hfm2.l.slice'
            obtain ⟨d2, e2, rfl, _, _⟩ := hfm2.r.slice'
            obtain ⟨d3, e3, rfl, _, _⟩ := hfm2.k.slice
            have hkb3 := HZ.out.1.step ho2
            obtain ⟨-, -, -, -, -, -, -, -, o3⟩ := hkb3.cells
            have o3a : ∀ ob : Obj, (W3.alloc ob).cell? ⟨O, 8, none⟩ = some (.slice va i vc) := fun ob => YthkinkcpfcpehaaGreatDoor.kc (below_box W3 ob) hkb3.lt o3
            have HROW : Hid (W3.ownsRow (O + 1) 27 9 (.slice va i vc) i (flP zs)) := by have := hkb3.row; rwa [HZL.out] at this
            have HO3 : Hid (O < W3.heap.size) := hkb3.lt
            have HONE : Hid (∀ u' ∈ ([.int .i64 (cnF gi nxi u).1.k, .string (cnF gi nxi u).1.nm, .int .i64 (cnF gi nxi u).1.l.v, .string (cnF gi nxi u).1.l.fn, .slice d1 (cnF gi nxi u).1.l.args.length e1, .int .i64 (cnF gi nxi u).1.r.v, .string (cnF gi nxi u).1.r.fn, .slice d2 (cnF gi nxi u).1.r.args.length e2, .slice d3 (cnF gi nxi u).1.kids.length e3] : List Value), u'.oneCell' = true) := hfm2.one
            have hP3 := (HST.out W3 hkb3.on).1
            have hPl := (Array.getElem?_eq_some_iff.1 hP3).1
            have s3 : W3.heap[P2]? = some (.cells #[.pointer (some ⟨rb, 0, none⟩)] 112 (0, 0)) ∧ W3.heap[G]? = some (fbox u (.slice a1 u.l.args.length c1) (.slice a2 u.r.args.length c2) (.slice a3 u.kids.length c3)) := ⟨hP3, (ho2.block G HG1.out.2 (by have := HGR.out; simp; omega)).trans HG1.out.1⟩
            have hGl3 : G < W3.heap.size := Nat.lt_of_lt_of_le HG1.out.2 ho2.size
            have s3a : ∀ ob : Obj, (W3.alloc ob).heap[P2]? = some (.cells #[.pointer (some ⟨rb, 0, none⟩)] 112 (0, 0)) ∧ (W3.alloc ob).heap[G]? = some (fbox u (.slice a1 u.l.args.length c1) (.slice a2 u.r.args.length c2) (.slice a3 u.kids.length c3)) := fun ob => ⟨((below_box W3 ob).block P2 hPl).trans s3.1, ((below_box W3 ob).block G hGl3).trans s3.2⟩
            have HS6 : Hid (∀ (x : Obj) (w6 : World), (W3.alloc x).grownBy w6 (Value.slice va i vc).ownBlock → w6.heap[P2]? = some (.cells #[.pointer (some ⟨rb, 0, none⟩)] 112 (0, 0)) ∧ w6.heap[G]? = some (fbox u (.slice a1 u.l.args.length c1) (.slice a2 u.r.args.length c2) (.slice a3 u.kids.length c3))) := fun x w6 hgr => ⟨(hgr.block P2 (Nat.lt_of_lt_of_le hPl (below_box W3 x).size) (fun e => by have := (row_block hkb3.row e.symm).1; have := HGR.out; omega)).trans (s3a x).1, (hgr.block G (Nat.lt_of_lt_of_le hGl3 (below_box W3 x).size) (fun e => by have := HZ.out.2.2.2 G e.symm; omega)).trans (s3a x).2⟩
            have HPUSH : Hid (∀ (v' : Value) (w6 : World), w6.ownsRow (O + 1) 27 9 v' (i + 1) (flP zs ++ [.int .i64 (cnF gi nxi u).1.k, .string (cnF gi nxi u).1.nm, .int .i64 (cnF gi nxi u).1.l.v, .string (cnF gi nxi u).1.l.fn, .slice d1 (cnF gi nxi u).1.l.args.length e1, .int .i64 (cnF gi nxi u).1.r.v, .string (cnF gi nxi u).1.r.fn, .slice d2 (cnF gi nxi u).1.r.args.length e2, .slice d3 (cnF gi nxi u).1.kids.length e3]) → (W3.alloc (.cells #[.int .i64 (cnF gi nxi u).1.k, .string (cnF gi nxi u).1.nm, .int .i64 (cnF gi nxi u).1.l.v, .string (cnF gi nxi u).1.l.fn, .slice d1 (cnF gi nxi u).1.l.args.length e1, .int .i64 (cnF gi nxi u).1.r.v, .string (cnF gi nxi u).1.r.fn, .slice d2 (cnF gi nxi u).1.r.args.length e2, .slice d3 (cnF gi nxi u).1.kids.length e3] 27)).grownBy w6 (Value.slice va i vc).ownBlock → (v'.ownBlock = (Value.slice va i vc).ownBlock ∨ v'.ownBlock = some (W3.alloc (.cells #[.int .i64 (cnF gi nxi u).1.k, .string (cnF gi nxi u).1.nm, .int .i64 (cnF gi nxi u).1.l.v, .string (cnF gi nxi u).1.l.fn, .slice d1 (cnF gi nxi u).1.l.args.length e1, .int .i64 (cnF gi nxi u).1.r.v, .string (cnF gi nxi u).1.r.fn, .slice d2 (cnF gi nxi u).1.r.args.length e2, .slice d3 (cnF gi nxi u).1.kids.length e3] 27)).heap.size) →
              KBx w1 rb M (P2 + 2) O f.k e0 (rnT g f.l) (rnT g f.r) sl' sr' (zs ++ [⟨0, (cnF gi nxi u).1, .slice d1 (cnF gi nxi u).1.l.args.length e1, .slice d2 (cnF gi nxi u).1.r.args.length e2, .slice d3 (cnF gi nxi u).1.kids.length e3⟩]) v' (w6.setCell ⟨O, 8, none⟩ v') ∧ Only (O :: (Value.slice va i vc).ownBlock.toList) W3 (w6.setCell ⟨O, 8, none⟩ v') ∧ w6.cell? ⟨O, 8, none⟩ = some (.slice va i vc) ∧ w6.frozen? ⟨O, 8, none⟩ = false) :=
              fun v' w6 q1 q2 q3 => hkb3.push (x := ⟨0, (cnF gi nxi u).1, .slice d1 (cnF gi nxi u).1.l.args.length e1, .slice d2 (cnF gi nxi u).1.r.args.length e2, .slice d3 (cnF gi nxi u).1.kids.length e3⟩) HZ.out.2.1 HZ.out.2.2.1 hfm2 (by rw [HZL.out]; exact q1) (below_box W3 _) q2 q3
            have HFIN : Hid (∀ (v' : Value) (w6 : World), (W3.alloc (.cells #[.int .i64 (cnF gi nxi u).1.k, .string (cnF gi nxi u).1.nm, .int .i64 (cnF gi nxi u).1.l.v, .string (cnF gi nxi u).1.l.fn, .slice d1 (cnF gi nxi u).1.l.args.length e1, .int .i64 (cnF gi nxi u).1.r.v, .string (cnF gi nxi u).1.r.fn, .slice d2 (cnF gi nxi u).1.r.args.length e2, .slice d3 (cnF gi nxi u).1.kids.length e3] 27)).grownBy w6 (Value.slice va i vc).ownBlock → (v'.ownBlock = (Value.slice va i vc).ownBlock ∨ v'.ownBlock = some (W3.alloc (.cells #[.int .i64 (cnF gi nxi u).1.k, .string (cnF gi nxi u).1.nm, .int .i64 (cnF gi nxi u).1.l.v, .string (cnF gi nxi u).1.l.fn, .slice d1 (cnF gi nxi u).1.l.args.length e1, .int .i64 (cnF gi nxi u).1.r.v, .string (cnF gi nxi u).1.r.fn, .slice d2 (cnF gi nxi u).1.r.args.length e2, .slice d3 (cnF gi nxi u).1.kids.length e3] 27)).heap.size) → KBx w1 rb M (P2 + 2) O f.k e0 (rnT g f.l) (rnT g f.r) sl' sr' (zs ++ [⟨0, (cnF gi nxi u).1, .slice d1 (cnF gi nxi u).1.l.args.length e1, .slice d2 (cnF gi nxi u).1.r.args.length e2, .slice d3 (cnF gi nxi u).1.kids.length e3⟩]) v' (w6.setCell ⟨O, 8, none⟩ v') →
              ∃ (zs : List Pc) (v : Value) (gi : ByteArray → Option Int) (nxi ci : Nat), zs.map Pc.f ++ (cnF.cnFs g nxi (f.kids.drop (i + 1))).1 = (cnF.cnFs g nx f.kids).1 ∧ (cnF.cnFs g nxi (f.kids.drop (i + 1))).2 = (cnF.cnFs g nx f.kids).2 ∧ zs.length = i + 1 ∧ KBx w1 rb M (P2 + 2) O f.k e0 (rnT g f.l) (rnT g f.r) sl' sr' zs v (w6.setCell ⟨O, 8, none⟩ v') ∧ RN (w6.setCell ⟨O, 8, none⟩ v') rb M (nxi : Nat) gi ci ∧ (∀ s, (gi s).getD 0 = (g s).getD 0) ∧ (nxi : Int) + Fm.size.sizes (f.kids.drop (i + 1)) ≤ K ∧ (ci : Int) + 2 * Fm.size.sizes (f.kids.drop (i + 1)) ≤ cnt + 2 * Fm.size.sizes f.kids) := fun v' w6 hgr hb hk7 => by
              obtain ⟨x0, hx0⟩ : ∃ x : Obj, Obj.cells #[.int .i64 (cnF gi nxi u).1.k, .string (cnF gi nxi u).1.nm, .int .i64 (cnF gi nxi u).1.l.v, .string (cnF gi nxi u).1.l.fn, .slice d1 (cnF gi nxi u).1.l.args.length e1, .int .i64 (cnF gi nxi u).1.r.v, .string (cnF gi nxi u).1.r.fn, .slice d2 (cnF gi nxi u).1.r.args.length e2, .slice d3 (cnF gi nxi u).1.kids.length e3] 27 = x := ⟨_, rfl⟩
              rw [hx0] at hgr hb
              have hle := cnF_le u gi nxi
              have hbs := HBS.out
              have hrb3 := (Array.getElem?_eq_some_iff.1 hrn2.box).1
              have hMl3 := hrn2.nm.lt
              have hkM := hkb3.rM
              have hkRO := hkb3.RO
              have sm : ∀ j, j < W3.heap.size → j < O → (w6.setCell ⟨O, 8, none⟩ v').heap[j]? = W3.heap[j]? := fun j hj hjO => (Below.heap_setCell _ _ _ j (by show j ≠ O; omega)).trans ((hgr.block j (Nat.lt_of_lt_of_le hj (below_box W3 x0).size) (fun e => by have := (row_block hkb3.row e.symm).1; omega)).trans ((below_box W3 x0).block j hj))
              refine ⟨_, _, g', (cnF gi nxi u).2, ci + 2 * u.size.toNat, ?_, ?_, by rw [List.length_append, HZL.out]; rfl, hk7, ⟨(sm rb hrb3 (by omega)).trans hrn2.box, hrn2.nm.same (sm M hMl3 (by omega))⟩, fun s => by rw [hgs2, HGI.out], by omega, by push_cast; omega⟩
              · rw [← HC1.out.1, List.map_append, List.append_assoc, cnF_congr u gi g nxi HGI.out]; rfl
              · rw [← HC1.out.2, cnF_congr u gi g nxi HGI.out]
            clear hkb3 hfm2 hrn2 hgs2 ho2 hP3 hPl hGl3
            refine hKq.out _ _ s3 (fun hHeld => ?_)
            clear hKq Kq
            try simp only [Act.put, List.getElem_toArray, List.getElem_cons_succ, List.getElem_cons_zero, List.setIfInBounds_toArray, List.set_cons_zero, List.set_cons_succ]
            refine wpAnyH_ready (rs := [1, 5]) (by kernel_rfl) (by simp) ?_
            refine AllReadyH.cons rfl (fun Kq hKq => ?_) (AllReadyH.cons rfl (fun Kq hKq => ?_) AllReadyH.nil)
            · go_simp
              refine hKq.out _ _ s3 (fun hHeld => ?_)
              clear hKq Kq
              try simp only [Act.put, List.getElem_toArray, List.getElem_cons_succ, List.getElem_cons_zero, List.setIfInBounds_toArray, List.set_cons_zero, List.set_cons_succ]
              refine wpAnyH_ready (rs := [5]) (by kernel_rfl) (by simp) ?_
              refine AllReadyH.cons rfl (fun Kq hKq => ?_) AllReadyH.nil
              go_simp
              refine hKq.out _ _ (s3a _) (fun hHeld => ?_)
              clear hKq Kq
              try simp only [Act.put, List.getElem_toArray, List.getElem_cons_succ, List.getElem_cons_zero, List.setIfInBounds_toArray, List.set_cons_zero, List.set_cons_succ]
              refine wpAnyH_ready (rs := [6]) (by kernel_rfl) (by simp) ?_
              refine AllReadyH.cons rfl (fun Kq hKq => ?_) AllReadyH.nil
              refine step_append_own _ rfl (.tmp 61) (.tmp 65) 25 rfl (O + 1) 27 i0 _ 9 144 Tryz.underlying25 hi0 hz0 hz1 hz2 rfl (by decide) (.slice va i vc) i (flP zs) rfl (Lx.row_below HROW.out (below_box W3 _)) ⟨W3.heap.size, 0, none⟩ 1 1 [.int .i64 (cnF gi nxi u).1.k, .string (cnF gi nxi u).1.nm, .int .i64 (cnF gi nxi u).1.l.v, .string (cnF gi nxi u).1.l.fn, .slice d1 (cnF gi nxi u).1.l.args.length e1, .int .i64 (cnF gi nxi u).1.r.v, .string (cnF gi nxi u).1.r.fn, .slice d2 (cnF gi nxi u).1.r.args.length e2, .slice d3 (cnF gi nxi u).1.kids.length e3] rfl rfl (news_of W3 _ 27) HONE.out (by unfold maxLen; omega) (by omega) (by have := HO3.out; simp; omega) ?_
              intro v' w6 hrow6 hg6 hb6
              obtain ⟨va6, vc6, rfl⟩ := row_slice hrow6
              obtain ⟨hab7, hon7, hc6, hf6⟩ := HPUSH.out _ w6 hrow6 hg6 hb6
              have s6 := HS6.out _ w6 hg6
              refine hKq.out _ _ s6 (fun hHeld => ?_)
              clear hKq Kq
              try simp only [Act.put, List.getElem_toArray, List.getElem_cons_succ, List.getElem_cons_zero, List.setIfInBounds_toArray, List.set_cons_zero, List.set_cons_succ]
              refine Lx.take_mk 7 (.pointer (some ⟨O, 8, none⟩)) rfl (by kernel_rfl) (by kernel_rfl) (by kernel_rfl) (fun _ _ _ h => by cases h.1) (Or.inl ⟨by rfl, ?_⟩) (by first | assumption | trivial) ?_
              · intro w hSw; (try dsimp only at hSw); go_simp
              try simp only [Act.put, List.setIfInBounds_toArray, List.set_cons_zero, List.set_cons_succ]
              refine wpAnyH_ready (rs := [8]) (by kernel_rfl) (by simp) ?_
              refine AllReadyH.cons rfl (fun Kq hKq => ?_) AllReadyH.nil
              go_simp
              have s7 : (w6.setCell ⟨O, 8, none⟩ (.slice va6 (i + 1) vc6)).heap[P2]? = some (.cells #[.pointer (some ⟨rb, 0, none⟩)] 112 (0, 0)) ∧ (w6.setCell ⟨O, 8, none⟩ (.slice va6 (i + 1) vc6)).heap[G]? = some (fbox u (.slice a1 u.l.args.length c1) (.slice a2 u.r.args.length c2) (.slice a3 u.kids.length c3)) := ⟨(Below.heap_setCell _ _ _ P2 HGO.out.2).trans s6.1, (Below.heap_setCell _ _ _ G HGO.out.1).trans s6.2⟩
              refine hKq.out _ _ s7 (fun hHeld => ?_)
              clear hKq Kq
              try simp only [Act.put, List.getElem_toArray, List.getElem_cons_succ, List.getElem_cons_zero, List.setIfInBounds_toArray, List.set_cons_zero, List.set_cons_succ]
              refine wpAnyH_done (by kernel_rfl) ?_ _
              have HI7 := HFIN.out _ _ hg6 hb6 hab7
              obtain ⟨W7, hW7⟩ : ∃ X, w6.setCell ⟨O, 8, none⟩ (.slice va6 (i + 1) vc6) = X := ⟨_, rfl⟩
              rw [hW7] at HI7
              rw [hW7]
              have HM7 := hidR HI7
              clear hab7 hon7 HPUSH hW7 s6 s7 HI7 HFIN
              refine ⟨rfl, ?_⟩
              go_wp2
              go_roundw
              case rel => exact ⟨i + 1, by go_num, by omega, HM7.out⟩
              case measure => simp [intOf]; omega
            · go_simp
              refine hKq.out _ _ (s3a _) (fun hHeld => ?_)
              clear hKq Kq
              try simp only [Act.put, List.getElem_toArray, List.getElem_cons_succ, List.getElem_cons_zero, List.setIfInBounds_toArray, List.set_cons_zero, List.set_cons_succ]
              refine wpAnyH_ready (rs := [1]) (by kernel_rfl) (by simp) ?_
              refine AllReadyH.cons rfl (fun Kq hKq => ?_) AllReadyH.nil
              go_simp
              refine hKq.out _ _ (s3a _) (fun hHeld => ?_)
              clear hKq Kq
              try simp only [Act.put, List.getElem_toArray, List.getElem_cons_succ, List.getElem_cons_zero, List.setIfInBounds_toArray, List.set_cons_zero, List.set_cons_succ]
              refine wpAnyH_ready (rs := [6]) (by kernel_rfl) (by simp) ?_
              refine AllReadyH.cons rfl (fun Kq hKq => ?_) AllReadyH.nil
              refine step_append_own _ rfl (.tmp 61) (.tmp 65) 25 rfl (O + 1) 27 i0 _ 9 144 Tryz.underlying25 hi0 hz0 hz1 hz2 rfl (by decide) (.slice va i vc) i (flP zs) rfl (Lx.row_below HROW.out (below_box W3 _)) ⟨W3.heap.size, 0, none⟩ 1 1 [.int .i64 (cnF gi nxi u).1.k, .string (cnF gi nxi u).1.nm, .int .i64 (cnF gi nxi u).1.l.v, .string (cnF gi nxi u).1.l.fn, .slice d1 (cnF gi nxi u).1.l.args.length e1, .int .i64 (cnF gi nxi u).1.r.v, .string (cnF gi nxi u).1.r.fn, .slice d2 (cnF gi nxi u).1.r.args.length e2, .slice d3 (cnF gi nxi u).1.kids.length e3] rfl rfl (news_of W3 _ 27) HONE.out (by unfold maxLen; omega) (by omega) (by have := HO3.out; simp; omega) ?_
              intro v' w6 hrow6 hg6 hb6
              obtain ⟨va6, vc6, rfl⟩ := row_slice hrow6
              obtain ⟨hab7, hon7, hc6, hf6⟩ := HPUSH.out _ w6 hrow6 hg6 hb6
              have s6 := HS6.out _ w6 hg6
              refine hKq.out _ _ s6 (fun hHeld => ?_)
              clear hKq Kq
              try simp only [Act.put, List.getElem_toArray, List.getElem_cons_succ, List.getElem_cons_zero, List.setIfInBounds_toArray, List.set_cons_zero, List.set_cons_succ]
              refine Lx.take_mk 7 (.pointer (some ⟨O, 8, none⟩)) rfl (by kernel_rfl) (by kernel_rfl) (by kernel_rfl) (fun _ _ _ h => by cases h.1) (Or.inl ⟨by rfl, ?_⟩) (by first | assumption | trivial) ?_
              · intro w hSw; (try dsimp only at hSw); go_simp
              try simp only [Act.put, List.setIfInBounds_toArray, List.set_cons_zero, List.set_cons_succ]
              refine wpAnyH_ready (rs := [8]) (by kernel_rfl) (by simp) ?_
              refine AllReadyH.cons rfl (fun Kq hKq => ?_) AllReadyH.nil
              go_simp
              have s7 : (w6.setCell ⟨O, 8, none⟩ (.slice va6 (i + 1) vc6)).heap[P2]? = some (.cells #[.pointer (some ⟨rb, 0, none⟩)] 112 (0, 0)) ∧ (w6.setCell ⟨O, 8, none⟩ (.slice va6 (i + 1) vc6)).heap[G]? = some (fbox u (.slice a1 u.l.args.length c1) (.slice a2 u.r.args.length c2) (.slice a3 u.kids.length c3)) := ⟨(Below.heap_setCell _ _ _ P2 HGO.out.2).trans s6.1, (Below.heap_setCell _ _ _ G HGO.out.1).trans s6.2⟩
              refine hKq.out _ _ s7 (fun hHeld => ?_)
              clear hKq Kq
              try simp only [Act.put, List.getElem_toArray, List.getElem_cons_succ, List.getElem_cons_zero, List.setIfInBounds_toArray, List.set_cons_zero, List.set_cons_succ]
              refine wpAnyH_done (by kernel_rfl) ?_ _
              have HI7 := HFIN.out _ _ hg6 hb6 hab7
              obtain ⟨W7, hW7⟩ : ∃ X, w6.setCell ⟨O, 8, none⟩ (.slice va6 (i + 1) vc6) = X := ⟨_, rfl⟩
              rw [hW7] at HI7
              rw [hW7]
              have HM7 := hidR HI7
              clear hab7 hon7 HPUSH hW7 s6 s7 HI7 HFIN
              refine ⟨rfl, ?_⟩
              go_wp2
              go_roundw
              case rel => exact ⟨i + 1, by go_num, by omega, HM7.out⟩
              case measure => simp [intOf]; omega
        · have hin : i = n := by omega
          subst hin
          rw [← HN.out, List.drop_length, cnF.cnFs] at hc1 hc2
          simp only [List.append_nil] at hc1
          have hfe : (cnF g nx f) = (.mk f.k e0 (rnT g f.l) (rnT g f.r) (zs.map Pc.f), nxi) := by
            rw [cnF_eq]
            simp only [HQ.out]
            rw [hc1]
            simp only [Bool.false_eq_true, if_false]
            exact congrArg _ hc2.symm
          obtain ⟨V, hrun, hV, hVf, hoV⟩ := hkb.fin
          obtain ⟨⟨m0, m1, m2, m3, m4, m5, m6, m7, m8⟩, -⟩ := f_cells (f := .mk f.k e0 (rnT g f.l) (rnT g f.r) (zs.map Pc.f)) hV
          obtain ⟨o0, o1, o2, o3, o4, o5, o6, o7, o8⟩ := hkb.cells
          obtain ⟨sa1, sc1, rfl⟩ := hkb.al.slice
          obtain ⟨sa2, sc2, rfl⟩ := hkb.ar.slice
          have hrnV : RN V rb M (nxi : Nat) gi ci := ⟨(hoV.block rb (Array.getElem?_eq_some_iff.1 hrn.box).1 (by have := hkb.rM; simp; omega)).trans hrn.box, hrn.nm.same (hoV.block M hrn.nm.lt (by have := hkb.rM; simp; omega))⟩
          have hoW : Only [rb, M] w1 V := hkb.on.trans hoV (fun x hx => .inr (by have := HS2.out; simp at hx; omega))
          obtain ⟨zPV, zFV, -, -, hwV⟩ := HST.out V hoW
          have hcb := HBU.out.2.2
          have hszp := HSZ.out
          rw [← HN.out, List.drop_length, Fm.size.sizes] at hbu2
          have HF : Hid (RFP rb M g (cnF g nx f).2 (cnt + 2 * f.size.toNat) w (cnF g nx f).1 (.returned (fval (.mk f.k e0 (rnT g f.l) (rnT g f.r) (zs.map Pc.f)) (.slice sa1 (rnT g f.l).args.length sc1) (.slice sa2 (rnT g f.r).args.length sc2) (.slice va i vc))) V) := by
            rw [hfe]
            exact ⟨_, _, _, gi, rfl, hVf.keep (Nat.le_refl _) (fun j hj _ => ⟨by rw [HP2.out]; omega, rfl⟩), ⟨hrnV.box, hrnV.nm.more (by omega)⟩, hgi, hwV⟩
          have HC := hidR (And.intro m0 (And.intro m1 (And.intro m2 (And.intro m3 (And.intro m4 (And.intro m5 (And.intro m6 (And.intro m7 m8))))))))
          clear hc1 hc2 hzl hkb hrn hgi hbu1 hbu2 hfe hV hVf hoV hrnV hoW zPV zFV hwV hcb hszp HI m0 m1 m2 m3 m4 m5 m6 m7 m8
          go_wp2_with (first | (refine wpList_store_run rfl 27 _ _ rfl (.pointer (some ⟨P2 + 1 + 1, 0, none⟩)) (fval (.mk f.k e0 (rnT g f.l) (rnT g f.r) (zs.map Pc.f)) (.slice sa1 (rnT g f.l).args.length sc1) (.slice sa2 (rnT g f.r).args.length sc2) (.slice va i vc)) rfl (by kernel_rfl) hrun ?_))
          obtain ⟨c0, c1, c2, c3, c4, c5, c6, c7, c8⟩ := HC.out
          refine ⟨_, ?_, HF.out⟩
          simp [results, Tryz.results38, go_sem, c0, c1, c2, c3, c4, c5, c6, c7, c8]
    | true =>
      obtain ⟨I, hI⟩ : ∃ I, W3.heap.size = I := ⟨_, rfl⟩
      have hbA : Below W3.heap.size W3 (W3.drew.alloc (.cells #[.int .i64 0] 3)) := (Below.refl _ _).drew.trans (below_box W3.drew _)
      have hzA : (W3.drew.alloc (.cells #[.int .i64 0] 3)).heap[I]? = some (.cells #[.int .i64 0] 3 (0, 0)) := by rw [← hI]; exact (MapKept.heap_alloc W3.drew (.cells #[.int .i64 0] 3)).1
      have hOl := hkb3.lt
      have hkRO := hkb3.RO
      have hrl := HRL.out
      have hSA : ∀ X, Below W3.heap.size W3 X → X.heap[P2]? = some (.cells #[.pointer (some ⟨rb, 0, none⟩)] 112 (0, 0)) ∧ X.heap[P2 + 1]? = some (fbox f (.slice la f.l.args.length lc) (.slice ra f.r.args.length rc) (.slice ka n kc)) ∧ RN X rb M (nx : Nat) g cnt := fun X hX => by
        obtain ⟨q1, q2, -⟩ := HST.out X (hkb3.on.trans (Only.of_below (B := [rb, M]) hX) (fun r hr => .inl hr))
        exact ⟨q1, q2, hrn3.keep hX⟩
      obtain ⟨ZA, hZA⟩ : ∃ X : World, W3.drew.alloc (.cells #[.int .i64 0] 3) = X := ⟨_, rfl⟩
      rw [hZA] at hbA hzA
      have za0 : ZA.cell? ⟨I, 0, none⟩ = some (.int .i64 0) := cell_store (vs := [_]) hzA rfl
      have zaf : ZA.frozen? ⟨I, 0, none⟩ = false := frozen_cells hzA
      have hbB : Below W3.heap.size W3 (ZA.setCell ⟨I, 0, none⟩ (.int .i64 ((g f.nm).getD 0))) := by
        refine ⟨hbA.os, hbA.tape, hbA.output, by simpa using hbA.size, fun j hj => (Below.heap_setCell _ _ _ j (by show j ≠ I; omega)).trans (hbA.block j hj)⟩
      have hzB := heap_setCell_same ZA I 0 _ 3 (.int .i64 ((g f.nm).getD 0)) hzA
      have hSZA := hSA ZA hbA
      have hSZB := hSA _ hbB
      go_upto_region 3 with fail
      refine wp_calm ?_
      refine wp_region_held_drew (S := fun X => X.heap[P2]? = some (.cells #[.pointer (some ⟨rb, 0, none⟩)] 112 (0, 0)) ∧ X.heap[P2 + 1]? = some (fbox f (.slice la f.l.args.length lc) (.slice ra f.r.args.length rc) (.slice ka n kc)) ∧ RN X rb M (nx : Nat) g cnt) (by kernel_rfl) (hSA W3.drew (Below.refl _ _).drew) (fun hHeld => ?_)
      refine Lx.take_mk 0 (.pointer (some ⟨rb, 0, none⟩)) rfl (by kernel_rfl) (by kernel_rfl) (by kernel_rfl) (fun _ _ _ h => by cases h.1) (Or.inl ⟨by rfl, ?_⟩) (by first | assumption | trivial) ?_
      · intro w hSw; obtain ⟨q0, q1, q2⟩ := hSw; have p0 := cell_store (vs := [_]) (i := 0) q0 rfl; have p1 := (f_cells q1).1.2.1; have p2 := cell_store (vs := [_, _]) (i := 1) q2.box rfl; have p3 := q2.nm.look hfs; (try dsimp only at hSw); go_simp
      try simp only [Act.put, List.setIfInBounds_toArray, List.set_cons_zero, List.set_cons_succ]
      refine Lx.take_mk 1 (.pointer (some ⟨rb, 0, none⟩)) rfl (by kernel_rfl) (by kernel_rfl) (by kernel_rfl) (fun _ _ _ h => by cases h.1) (Or.inl ⟨by rfl, ?_⟩) (by first | assumption | trivial) ?_
      · intro w hSw; (try dsimp only at hSw); go_simp
      try simp only [Act.put, List.setIfInBounds_toArray, List.set_cons_zero, List.set_cons_succ]
      refine Lx.take_mk 2 (.pointer (some ⟨rb, 1, none⟩)) rfl (by kernel_rfl) (by kernel_rfl) (by kernel_rfl) (fun _ _ _ h => by cases h.1) (Or.inl ⟨by rfl, ?_⟩) (by first | assumption | trivial) ?_
      · intro w hSw; (try dsimp only at hSw); go_simp
      try simp only [Act.put, List.setIfInBounds_toArray, List.set_cons_zero, List.set_cons_succ]
      refine Lx.take_mk 3 (.map (some M)) rfl (by kernel_rfl) (by kernel_rfl) (by kernel_rfl) (fun _ _ _ h => by cases h.1) (Or.inl ⟨by rfl, ?_⟩) (by first | assumption | trivial) ?_
      · intro w hSw; obtain ⟨q0, q1, q2⟩ := hSw; have p0 := cell_store (vs := [_]) (i := 0) q0 rfl; have p1 := (f_cells q1).1.2.1; have p2 := cell_store (vs := [_, _]) (i := 1) q2.box rfl; have p3 := q2.nm.look hfs; (try dsimp only at hSw); go_simp
      try simp only [Act.put, List.setIfInBounds_toArray, List.set_cons_zero, List.set_cons_succ]
      refine Lx.take_mk 4 (.pointer (some ⟨P2 + 1, 1, none⟩)) rfl (by kernel_rfl) (by kernel_rfl) (by kernel_rfl) (fun _ _ _ h => by cases h.1) (Or.inl ⟨by rfl, ?_⟩) (by first | assumption | trivial) ?_
      · intro w hSw; (try dsimp only at hSw); go_simp
      try simp only [Act.put, List.setIfInBounds_toArray, List.set_cons_zero, List.set_cons_succ]
      refine Lx.take_mk 5 (.string f.nm) rfl (by kernel_rfl) (by kernel_rfl) (by kernel_rfl) (fun _ _ _ h => by cases h.1) (Or.inl ⟨by rfl, ?_⟩) (by first | assumption | trivial) ?_
      · intro w hSw; obtain ⟨q0, q1, q2⟩ := hSw; have p0 := cell_store (vs := [_]) (i := 0) q0 rfl; have p1 := (f_cells q1).1.2.1; have p2 := cell_store (vs := [_, _]) (i := 1) q2.box rfl; have p3 := q2.nm.look hfs; (try dsimp only at hSw); go_simp
      try simp only [Act.put, List.setIfInBounds_toArray, List.set_cons_zero, List.set_cons_succ]
      refine Lx.take_mk 6 (.int .i64 ((g f.nm).getD 0)) rfl (by kernel_rfl) (by kernel_rfl) (by kernel_rfl) (fun _ _ _ h => by cases h.1) (Or.inl ⟨by rfl, ?_⟩) (by first | assumption | trivial) ?_
      · intro w hSw; obtain ⟨q0, q1, q2⟩ := hSw; have p0 := cell_store (vs := [_]) (i := 0) q0 rfl; have p1 := (f_cells q1).1.2.1; have p2 := cell_store (vs := [_, _]) (i := 1) q2.box rfl; have p3 := q2.nm.look hfs; (try dsimp only at hSw); go_simp
      try simp only [Act.put, List.setIfInBounds_toArray, List.set_cons_zero, List.set_cons_succ]
      refine wpAnyH_ready (rs := [7]) (by kernel_rfl) (by simp) ?_
      refine AllReadyH.cons rfl (fun Kq hKq => ?_) AllReadyH.nil
      go_simp
      try simp only [hI]
      try rw [show _ = ZA from hZA]
      refine hKq.out _ _ hSZA (fun hHeld => ?_)
      clear hKq Kq
      try simp only [Act.put, List.getElem_toArray, List.getElem_cons_succ, List.getElem_cons_zero, List.setIfInBounds_toArray, List.set_cons_zero, List.set_cons_succ]
      refine wpAnyH_ready (rs := [8]) (by kernel_rfl) (by simp) ?_
      refine AllReadyH.cons rfl (fun Kq hKq => ?_) AllReadyH.nil
      go_simp
      refine hKq.out _ _ hSZB (fun hHeld => ?_)
      clear hKq Kq
      try simp only [Act.put, List.getElem_toArray, List.getElem_cons_succ, List.getElem_cons_zero, List.setIfInBounds_toArray, List.set_cons_zero, List.set_cons_succ]
      refine wpAnyH_done (by kernel_rfl) ?_ _
      refine ⟨rfl, ?_⟩
      obtain ⟨Z2, hZ2⟩ : ∃ X : World, ZA.setCell ⟨I, 0, none⟩ (.int .i64 ((g f.nm).getD 0)) = X := ⟨_, rfl⟩
      rw [hZ2] at hbB hzB hSZB
      rw [hZ2]
      have hkb4 := hkb3.step (Only.of_below (B := [rb, M]) hbB)
      have hIb2 : Z2.heap[I]? = some (.cells #[.int .i64 ((g f.nm).getD 0)] 3 (0, 0)) := by simpa using hzB
      have hrn4 := hSZB.2.2
      have hmb : 16777217 < maxLen := by unfold maxLen; decide
      have hcK := HBU.out.2.2
      have hfp := fm_pos f
      obtain ⟨Z3, hrun, hnm5, ho5⟩ := (hrn4.nm.same (W' := Z2.drew) rfl).put (show cnt < maxLen by omega) hfs (nx : Nat)
      have ho25 : Only [rb, M] Z2 Z3 := (Only.of_below (B := [rb, M]) (Below.refl _ Z2).drew).trans (Only.more ho5) (fun r hr => .inl hr)
      have hkb5 := hkb4.step ho25
      have hIl := (Array.getElem?_eq_some_iff.1 hIb2).1
      have hI3 : Z3.heap[I]? = some (.cells #[.int .i64 ((g f.nm).getD 0)] 3 (0, 0)) := (ho5.block I hIl (by simp; omega)).trans hIb2
      have hrb3 : Z3.heap[rb]? = some (.cells #[.int .i64 (nx : Nat), .map (some M)] 78 (0, 0)) := (ho5.block rb (Array.getElem?_eq_some_iff.1 hrn4.box).1 (by simp; exact hrM)).trans hrn4.box
      obtain ⟨q51, q52, -, q54, -⟩ := HST.out Z3 hkb5.on
      have r40 : Z2.drew.cell? ⟨rb, 0, none⟩ = some (.int .i64 (nx : Nat)) := cell_store (vs := [_, _]) hrn4.box rfl
      have r41 : Z2.drew.cell? ⟨rb, 1, none⟩ = some (.map (some M)) := cell_store (vs := [_, _]) hrn4.box rfl
      have r50 : Z3.cell? ⟨rb, 0, none⟩ = some (.int .i64 (nx : Nat)) := cell_store (vs := [_, _]) hrb3 rfl
      have r51 : Z3.cell? ⟨rb, 1, none⟩ = some (.map (some M)) := cell_store (vs := [_, _]) hrb3 rfl
      have hz2 : Z2.drew.heap[P2]? = some (.cells #[.pointer (some ⟨rb, 0, none⟩)] 112 (0, 0)) ∧ Z2.drew.heap[P2 + 1]? = some (fbox f (.slice la f.l.args.length lc) (.slice ra f.r.args.length rc) (.slice ka n kc)) := ⟨hSZB.1, hSZB.2.1⟩
      go_upto_region 4 with fail
      refine wp_calm ?_
      refine wp_region_held_drew (S := fun X => X.heap[P2]? = some (.cells #[.pointer (some ⟨rb, 0, none⟩)] 112 (0, 0)) ∧ X.heap[P2 + 1]? = some (fbox f (.slice la f.l.args.length lc) (.slice ra f.r.args.length rc) (.slice ka n kc)) ∧ X.cell? ⟨rb, 0, none⟩ = some (.int .i64 (nx : Nat)) ∧ X.cell? ⟨rb, 1, none⟩ = some (.map (some M))) (by kernel_rfl) ⟨hz2.1, hz2.2, r40, r41⟩ (fun hHeld => ?_)
      refine Lx.take_mk 0 (.pointer (some ⟨rb, 0, none⟩)) rfl (by kernel_rfl) (by kernel_rfl) (by kernel_rfl) (fun _ _ _ h => by cases h.1) (Or.inl ⟨by rfl, ?_⟩) (by first | assumption | trivial) ?_
      · intro w hSw; obtain ⟨q0, q1, q2, q3⟩ := hSw; have p0 := cell_store (vs := [_]) (i := 0) q0 rfl; have p1 := (f_cells q1).1.2.1; (try dsimp only at hSw); go_simp
      try simp only [Act.put, List.setIfInBounds_toArray, List.set_cons_zero, List.set_cons_succ]
      refine Lx.take_mk 1 (.pointer (some ⟨rb, 0, none⟩)) rfl (by kernel_rfl) (by kernel_rfl) (by kernel_rfl) (fun _ _ _ h => by cases h.1) (Or.inl ⟨by rfl, ?_⟩) (by first | assumption | trivial) ?_
      · intro w hSw; (try dsimp only at hSw); go_simp
      try simp only [Act.put, List.setIfInBounds_toArray, List.set_cons_zero, List.set_cons_succ]
      refine Lx.take_mk 2 (.pointer (some ⟨rb, 1, none⟩)) rfl (by kernel_rfl) (by kernel_rfl) (by kernel_rfl) (fun _ _ _ h => by cases h.1) (Or.inl ⟨by rfl, ?_⟩) (by first | assumption | trivial) ?_
      · intro w hSw; (try dsimp only at hSw); go_simp
      try simp only [Act.put, List.setIfInBounds_toArray, List.set_cons_zero, List.set_cons_succ]
      refine Lx.take_mk 3 (.map (some M)) rfl (by kernel_rfl) (by kernel_rfl) (by kernel_rfl) (fun _ _ _ h => by cases h.1) (Or.inl ⟨by rfl, ?_⟩) (by first | assumption | trivial) ?_
      · intro w hSw; obtain ⟨q0, q1, q2, q3⟩ := hSw; have p0 := cell_store (vs := [_]) (i := 0) q0 rfl; have p1 := (f_cells q1).1.2.1; (try dsimp only at hSw); go_simp
      try simp only [Act.put, List.setIfInBounds_toArray, List.set_cons_zero, List.set_cons_succ]
      refine Lx.take_mk 4 (.pointer (some ⟨P2 + 1, 1, none⟩)) rfl (by kernel_rfl) (by kernel_rfl) (by kernel_rfl) (fun _ _ _ h => by cases h.1) (Or.inl ⟨by rfl, ?_⟩) (by first | assumption | trivial) ?_
      · intro w hSw; (try dsimp only at hSw); go_simp
      try simp only [Act.put, List.setIfInBounds_toArray, List.set_cons_zero, List.set_cons_succ]
      refine Lx.take_mk 5 (.string f.nm) rfl (by kernel_rfl) (by kernel_rfl) (by kernel_rfl) (fun _ _ _ h => by cases h.1) (Or.inl ⟨by rfl, ?_⟩) (by first | assumption | trivial) ?_
      · intro w hSw; obtain ⟨q0, q1, q2, q3⟩ := hSw; have p0 := cell_store (vs := [_]) (i := 0) q0 rfl; have p1 := (f_cells q1).1.2.1; (try dsimp only at hSw); go_simp
      try simp only [Act.put, List.setIfInBounds_toArray, List.set_cons_zero, List.set_cons_succ]
      refine Lx.take_mk 6 (.pointer (some ⟨rb, 0, none⟩)) rfl (by kernel_rfl) (by kernel_rfl) (by kernel_rfl) (fun _ _ _ h => by cases h.1) (Or.inl ⟨by rfl, ?_⟩) (by first | assumption | trivial) ?_
      · intro w hSw; obtain ⟨q0, q1, q2, q3⟩ := hSw; have p0 := cell_store (vs := [_]) (i := 0) q0 rfl; have p1 := (f_cells q1).1.2.1; (try dsimp only at hSw); go_simp
      try simp only [Act.put, List.setIfInBounds_toArray, List.set_cons_zero, List.set_cons_succ]
      refine Lx.take_mk 7 (.pointer (some ⟨rb, 0, none⟩)) rfl (by kernel_rfl) (by kernel_rfl) (by kernel_rfl) (fun _ _ _ h => by cases h.1) (Or.inl ⟨by rfl, ?_⟩) (by first | assumption | trivial) ?_
      · intro w hSw; (try dsimp only at hSw); go_simp
      try simp only [Act.put, List.setIfInBounds_toArray, List.set_cons_zero, List.set_cons_succ]
      refine Lx.take_mk 8 (.pointer (some ⟨rb, 0, none⟩)) rfl (by kernel_rfl) (by kernel_rfl) (by kernel_rfl) (fun _ _ _ h => by cases h.1) (Or.inl ⟨by rfl, ?_⟩) (by first | assumption | trivial) ?_
      · intro w hSw; (try dsimp only at hSw); go_simp
      try simp only [Act.put, List.setIfInBounds_toArray, List.set_cons_zero, List.set_cons_succ]
      refine Lx.take_mk 9 (.int .i64 (nx : Nat)) rfl (by kernel_rfl) (by kernel_rfl) (by kernel_rfl) (fun _ _ _ h => by cases h.1) (Or.inl ⟨by rfl, ?_⟩) (by first | assumption | trivial) ?_
      · intro w hSw; obtain ⟨q0, q1, q2, q3⟩ := hSw; have p0 := cell_store (vs := [_]) (i := 0) q0 rfl; have p1 := (f_cells q1).1.2.1; (try dsimp only at hSw); go_simp
      try simp only [Act.put, List.setIfInBounds_toArray, List.set_cons_zero, List.set_cons_succ]
      refine wpAnyH_ready (rs := [10]) (by kernel_rfl) (by simp) ?_
      refine AllReadyH.cons rfl (fun Kq hKq => ?_) AllReadyH.nil
      go_simp
      refine hKq.out _ _ ⟨q51, q52, r50, r51⟩ (fun hHeld => ?_)
      clear hKq Kq
      try simp only [Act.put, List.getElem_toArray, List.getElem_cons_succ, List.getElem_cons_zero, List.setIfInBounds_toArray, List.set_cons_zero, List.set_cons_succ]
      refine wpAnyH_done (by kernel_rfl) ?_ _
      refine ⟨rfl, ?_⟩
      have p3 := cell_store (vs := [_]) (i := 0) q51 rfl
      have hnum := q54 nx (by have := HBU.out.2.1; omega) Z3 (Only.of_below (Below.refl _ _))
      clear hbA hzA hSA za0 zaf hbB hzB hSZA hSZB hkb4 hrn4 hrun ho25 hz2 r40 r41 ho5 hIb2 hIl q52
      go_wp2_with fail
      refine hnum.mono ?_
      rintro e Z4 ⟨rfl, hb4⟩
      have hkb6 := hkb5.step (Only.of_below (B := [rb, M]) hb4)
      obtain ⟨hkb7, ho7⟩ := hkb6.named (nmS nx)
      have hO6 := hkb6.out
      have o61 : Z4.cell? ⟨O, 1, none⟩ = some (.string e0) := cell_store (vs := [_, _, _, _, _, _, _, _, _]) hO6 rfl
      have of6 : Z4.frozen? ⟨O, 1, none⟩ = false := frozen_cells hO6
      have hI4 : Z4.heap[I]? = some (.cells #[.int .i64 ((g f.nm).getD 0)] 3 (0, 0)) := (hb4.block I (Array.getElem?_eq_some_iff.1 hI3).1).trans hI3
      have hrb4 : Z4.heap[rb]? = some (.cells #[.int .i64 (nx : Nat), .map (some M)] 78 (0, 0)) := (hb4.block rb (Array.getElem?_eq_some_iff.1 hrb3).1).trans hrb3
      have hnm6 := hnm5.same (hb4.block M hnm5.lt)
      have hPP4 := (HST.out Z4 hkb6.on).1
      clear hnum p3 r50 r51 hkb5 q51 q54 hb4 hnm5 hI3 hrb3
      go_upto_region 6 with fail
      obtain ⟨Z5a, hZ5a⟩ : ∃ X : World, Z4.setCell ⟨O, 1, none⟩ (.string (nmS nx)) = X := ⟨_, rfl⟩
      rw [hZ5a] at hkb7 ho7
      try rw [show _ = Z5a from hZ5a]
      have hI5 : Z5a.heap[I]? = some (.cells #[.int .i64 ((g f.nm).getD 0)] 3 (0, 0)) := (ho7.block I (Array.getElem?_eq_some_iff.1 hI4).1 (by simp; omega)).trans hI4
      have hrb5 : Z5a.heap[rb]? = some (.cells #[.int .i64 (nx : Nat), .map (some M)] 78 (0, 0)) := (ho7.block rb (Array.getElem?_eq_some_iff.1 hrb4).1 (by simp; omega)).trans hrb4
      have hnm7 := hnm6.same (ho7.block M hnm6.lt (by simp; omega))
      have hPP5 := (HST.out Z5a hkb7.on).1
      have p5 := cell_store (vs := [_]) (i := 0) hPP5 rfl
      have r50 : Z5a.cell? ⟨rb, 0, none⟩ = some (.int .i64 (nx : Nat)) := cell_store (vs := [_, _]) hrb5 rfl
      have rf5 : Z5a.frozen? ⟨rb, 0, none⟩ = false := frozen_cells hrb5
      have hwn : wrap64 ((nx : Int) + 1) = (nx : Int) + 1 := by have := HBU.out.2.1; unfold wrap64; omega
      have hrb8 := heap_setCell_same Z5a rb 0 _ 78 (.int .i64 ((nx : Int) + 1)) hrb5
      have ho8 := only_cell (Below.refl _ Z5a) rb 0 (.int .i64 ((nx : Int) + 1))
      obtain ⟨Z5, hZ5⟩ : ∃ X : World, Z5a.setCell ⟨rb, 0, none⟩ (.int .i64 ((nx : Int) + 1)) = X := ⟨_, rfl⟩
      rw [hZ5] at hrb8 ho8
      have hkbT := hkb7.step (ho8.more2)
      have hrnT : RN Z5 rb M ((nx + 1 : Nat) : Int) (fput g f.nm (nx : Nat)) (cnt + 1) := ⟨by simpa using hrb8, hnm7.same (ho8.block M hnm7.lt (by simp; exact fun e => hrM e.symm))⟩
      have HIB : Hid (Z5.heap[I]? = some (.cells #[.int .i64 ((g f.nm).getD 0)] 3 (0, 0))) := (ho8.block I (Array.getElem?_eq_some_iff.1 hI5).1 (by simp; omega)).trans hI5
      have HIR : Hid (P2 + 2 < O ∧ O < I) := ⟨hkRO, by omega⟩
      have HZ5 := hidR hZ5
      clear hkb6 hkb7 ho7 hO6 o61 of6 hI4 hrb4 hnm6 hPP4 hZ5a hI5 hrb5 hnm7 hPP5 hrb8 ho8 hZ5 hOl hkRO hrl hcK hfp
      go_upto_region 8 with fail
      rw [show _ = Z5 from HZ5.out]
      clear HZ5 p5 r50 rf5 hwn
      have HKT := hidR (And.intro hkbT hrnT)
      obtain ⟨-, zFT, -, -, -⟩ := HST.out Z5 hkbT.on
      have nT := (f_cells zFT).1.2.2.2.2.2.2.2.2
      have HKS : Hid (∀ Z, Only [rb, M] w1 Z → KidsP (fun k => k ≠ rb ∧ k ≠ M) Z (.slice ka n kc) f.kids) := fun Z hZ => (HST.out Z hZ).2.2.1.k
      have HCF : Hid (∀ (gi : ByteArray → Option Int) (s : ByteArray), (∀ s, (gi s).getD 0 = ((fput g f.nm (nx : Nat)) s).getD 0) → ∃ k : Nat, k < K ∧ (gi s).getD 0 = (k : Nat)) := fun gi s hgi => by
        rw [hgi]
        rw [fput_getD]
        split
        · exact ⟨nx, by have := HBU.out.2.1; have := fm_pos f; omega, rfl⟩
        · exact HBU.out.1 s
      have hsk := size_kid f
      have hsp := sizes_pos f.kids
      have HSZ : Hid (1 + Fm.size.sizes f.kids ≤ f.size ∧ 0 ≤ Fm.size.sizes f.kids) := ⟨hsk, hsp⟩
      clear hkbT hrnT zFT hsk hsp zP3 zF3 hkb3 hrn3
      go_wp2
      go_loopw [8, 56] (fun v8 vi wr => ∃ i : Nat, vi = .int .i64 i ∧ i ≤ n ∧ Hid (∃ (zs : List Pc) (v : Value) (gi : ByteArray → Option Int) (nxi ci : Nat), zs.map Pc.f ++ (cnF.cnFs (fput g f.nm (nx : Nat)) nxi (f.kids.drop i)).1 = (cnF.cnFs (fput g f.nm (nx : Nat)) (nx + 1) f.kids).1 ∧ (cnF.cnFs (fput g f.nm (nx : Nat)) nxi (f.kids.drop i)).2 = (cnF.cnFs (fput g f.nm (nx : Nat)) (nx + 1) f.kids).2 ∧ zs.length = i ∧ KBx w1 rb M (P2 + 2) O f.k (nmS nx) (rnT g f.l) (rnT g f.r) sl' sr' zs v wr ∧ RN wr rb M (nxi : Nat) gi ci ∧ (∀ s, (gi s).getD 0 = ((fput g f.nm (nx : Nat)) s).getD 0) ∧ (nxi : Int) + Fm.size.sizes (f.kids.drop i) ≤ K ∧ (ci : Int) + 2 * Fm.size.sizes (f.kids.drop i) ≤ cnt + 1 + 2 * Fm.size.sizes f.kids ∧ wr.heap[I]? = some (.cells #[.int .i64 ((g f.nm).getD 0)] 3 (0, 0)) ∧ ∀ gg, v.ownBlock = some gg → I < gg)) (fun v8 vi _ => n - (intOf vi).toNat)
      case atStart =>
        have h1 := HBU.out
        have h2 := HSZ.out
        exact ⟨0, rfl, Nat.zero_le _, [], _, (fput g f.nm (nx : Nat)), (nx + 1), (cnt + 1), by simp, by simp, rfl, HKT.out.1, HKT.out.2, fun _ => rfl, by rw [List.drop_zero]; omega, by rw [List.drop_zero]; push_cast; omega, HIB.out, by simp [Value.ownBlock]⟩
      case round =>
        obtain ⟨i, rfl, hi, HI⟩ := hrel
        obtain ⟨zs, v, gi, nxi, ci, hc1, hc2, hzl, hkb, hrn, hgi, hbu1, hbu2, hIb, hIv⟩ := HI.out
        obtain ⟨va, vc, rfl⟩ := row_slice hkb.row
        rw [hzl] at hkb hIv
        by_cases hlt : i < n
        · have hil : i < f.kids.length := by rw [HN.out]; exact hlt
          have hks := HKS.out wr hkb.on
          rw [← HN.out] at hks
          obtain ⟨b, o, sl, sr, sk, rfl, hbm, hbl, ⟨y0, y1, ⟨y2, y3, y4⟩, ⟨y5, y6, y7⟩, y8⟩, hss⟩ := hks.nth hil
          obtain ⟨a1, c1, rfl, _, _⟩ := hss.l.slice'
          obtain ⟨a2, c2, rfl, _, _⟩ := hss.r.slice'
          obtain ⟨a3, c3, rfl, _, _⟩ := hss.k.slice
          have hstep := sizes_step hil
          have hmem := List.getElem_mem hil
          have hdrop := List.drop_eq_getElem_cons hil
          have hspos := sizes_pos (f.kids.drop (i + 1))
          have hbG := below_box wr (fbox f.kids[i] (.slice a1 f.kids[i].l.args.length c1) (.slice a2 f.kids[i].r.args.length c2) (.slice a3 f.kids[i].kids.length c3))
          have hzG := (MapKept.heap_alloc wr (fbox f.kids[i] (.slice a1 f.kids[i].l.args.length c1) (.slice a2 f.kids[i].r.args.length c2) (.slice a3 f.kids[i].kids.length c3))).1
          obtain ⟨G, hG⟩ : ∃ G, wr.heap.size = G := ⟨_, rfl⟩
          obtain ⟨X1, hX1⟩ : ∃ X : World, wr.alloc (fbox f.kids[i] (.slice a1 f.kids[i].l.args.length c1) (.slice a2 f.kids[i].r.args.length c2) (.slice a3 f.kids[i].kids.length c3)) = X := ⟨_, rfl⟩
          rw [hX1] at hbG hzG
          rw [hG] at hzG
          have hbd : Below wr.heap.size wr X1.drew := hbG.trans ((Below.refl X1.heap.size X1).drew.mono hbG.size)
          have hkb1 := hkb.step (Only.of_below (B := [rb, M]) hbd)
          have hrn1 := hrn.keep hbd
          obtain ⟨q1, -, -, q4, -⟩ := HST.out X1.drew hkb1.on
          have hcntK := HBU.out.2.2
          have hszp := HSZ.out
          have hc := HIH.out f.kids[i] hmem gi nxi ci X1.drew _ _ _ hrn1 q4 (hss.keep hbd.size (fun k hk hl => ⟨hk, hbd.block k hl⟩)) (fun s => HCF.out gi s hgi) (by omega) (by omega)
          have hkl' := hkb.lt
          have hGX : G < X1.heap.size := (Array.getElem?_eq_some_iff.1 hzG).1
          have hvZ : ∀ g, (Value.slice va i vc).ownBlock = some g → g < G := fun g hg => by
            obtain ⟨h1, cu, hcu⟩ := row_block hkb.row hg
            have := (Array.getElem?_eq_some_iff.1 hcu).1; omega
          have HZ : Hid (KBx w1 rb M (P2 + 2) O f.k (nmS nx) (rnT g f.l) (rnT g f.r) sl' sr' zs (.slice va i vc) X1.drew ∧ O < X1.drew.heap.size ∧ (∀ g, (Value.slice va i vc).ownBlock = some g → g < X1.drew.heap.size) ∧ (∀ g, (Value.slice va i vc).ownBlock = some g → g < G)) := ⟨hkb1, hkb1.lt, fun g hg => by have := hvZ g hg; show g < X1.heap.size; omega, hvZ⟩
          have HG1 : Hid (X1.drew.heap[G]? = some (fbox f.kids[i] (.slice a1 f.kids[i].l.args.length c1) (.slice a2 f.kids[i].r.args.length c2) (.slice a3 f.kids[i].kids.length c3)) ∧ G < X1.drew.heap.size) := ⟨hzG, hGX⟩
          have HGR : Hid (P2 + 2 < O ∧ O < G ∧ rb < P2 ∧ M < P2) := ⟨hkb.RO, by omega, HRL.out⟩
          have HGO : Hid (G ≠ O ∧ P2 ≠ O) := by have := HGR.out; exact ⟨by omega, by omega⟩
          have o1 : X1.cell? ⟨O, 8, none⟩ = some (.slice va i vc) := YthkinkcpfcpehaaGreatDoor.kc hbG hkl' hkb.cells.2.2.2.2.2.2.2.2
          have HZL := hidR hzl
          have HGI := hidR hgi
          have HIX : Hid (X1.drew.heap[I]? = some (.cells #[.int .i64 ((g f.nm).getD 0)] 3 (0, 0)) ∧ I < X1.drew.heap.size) := by
            have hIl := (Array.getElem?_eq_some_iff.1 hIb).1
            exact ⟨(hbd.block I hIl).trans hIb, Nat.lt_of_lt_of_le hIl hbd.size⟩
          have HIv := hidR hIv
          have HBS : Hid (f.kids[i].size + Fm.size.sizes (f.kids.drop (i + 1)) = Fm.size.sizes (f.kids.drop i) ∧ (nxi : Int) + Fm.size.sizes (f.kids.drop i) ≤ K ∧ (ci : Int) + 2 * Fm.size.sizes (f.kids.drop i) ≤ cnt + 1 + 2 * Fm.size.sizes f.kids ∧ 1 ≤ f.kids[i].size) := ⟨hstep.symm, hbu1, hbu2, fm_pos _⟩
          have HC1 : Hid (zs.map Pc.f ++ ((cnF (fput g f.nm (nx : Nat)) nxi f.kids[i]).1 :: (cnF.cnFs (fput g f.nm (nx : Nat)) (cnF (fput g f.nm (nx : Nat)) nxi f.kids[i]).2 (f.kids.drop (i + 1))).1) = (cnF.cnFs (fput g f.nm (nx : Nat)) (nx + 1) f.kids).1 ∧ (cnF.cnFs (fput g f.nm (nx : Nat)) (cnF (fput g f.nm (nx : Nat)) nxi f.kids[i]).2 (f.kids.drop (i + 1))).2 = (cnF.cnFs (fput g f.nm (nx : Nat)) (nx + 1) f.kids).2) := by
            rw [hdrop, cnF.cnFs] at hc1 hc2
            exact ⟨hc1, hc2⟩
          have HX1 := hidR hX1
          generalize f.kids[i] = u at y0 y1 y2 y3 y4 y5 y6 y7 y8 hc HG1 HBS HC1 HX1
          have s1 : X1.drew.heap[P2]? = some (.cells #[.pointer (some ⟨rb, 0, none⟩)] 112 (0, 0)) ∧ X1.drew.heap[G]? = some (fbox u (.slice a1 u.l.args.length c1) (.slice a2 u.r.args.length c2) (.slice a3 u.kids.length c3)) := ⟨q1, HG1.out.1⟩
          clear hks hss hstep hmem hdrop hspos hbG hzG hX1 hbd hkb1 hrn1 q1 q4 hkl' hGX hvZ hcntK hszp HI hc1 hc2 hzl hkb hrn hgi hbu1 hbu2 hIb hIv hbl hbm
          go_upto_region 11 with fail
          try simp only [hG]
          rw [show _ = X1 from HX1.out]
          clear HX1 hG
          refine wp_calm ?_
          refine wp_region_held_drew (S := fun X => X.heap[P2]? = some (.cells #[.pointer (some ⟨rb, 0, none⟩)] 112 (0, 0)) ∧ X.heap[G]? = some (fbox u (.slice a1 u.l.args.length c1) (.slice a2 u.r.args.length c2) (.slice a3 u.kids.length c3))) (by kernel_rfl) s1 (fun hHeld => ?_)
          refine Lx.take_mk 0 (.pointer (some ⟨O, 8, none⟩)) rfl (by kernel_rfl) (by kernel_rfl) (by kernel_rfl) (fun _ _ _ h => by cases h.1) (Or.inl ⟨by rfl, ?_⟩) (by first | assumption | trivial) ?_
          · intro w hSw; (try dsimp only at hSw); go_simp
          try simp only [Act.put, List.setIfInBounds_toArray, List.set_cons_zero, List.set_cons_succ]
          refine Lx.take_mk 2 (.pointer (some ⟨rb, 0, none⟩)) rfl (by kernel_rfl) (by kernel_rfl) (by kernel_rfl) (fun _ _ _ h => by cases h.1) (Or.inl ⟨by rfl, ?_⟩) (by first | assumption | trivial) ?_
          · intro w hSw; have p0 := cell_store (vs := [_]) (i := 0) hSw.1 rfl; (try dsimp only at hSw); go_simp
          try simp only [Act.put, List.setIfInBounds_toArray, List.set_cons_zero, List.set_cons_succ]
          refine Lx.take_mk 3 (fval u (.slice a1 u.l.args.length c1) (.slice a2 u.r.args.length c2) (.slice a3 u.kids.length c3)) rfl (by kernel_rfl) (by kernel_rfl) (by kernel_rfl) (fun _ _ _ h => by cases h.1) (Or.inl ⟨by rfl, ?_⟩) (by first | assumption | trivial) ?_
          · intro w hSw; obtain ⟨⟨f0, f1, f2, f3, f4, f5, f6, f7, f8⟩, -⟩ := f_cells hSw.2; (try dsimp only at hSw); go_simp
          try simp only [Act.put, List.setIfInBounds_toArray, List.set_cons_zero, List.set_cons_succ]
          refine wpAnyH_ready (rs := [1, 4]) (by kernel_rfl) (by simp) ?_
          refine AllReadyH.cons rfl (fun Kq hKq => ?_) (AllReadyH.cons rfl (fun Kq hKq => ?_) AllReadyH.nil)
          · go_simp
            refine hKq.out _ _ s1 (fun hHeld => ?_)
            clear hKq Kq
            try simp only [Act.put, List.getElem_toArray, List.getElem_cons_succ, List.getElem_cons_zero, List.setIfInBounds_toArray, List.set_cons_zero, List.set_cons_succ]
            refine wpAnyH_ready (rs := [4]) (by kernel_rfl) (by simp) ?_
            refine AllReadyH.cons rfl (fun Kq hKq => ?_) AllReadyH.nil
            go_simp
            refine hc.mono ?_
            rintro e W3 ⟨sl2, sr2, sk2, g', rfl, hfm2, hrn2, hgs2, ho2⟩
            obtain ⟨d1, e1, rfl, _, _⟩ := hfm2.l.slice'
            obtain ⟨d2, e2, rfl, _, _⟩ := hfm2.r.slice'
            obtain ⟨d3, e3, rfl, _, _⟩ := hfm2.k.slice
            have hkb3 := HZ.out.1.step ho2
            obtain ⟨-, -, -, -, -, -, -, -, o3⟩ := hkb3.cells
            have o3a : ∀ ob : Obj, (W3.alloc ob).cell? ⟨O, 8, none⟩ = some (.slice va i vc) := fun ob => YthkinkcpfcpehaaGreatDoor.kc (below_box W3 ob) hkb3.lt o3
            have HROW : Hid (W3.ownsRow (O + 1) 27 9 (.slice va i vc) i (flP zs)) := by have := hkb3.row; rwa [HZL.out] at this
            have HO3 : Hid (O < W3.heap.size) := hkb3.lt
            have HONE : Hid (∀ u' ∈ ([.int .i64 (cnF gi nxi u).1.k, .string (cnF gi nxi u).1.nm, .int .i64 (cnF gi nxi u).1.l.v, .string (cnF gi nxi u).1.l.fn, .slice d1 (cnF gi nxi u).1.l.args.length e1, .int .i64 (cnF gi nxi u).1.r.v, .string (cnF gi nxi u).1.r.fn, .slice d2 (cnF gi nxi u).1.r.args.length e2, .slice d3 (cnF gi nxi u).1.kids.length e3] : List Value), u'.oneCell' = true) := hfm2.one
            have hP3 := (HST.out W3 hkb3.on).1
            have hPl := (Array.getElem?_eq_some_iff.1 hP3).1
            have s3 : W3.heap[P2]? = some (.cells #[.pointer (some ⟨rb, 0, none⟩)] 112 (0, 0)) ∧ W3.heap[G]? = some (fbox u (.slice a1 u.l.args.length c1) (.slice a2 u.r.args.length c2) (.slice a3 u.kids.length c3)) := ⟨hP3, (ho2.block G HG1.out.2 (by have := HGR.out; simp; omega)).trans HG1.out.1⟩
            have hGl3 : G < W3.heap.size := Nat.lt_of_lt_of_le HG1.out.2 ho2.size
            have s3a : ∀ ob : Obj, (W3.alloc ob).heap[P2]? = some (.cells #[.pointer (some ⟨rb, 0, none⟩)] 112 (0, 0)) ∧ (W3.alloc ob).heap[G]? = some (fbox u (.slice a1 u.l.args.length c1) (.slice a2 u.r.args.length c2) (.slice a3 u.kids.length c3)) := fun ob => ⟨((below_box W3 ob).block P2 hPl).trans s3.1, ((below_box W3 ob).block G hGl3).trans s3.2⟩
            have HS6 : Hid (∀ (x : Obj) (w6 : World), (W3.alloc x).grownBy w6 (Value.slice va i vc).ownBlock → w6.heap[P2]? = some (.cells #[.pointer (some ⟨rb, 0, none⟩)] 112 (0, 0)) ∧ w6.heap[G]? = some (fbox u (.slice a1 u.l.args.length c1) (.slice a2 u.r.args.length c2) (.slice a3 u.kids.length c3))) := fun x w6 hgr => ⟨(hgr.block P2 (Nat.lt_of_lt_of_le hPl (below_box W3 x).size) (fun e => by have := (row_block hkb3.row e.symm).1; have := HGR.out; omega)).trans (s3a x).1, (hgr.block G (Nat.lt_of_lt_of_le hGl3 (below_box W3 x).size) (fun e => by have := HZ.out.2.2.2 G e.symm; omega)).trans (s3a x).2⟩
            have hI3 : W3.heap[I]? = some (.cells #[.int .i64 ((g f.nm).getD 0)] 3 (0, 0)) := (ho2.block I (Nat.lt_of_lt_of_le HIX.out.2 (Nat.le_refl _)) (by have := HIR.out; have := hkb3.rM; simp; omega)).trans HIX.out.1
            have HPUSH : Hid (∀ (v' : Value) (w6 : World), w6.ownsRow (O + 1) 27 9 v' (i + 1) (flP zs ++ [.int .i64 (cnF gi nxi u).1.k, .string (cnF gi nxi u).1.nm, .int .i64 (cnF gi nxi u).1.l.v, .string (cnF gi nxi u).1.l.fn, .slice d1 (cnF gi nxi u).1.l.args.length e1, .int .i64 (cnF gi nxi u).1.r.v, .string (cnF gi nxi u).1.r.fn, .slice d2 (cnF gi nxi u).1.r.args.length e2, .slice d3 (cnF gi nxi u).1.kids.length e3]) → (W3.alloc (.cells #[.int .i64 (cnF gi nxi u).1.k, .string (cnF gi nxi u).1.nm, .int .i64 (cnF gi nxi u).1.l.v, .string (cnF gi nxi u).1.l.fn, .slice d1 (cnF gi nxi u).1.l.args.length e1, .int .i64 (cnF gi nxi u).1.r.v, .string (cnF gi nxi u).1.r.fn, .slice d2 (cnF gi nxi u).1.r.args.length e2, .slice d3 (cnF gi nxi u).1.kids.length e3] 27)).grownBy w6 (Value.slice va i vc).ownBlock → (v'.ownBlock = (Value.slice va i vc).ownBlock ∨ v'.ownBlock = some (W3.alloc (.cells #[.int .i64 (cnF gi nxi u).1.k, .string (cnF gi nxi u).1.nm, .int .i64 (cnF gi nxi u).1.l.v, .string (cnF gi nxi u).1.l.fn, .slice d1 (cnF gi nxi u).1.l.args.length e1, .int .i64 (cnF gi nxi u).1.r.v, .string (cnF gi nxi u).1.r.fn, .slice d2 (cnF gi nxi u).1.r.args.length e2, .slice d3 (cnF gi nxi u).1.kids.length e3] 27)).heap.size) →
              KBx w1 rb M (P2 + 2) O f.k (nmS nx) (rnT g f.l) (rnT g f.r) sl' sr' (zs ++ [⟨0, (cnF gi nxi u).1, .slice d1 (cnF gi nxi u).1.l.args.length e1, .slice d2 (cnF gi nxi u).1.r.args.length e2, .slice d3 (cnF gi nxi u).1.kids.length e3⟩]) v' (w6.setCell ⟨O, 8, none⟩ v') ∧ Only (O :: (Value.slice va i vc).ownBlock.toList) W3 (w6.setCell ⟨O, 8, none⟩ v') ∧ w6.cell? ⟨O, 8, none⟩ = some (.slice va i vc) ∧ w6.frozen? ⟨O, 8, none⟩ = false) :=
              fun v' w6 q1 q2 q3 => hkb3.push (x := ⟨0, (cnF gi nxi u).1, .slice d1 (cnF gi nxi u).1.l.args.length e1, .slice d2 (cnF gi nxi u).1.r.args.length e2, .slice d3 (cnF gi nxi u).1.kids.length e3⟩) HZ.out.2.1 HZ.out.2.2.1 hfm2 (by rw [HZL.out]; exact q1) (below_box W3 _) q2 q3
            have HFIN : Hid (∀ (v' : Value) (w6 : World), (W3.alloc (.cells #[.int .i64 (cnF gi nxi u).1.k, .string (cnF gi nxi u).1.nm, .int .i64 (cnF gi nxi u).1.l.v, .string (cnF gi nxi u).1.l.fn, .slice d1 (cnF gi nxi u).1.l.args.length e1, .int .i64 (cnF gi nxi u).1.r.v, .string (cnF gi nxi u).1.r.fn, .slice d2 (cnF gi nxi u).1.r.args.length e2, .slice d3 (cnF gi nxi u).1.kids.length e3] 27)).grownBy w6 (Value.slice va i vc).ownBlock → (v'.ownBlock = (Value.slice va i vc).ownBlock ∨ v'.ownBlock = some (W3.alloc (.cells #[.int .i64 (cnF gi nxi u).1.k, .string (cnF gi nxi u).1.nm, .int .i64 (cnF gi nxi u).1.l.v, .string (cnF gi nxi u).1.l.fn, .slice d1 (cnF gi nxi u).1.l.args.length e1, .int .i64 (cnF gi nxi u).1.r.v, .string (cnF gi nxi u).1.r.fn, .slice d2 (cnF gi nxi u).1.r.args.length e2, .slice d3 (cnF gi nxi u).1.kids.length e3] 27)).heap.size) → KBx w1 rb M (P2 + 2) O f.k (nmS nx) (rnT g f.l) (rnT g f.r) sl' sr' (zs ++ [⟨0, (cnF gi nxi u).1, .slice d1 (cnF gi nxi u).1.l.args.length e1, .slice d2 (cnF gi nxi u).1.r.args.length e2, .slice d3 (cnF gi nxi u).1.kids.length e3⟩]) v' (w6.setCell ⟨O, 8, none⟩ v') →
              ∃ (zs : List Pc) (v : Value) (gi : ByteArray → Option Int) (nxi ci : Nat), zs.map Pc.f ++ (cnF.cnFs (fput g f.nm (nx : Nat)) nxi (f.kids.drop (i + 1))).1 = (cnF.cnFs (fput g f.nm (nx : Nat)) (nx + 1) f.kids).1 ∧ (cnF.cnFs (fput g f.nm (nx : Nat)) nxi (f.kids.drop (i + 1))).2 = (cnF.cnFs (fput g f.nm (nx : Nat)) (nx + 1) f.kids).2 ∧ zs.length = i + 1 ∧ KBx w1 rb M (P2 + 2) O f.k (nmS nx) (rnT g f.l) (rnT g f.r) sl' sr' zs v (w6.setCell ⟨O, 8, none⟩ v') ∧ RN (w6.setCell ⟨O, 8, none⟩ v') rb M (nxi : Nat) gi ci ∧ (∀ s, (gi s).getD 0 = ((fput g f.nm (nx : Nat)) s).getD 0) ∧ (nxi : Int) + Fm.size.sizes (f.kids.drop (i + 1)) ≤ K ∧ (ci : Int) + 2 * Fm.size.sizes (f.kids.drop (i + 1)) ≤ cnt + 1 + 2 * Fm.size.sizes f.kids ∧ (w6.setCell ⟨O, 8, none⟩ v').heap[I]? = some (.cells #[.int .i64 ((g f.nm).getD 0)] 3 (0, 0)) ∧ ∀ gg, v.ownBlock = some gg → I < gg) := fun v' w6 hgr hb hk7 => by
              obtain ⟨x0, hx0⟩ : ∃ x : Obj, Obj.cells #[.int .i64 (cnF gi nxi u).1.k, .string (cnF gi nxi u).1.nm, .int .i64 (cnF gi nxi u).1.l.v, .string (cnF gi nxi u).1.l.fn, .slice d1 (cnF gi nxi u).1.l.args.length e1, .int .i64 (cnF gi nxi u).1.r.v, .string (cnF gi nxi u).1.r.fn, .slice d2 (cnF gi nxi u).1.r.args.length e2, .slice d3 (cnF gi nxi u).1.kids.length e3] 27 = x := ⟨_, rfl⟩
              rw [hx0] at hgr hb
              have hle := cnF_le u gi nxi
              have hbs := HBS.out
              have hrb3 := (Array.getElem?_eq_some_iff.1 hrn2.box).1
              have hMl3 := hrn2.nm.lt
              have hkM := hkb3.rM
              have hkRO := hkb3.RO
              have sm : ∀ j, j < W3.heap.size → j < O → (w6.setCell ⟨O, 8, none⟩ v').heap[j]? = W3.heap[j]? := fun j hj hjO => (Below.heap_setCell _ _ _ j (by show j ≠ O; omega)).trans ((hgr.block j (Nat.lt_of_lt_of_le hj (below_box W3 x0).size) (fun e => by have := (row_block hkb3.row e.symm).1; omega)).trans ((below_box W3 x0).block j hj))
              refine ⟨_, _, g', (cnF gi nxi u).2, ci + 2 * u.size.toNat, ?_, ?_, by rw [List.length_append, HZL.out]; rfl, hk7, ⟨(sm rb hrb3 (by omega)).trans hrn2.box, hrn2.nm.same (sm M hMl3 (by omega))⟩, fun s => by rw [hgs2, HGI.out], by omega, by push_cast; omega, ((Below.heap_setCell _ _ _ I (by have := HIR.out; show I ≠ O; omega)).trans ((hgr.block I (Nat.lt_of_lt_of_le HIX.out.2 (Nat.le_trans ho2.size (below_box W3 x0).size)) (fun e => by have := HIv.out I e.symm; omega)).trans (((below_box W3 x0).block I (Nat.lt_of_lt_of_le HIX.out.2 ho2.size)).trans hI3))), fun gg hgg => by
                rcases hb with h1 | h1
                · exact HIv.out gg (h1 ▸ hgg)
                · rw [h1] at hgg
                  have := Option.some.inj hgg
                  have := (below_box W3 x0).size
                  have := ho2.size
                  have := HIX.out.2
                  omega⟩
              · rw [← HC1.out.1, List.map_append, List.append_assoc, cnF_congr u gi (fput g f.nm (nx : Nat)) nxi HGI.out]; rfl
              · rw [← HC1.out.2, cnF_congr u gi (fput g f.nm (nx : Nat)) nxi HGI.out]
            clear hkb3 hfm2 hrn2 hgs2 ho2 hP3 hPl hGl3
            refine hKq.out _ _ s3 (fun hHeld => ?_)
            clear hKq Kq
            try simp only [Act.put, List.getElem_toArray, List.getElem_cons_succ, List.getElem_cons_zero, List.setIfInBounds_toArray, List.set_cons_zero, List.set_cons_succ]
            refine wpAnyH_ready (rs := [5]) (by kernel_rfl) (by simp) ?_
            refine AllReadyH.cons rfl (fun Kq hKq => ?_) AllReadyH.nil
            go_simp
            refine hKq.out _ _ (s3a _) (fun hHeld => ?_)
            clear hKq Kq
            try simp only [Act.put, List.getElem_toArray, List.getElem_cons_succ, List.getElem_cons_zero, List.setIfInBounds_toArray, List.set_cons_zero, List.set_cons_succ]
            refine wpAnyH_ready (rs := [6]) (by kernel_rfl) (by simp) ?_
            refine AllReadyH.cons rfl (fun Kq hKq => ?_) AllReadyH.nil
            refine step_append_own _ rfl (.tmp 61) (.tmp 65) 25 rfl (O + 1) 27 i0 _ 9 144 Tryz.underlying25 hi0 hz0 hz1 hz2 rfl (by decide) (.slice va i vc) i (flP zs) rfl (Lx.row_below HROW.out (below_box W3 _)) ⟨W3.heap.size, 0, none⟩ 1 1 [.int .i64 (cnF gi nxi u).1.k, .string (cnF gi nxi u).1.nm, .int .i64 (cnF gi nxi u).1.l.v, .string (cnF gi nxi u).1.l.fn, .slice d1 (cnF gi nxi u).1.l.args.length e1, .int .i64 (cnF gi nxi u).1.r.v, .string (cnF gi nxi u).1.r.fn, .slice d2 (cnF gi nxi u).1.r.args.length e2, .slice d3 (cnF gi nxi u).1.kids.length e3] rfl rfl (news_of W3 _ 27) HONE.out (by unfold maxLen; omega) (by omega) (by have := HO3.out; simp; omega) ?_
            intro v' w6 hrow6 hg6 hb6
            obtain ⟨va6, vc6, rfl⟩ := row_slice hrow6
            obtain ⟨hab7, hon7, hc6, hf6⟩ := HPUSH.out _ w6 hrow6 hg6 hb6
            have s6 := HS6.out _ w6 hg6
            refine hKq.out _ _ s6 (fun hHeld => ?_)
            clear hKq Kq
            try simp only [Act.put, List.getElem_toArray, List.getElem_cons_succ, List.getElem_cons_zero, List.setIfInBounds_toArray, List.set_cons_zero, List.set_cons_succ]
            refine Lx.take_mk 7 (.pointer (some ⟨O, 8, none⟩)) rfl (by kernel_rfl) (by kernel_rfl) (by kernel_rfl) (fun _ _ _ h => by cases h.1) (Or.inl ⟨by rfl, ?_⟩) (by first | assumption | trivial) ?_
            · intro w hSw; (try dsimp only at hSw); go_simp
            try simp only [Act.put, List.setIfInBounds_toArray, List.set_cons_zero, List.set_cons_succ]
            refine wpAnyH_ready (rs := [8]) (by kernel_rfl) (by simp) ?_
            refine AllReadyH.cons rfl (fun Kq hKq => ?_) AllReadyH.nil
            go_simp
            have s7 : (w6.setCell ⟨O, 8, none⟩ (.slice va6 (i + 1) vc6)).heap[P2]? = some (.cells #[.pointer (some ⟨rb, 0, none⟩)] 112 (0, 0)) ∧ (w6.setCell ⟨O, 8, none⟩ (.slice va6 (i + 1) vc6)).heap[G]? = some (fbox u (.slice a1 u.l.args.length c1) (.slice a2 u.r.args.length c2) (.slice a3 u.kids.length c3)) := ⟨(Below.heap_setCell _ _ _ P2 HGO.out.2).trans s6.1, (Below.heap_setCell _ _ _ G HGO.out.1).trans s6.2⟩
            refine hKq.out _ _ s7 (fun hHeld => ?_)
            clear hKq Kq
            try simp only [Act.put, List.getElem_toArray, List.getElem_cons_succ, List.getElem_cons_zero, List.setIfInBounds_toArray, List.set_cons_zero, List.set_cons_succ]
            refine wpAnyH_done (by kernel_rfl) ?_ _
            have HI7 := HFIN.out _ _ hg6 hb6 hab7
            obtain ⟨W7, hW7⟩ : ∃ X, w6.setCell ⟨O, 8, none⟩ (.slice va6 (i + 1) vc6) = X := ⟨_, rfl⟩
            rw [hW7] at HI7
            rw [hW7]
            have HM7 := hidR HI7
            clear hab7 hon7 HPUSH hW7 s6 s7 HI7 HFIN
            refine ⟨rfl, ?_⟩
            go_wp2
            go_roundw
            case rel => exact ⟨i + 1, by go_num, by omega, HM7.out⟩
            case measure => simp [intOf]; omega
          · go_simp
            refine hc.mono ?_
            rintro e W3 ⟨sl2, sr2, sk2, g', rfl, hfm2, hrn2, hgs2, ho2⟩
            obtain ⟨d1, e1, rfl, _, _⟩ := hfm2.l.slice'
            obtain ⟨d2, e2, rfl, _, _⟩ := hfm2.r.slice'
            obtain ⟨d3, e3, rfl, _, _⟩ := hfm2.k.slice
            have hkb3 := HZ.out.1.step ho2
            obtain ⟨-, -, -, -, -, -, -, -, o3⟩ := hkb3.cells
            have o3a : ∀ ob : Obj, (W3.alloc ob).cell? ⟨O, 8, none⟩ = some (.slice va i vc) := fun ob => YthkinkcpfcpehaaGreatDoor.kc (below_box W3 ob) hkb3.lt o3
            have HROW : Hid (W3.ownsRow (O + 1) 27 9 (.slice va i vc) i (flP zs)) := by have := hkb3.row; rwa [HZL.out] at this
            have HO3 : Hid (O < W3.heap.size) := hkb3.lt
            have HONE : Hid (∀ u' ∈ ([.int .i64 (cnF gi nxi u).1.k, .string (cnF gi nxi u).1.nm, .int .i64 (cnF gi nxi u).1.l.v, .string (cnF gi nxi u).1.l.fn, .slice d1 (cnF gi nxi u).1.l.args.length e1, .int .i64 (cnF gi nxi u).1.r.v, .string (cnF gi nxi u).1.r.fn, .slice d2 (cnF gi nxi u).1.r.args.length e2, .slice d3 (cnF gi nxi u).1.kids.length e3] : List Value), u'.oneCell' = true) := hfm2.one
            have hP3 := (HST.out W3 hkb3.on).1
            have hPl := (Array.getElem?_eq_some_iff.1 hP3).1
            have s3 : W3.heap[P2]? = some (.cells #[.pointer (some ⟨rb, 0, none⟩)] 112 (0, 0)) ∧ W3.heap[G]? = some (fbox u (.slice a1 u.l.args.length c1) (.slice a2 u.r.args.length c2) (.slice a3 u.kids.length c3)) := ⟨hP3, (ho2.block G HG1.out.2 (by have := HGR.out; simp; omega)).trans HG1.out.1⟩
            have hGl3 : G < W3.heap.size := Nat.lt_of_lt_of_le HG1.out.2 ho2.size
            have s3a : ∀ ob : Obj, (W3.alloc ob).heap[P2]? = some (.cells #[.pointer (some ⟨rb, 0, none⟩)] 112 (0, 0)) ∧ (W3.alloc ob).heap[G]? = some (fbox u (.slice a1 u.l.args.length c1) (.slice a2 u.r.args.length c2) (.slice a3 u.kids.length c3)) := fun ob => ⟨((below_box W3 ob).block P2 hPl).trans s3.1, ((below_box W3 ob).block G hGl3).trans s3.2⟩
            have HS6 : Hid (∀ (x : Obj) (w6 : World), (W3.alloc x).grownBy w6 (Value.slice va i vc).ownBlock → w6.heap[P2]? = some (.cells #[.pointer (some ⟨rb, 0, none⟩)] 112 (0, 0)) ∧ w6.heap[G]? = some (fbox u (.slice a1 u.l.args.length c1) (.slice a2 u.r.args.length c2) (.slice a3 u.kids.length c3))) := fun x w6 hgr => ⟨(hgr.block P2 (Nat.lt_of_lt_of_le hPl (below_box W3 x).size) (fun e => by have := (row_block hkb3.row e.symm).1; have := HGR.out; omega)).trans (s3a x).1, (hgr.block G (Nat.lt_of_lt_of_le hGl3 (below_box W3 x).size) (fun e => by have := HZ.out.2.2.2 G e.symm; omega)).trans (s3a x).2⟩
            have hI3 : W3.heap[I]? = some (.cells #[.int .i64 ((g f.nm).getD 0)] 3 (0, 0)) := (ho2.block I (Nat.lt_of_lt_of_le HIX.out.2 (Nat.le_refl _)) (by have := HIR.out; have := hkb3.rM; simp; omega)).trans HIX.out.1
            have HPUSH : Hid (∀ (v' : Value) (w6 : World), w6.ownsRow (O + 1) 27 9 v' (i + 1) (flP zs ++ [.int .i64 (cnF gi nxi u).1.k, .string (cnF gi nxi u).1.nm, .int .i64 (cnF gi nxi u).1.l.v, .string (cnF gi nxi u).1.l.fn, .slice d1 (cnF gi nxi u).1.l.args.length e1, .int .i64 (cnF gi nxi u).1.r.v, .string (cnF gi nxi u).1.r.fn, .slice d2 (cnF gi nxi u).1.r.args.length e2, .slice d3 (cnF gi nxi u).1.kids.length e3]) → (W3.alloc (.cells #[.int .i64 (cnF gi nxi u).1.k, .string (cnF gi nxi u).1.nm, .int .i64 (cnF gi nxi u).1.l.v, .string (cnF gi nxi u).1.l.fn, .slice d1 (cnF gi nxi u).1.l.args.length e1, .int .i64 (cnF gi nxi u).1.r.v, .string (cnF gi nxi u).1.r.fn, .slice d2 (cnF gi nxi u).1.r.args.length e2, .slice d3 (cnF gi nxi u).1.kids.length e3] 27)).grownBy w6 (Value.slice va i vc).ownBlock → (v'.ownBlock = (Value.slice va i vc).ownBlock ∨ v'.ownBlock = some (W3.alloc (.cells #[.int .i64 (cnF gi nxi u).1.k, .string (cnF gi nxi u).1.nm, .int .i64 (cnF gi nxi u).1.l.v, .string (cnF gi nxi u).1.l.fn, .slice d1 (cnF gi nxi u).1.l.args.length e1, .int .i64 (cnF gi nxi u).1.r.v, .string (cnF gi nxi u).1.r.fn, .slice d2 (cnF gi nxi u).1.r.args.length e2, .slice d3 (cnF gi nxi u).1.kids.length e3] 27)).heap.size) →
              KBx w1 rb M (P2 + 2) O f.k (nmS nx) (rnT g f.l) (rnT g f.r) sl' sr' (zs ++ [⟨0, (cnF gi nxi u).1, .slice d1 (cnF gi nxi u).1.l.args.length e1, .slice d2 (cnF gi nxi u).1.r.args.length e2, .slice d3 (cnF gi nxi u).1.kids.length e3⟩]) v' (w6.setCell ⟨O, 8, none⟩ v') ∧ Only (O :: (Value.slice va i vc).ownBlock.toList) W3 (w6.setCell ⟨O, 8, none⟩ v') ∧ w6.cell? ⟨O, 8, none⟩ = some (.slice va i vc) ∧ w6.frozen? ⟨O, 8, none⟩ = false) :=
              fun v' w6 q1 q2 q3 => hkb3.push (x := ⟨0, (cnF gi nxi u).1, .slice d1 (cnF gi nxi u).1.l.args.length e1, .slice d2 (cnF gi nxi u).1.r.args.length e2, .slice d3 (cnF gi nxi u).1.kids.length e3⟩) HZ.out.2.1 HZ.out.2.2.1 hfm2 (by rw [HZL.out]; exact q1) (below_box W3 _) q2 q3
            have HFIN : Hid (∀ (v' : Value) (w6 : World), (W3.alloc (.cells #[.int .i64 (cnF gi nxi u).1.k, .string (cnF gi nxi u).1.nm, .int .i64 (cnF gi nxi u).1.l.v, .string (cnF gi nxi u).1.l.fn, .slice d1 (cnF gi nxi u).1.l.args.length e1, .int .i64 (cnF gi nxi u).1.r.v, .string (cnF gi nxi u).1.r.fn, .slice d2 (cnF gi nxi u).1.r.args.length e2, .slice d3 (cnF gi nxi u).1.kids.length e3] 27)).grownBy w6 (Value.slice va i vc).ownBlock → (v'.ownBlock = (Value.slice va i vc).ownBlock ∨ v'.ownBlock = some (W3.alloc (.cells #[.int .i64 (cnF gi nxi u).1.k, .string (cnF gi nxi u).1.nm, .int .i64 (cnF gi nxi u).1.l.v, .string (cnF gi nxi u).1.l.fn, .slice d1 (cnF gi nxi u).1.l.args.length e1, .int .i64 (cnF gi nxi u).1.r.v, .string (cnF gi nxi u).1.r.fn, .slice d2 (cnF gi nxi u).1.r.args.length e2, .slice d3 (cnF gi nxi u).1.kids.length e3] 27)).heap.size) → KBx w1 rb M (P2 + 2) O f.k (nmS nx) (rnT g f.l) (rnT g f.r) sl' sr' (zs ++ [⟨0, (cnF gi nxi u).1, .slice d1 (cnF gi nxi u).1.l.args.length e1, .slice d2 (cnF gi nxi u).1.r.args.length e2, .slice d3 (cnF gi nxi u).1.kids.length e3⟩]) v' (w6.setCell ⟨O, 8, none⟩ v') →
              ∃ (zs : List Pc) (v : Value) (gi : ByteArray → Option Int) (nxi ci : Nat), zs.map Pc.f ++ (cnF.cnFs (fput g f.nm (nx : Nat)) nxi (f.kids.drop (i + 1))).1 = (cnF.cnFs (fput g f.nm (nx : Nat)) (nx + 1) f.kids).1 ∧ (cnF.cnFs (fput g f.nm (nx : Nat)) nxi (f.kids.drop (i + 1))).2 = (cnF.cnFs (fput g f.nm (nx : Nat)) (nx + 1) f.kids).2 ∧ zs.length = i + 1 ∧ KBx w1 rb M (P2 + 2) O f.k (nmS nx) (rnT g f.l) (rnT g f.r) sl' sr' zs v (w6.setCell ⟨O, 8, none⟩ v') ∧ RN (w6.setCell ⟨O, 8, none⟩ v') rb M (nxi : Nat) gi ci ∧ (∀ s, (gi s).getD 0 = ((fput g f.nm (nx : Nat)) s).getD 0) ∧ (nxi : Int) + Fm.size.sizes (f.kids.drop (i + 1)) ≤ K ∧ (ci : Int) + 2 * Fm.size.sizes (f.kids.drop (i + 1)) ≤ cnt + 1 + 2 * Fm.size.sizes f.kids ∧ (w6.setCell ⟨O, 8, none⟩ v').heap[I]? = some (.cells #[.int .i64 ((g f.nm).getD 0)] 3 (0, 0)) ∧ ∀ gg, v.ownBlock = some gg → I < gg) := fun v' w6 hgr hb hk7 => by
              obtain ⟨x0, hx0⟩ : ∃ x : Obj, Obj.cells #[.int .i64 (cnF gi nxi u).1.k, .string (cnF gi nxi u).1.nm, .int .i64 (cnF gi nxi u).1.l.v, .string (cnF gi nxi u).1.l.fn, .slice d1 (cnF gi nxi u).1.l.args.length e1, .int .i64 (cnF gi nxi u).1.r.v, .string (cnF gi nxi u).1.r.fn, .slice d2 (cnF gi nxi u).1.r.args.length e2, .slice d3 (cnF gi nxi u).1.kids.length e3] 27 = x := ⟨_, rfl⟩
              rw [hx0] at hgr hb
              have hle := cnF_le u gi nxi
              have hbs := HBS.out
              have hrb3 := (Array.getElem?_eq_some_iff.1 hrn2.box).1
              have hMl3 := hrn2.nm.lt
              have hkM := hkb3.rM
              have hkRO := hkb3.RO
              have sm : ∀ j, j < W3.heap.size → j < O → (w6.setCell ⟨O, 8, none⟩ v').heap[j]? = W3.heap[j]? := fun j hj hjO => (Below.heap_setCell _ _ _ j (by show j ≠ O; omega)).trans ((hgr.block j (Nat.lt_of_lt_of_le hj (below_box W3 x0).size) (fun e => by have := (row_block hkb3.row e.symm).1; omega)).trans ((below_box W3 x0).block j hj))
              refine ⟨_, _, g', (cnF gi nxi u).2, ci + 2 * u.size.toNat, ?_, ?_, by rw [List.length_append, HZL.out]; rfl, hk7, ⟨(sm rb hrb3 (by omega)).trans hrn2.box, hrn2.nm.same (sm M hMl3 (by omega))⟩, fun s => by rw [hgs2, HGI.out], by omega, by push_cast; omega, ((Below.heap_setCell _ _ _ I (by have := HIR.out; show I ≠ O; omega)).trans ((hgr.block I (Nat.lt_of_lt_of_le HIX.out.2 (Nat.le_trans ho2.size (below_box W3 x0).size)) (fun e => by have := HIv.out I e.symm; omega)).trans (((below_box W3 x0).block I (Nat.lt_of_lt_of_le HIX.out.2 ho2.size)).trans hI3))), fun gg hgg => by
                rcases hb with h1 | h1
                · exact HIv.out gg (h1 ▸ hgg)
                · rw [h1] at hgg
                  have := Option.some.inj hgg
                  have := (below_box W3 x0).size
                  have := ho2.size
                  have := HIX.out.2
                  omega⟩
              · rw [← HC1.out.1, List.map_append, List.append_assoc, cnF_congr u gi (fput g f.nm (nx : Nat)) nxi HGI.out]; rfl
              · rw [← HC1.out.2, cnF_congr u gi (fput g f.nm (nx : Nat)) nxi HGI.out]
            clear hkb3 hfm2 hrn2 hgs2 ho2 hP3 hPl hGl3
            refine hKq.out _ _ s3 (fun hHeld => ?_)
            clear hKq Kq
            try simp only [Act.put, List.getElem_toArray, List.getElem_cons_succ, List.getElem_cons_zero, List.setIfInBounds_toArray, List.set_cons_zero, List.set_cons_succ]
            refine wpAnyH_ready (rs := [1, 5]) (by kernel_rfl) (by simp) ?_
            refine AllReadyH.cons rfl (fun Kq hKq => ?_) (AllReadyH.cons rfl (fun Kq hKq => ?_) AllReadyH.nil)
            · go_simp
              refine hKq.out _ _ s3 (fun hHeld => ?_)
              clear hKq Kq
              try simp only [Act.put, List.getElem_toArray, List.getElem_cons_succ, List.getElem_cons_zero, List.setIfInBounds_toArray, List.set_cons_zero, List.set_cons_succ]
              refine wpAnyH_ready (rs := [5]) (by kernel_rfl) (by simp) ?_
              refine AllReadyH.cons rfl (fun Kq hKq => ?_) AllReadyH.nil
              go_simp
              refine hKq.out _ _ (s3a _) (fun hHeld => ?_)
              clear hKq Kq
              try simp only [Act.put, List.getElem_toArray, List.getElem_cons_succ, List.getElem_cons_zero, List.setIfInBounds_toArray, List.set_cons_zero, List.set_cons_succ]
              refine wpAnyH_ready (rs := [6]) (by kernel_rfl) (by simp) ?_
              refine AllReadyH.cons rfl (fun Kq hKq => ?_) AllReadyH.nil
              refine step_append_own _ rfl (.tmp 61) (.tmp 65) 25 rfl (O + 1) 27 i0 _ 9 144 Tryz.underlying25 hi0 hz0 hz1 hz2 rfl (by decide) (.slice va i vc) i (flP zs) rfl (Lx.row_below HROW.out (below_box W3 _)) ⟨W3.heap.size, 0, none⟩ 1 1 [.int .i64 (cnF gi nxi u).1.k, .string (cnF gi nxi u).1.nm, .int .i64 (cnF gi nxi u).1.l.v, .string (cnF gi nxi u).1.l.fn, .slice d1 (cnF gi nxi u).1.l.args.length e1, .int .i64 (cnF gi nxi u).1.r.v, .string (cnF gi nxi u).1.r.fn, .slice d2 (cnF gi nxi u).1.r.args.length e2, .slice d3 (cnF gi nxi u).1.kids.length e3] rfl rfl (news_of W3 _ 27) HONE.out (by unfold maxLen; omega) (by omega) (by have := HO3.out; simp; omega) ?_
              intro v' w6 hrow6 hg6 hb6
              obtain ⟨va6, vc6, rfl⟩ := row_slice hrow6
              obtain ⟨hab7, hon7, hc6, hf6⟩ := HPUSH.out _ w6 hrow6 hg6 hb6
              have s6 := HS6.out _ w6 hg6
              refine hKq.out _ _ s6 (fun hHeld => ?_)
              clear hKq Kq
              try simp only [Act.put, List.getElem_toArray, List.getElem_cons_succ, List.getElem_cons_zero, List.setIfInBounds_toArray, List.set_cons_zero, List.set_cons_succ]
              refine Lx.take_mk 7 (.pointer (some ⟨O, 8, none⟩)) rfl (by kernel_rfl) (by kernel_rfl) (by kernel_rfl) (fun _ _ _ h => by cases h.1) (Or.inl ⟨by rfl, ?_⟩) (by first | assumption | trivial) ?_
              · intro w hSw; (try dsimp only at hSw); go_simp
              try simp only [Act.put, List.setIfInBounds_toArray, List.set_cons_zero, List.set_cons_succ]
              refine wpAnyH_ready (rs := [8]) (by kernel_rfl) (by simp) ?_
              refine AllReadyH.cons rfl (fun Kq hKq => ?_) AllReadyH.nil
              go_simp
              have s7 : (w6.setCell ⟨O, 8, none⟩ (.slice va6 (i + 1) vc6)).heap[P2]? = some (.cells #[.pointer (some ⟨rb, 0, none⟩)] 112 (0, 0)) ∧ (w6.setCell ⟨O, 8, none⟩ (.slice va6 (i + 1) vc6)).heap[G]? = some (fbox u (.slice a1 u.l.args.length c1) (.slice a2 u.r.args.length c2) (.slice a3 u.kids.length c3)) := ⟨(Below.heap_setCell _ _ _ P2 HGO.out.2).trans s6.1, (Below.heap_setCell _ _ _ G HGO.out.1).trans s6.2⟩
              refine hKq.out _ _ s7 (fun hHeld => ?_)
              clear hKq Kq
              try simp only [Act.put, List.getElem_toArray, List.getElem_cons_succ, List.getElem_cons_zero, List.setIfInBounds_toArray, List.set_cons_zero, List.set_cons_succ]
              refine wpAnyH_done (by kernel_rfl) ?_ _
              have HI7 := HFIN.out _ _ hg6 hb6 hab7
              obtain ⟨W7, hW7⟩ : ∃ X, w6.setCell ⟨O, 8, none⟩ (.slice va6 (i + 1) vc6) = X := ⟨_, rfl⟩
              rw [hW7] at HI7
              rw [hW7]
              have HM7 := hidR HI7
              clear hab7 hon7 HPUSH hW7 s6 s7 HI7 HFIN
              refine ⟨rfl, ?_⟩
              go_wp2
              go_roundw
              case rel => exact ⟨i + 1, by go_num, by omega, HM7.out⟩
              case measure => simp [intOf]; omega
            · go_simp
              refine hKq.out _ _ (s3a _) (fun hHeld => ?_)
              clear hKq Kq
              try simp only [Act.put, List.getElem_toArray, List.getElem_cons_succ, List.getElem_cons_zero, List.setIfInBounds_toArray, List.set_cons_zero, List.set_cons_succ]
              refine wpAnyH_ready (rs := [1]) (by kernel_rfl) (by simp) ?_
              refine AllReadyH.cons rfl (fun Kq hKq => ?_) AllReadyH.nil
              go_simp
              refine hKq.out _ _ (s3a _) (fun hHeld => ?_)
              clear hKq Kq
              try simp only [Act.put, List.getElem_toArray, List.getElem_cons_succ, List.getElem_cons_zero, List.setIfInBounds_toArray, List.set_cons_zero, List.set_cons_succ]
              refine wpAnyH_ready (rs := [6]) (by kernel_rfl) (by simp) ?_
              refine AllReadyH.cons rfl (fun Kq hKq => ?_) AllReadyH.nil
              refine step_append_own _ rfl (.tmp 61) (.tmp 65) 25 rfl (O + 1) 27 i0 _ 9 144 Tryz.underlying25 hi0 hz0 hz1 hz2 rfl (by decide) (.slice va i vc) i (flP zs) rfl (Lx.row_below HROW.out (below_box W3 _)) ⟨W3.heap.size, 0, none⟩ 1 1 [.int .i64 (cnF gi nxi u).1.k, .string (cnF gi nxi u).1.nm, .int .i64 (cnF gi nxi u).1.l.v, .string (cnF gi nxi u).1.l.fn, .slice d1 (cnF gi nxi u).1.l.args.length e1, .int .i64 (cnF gi nxi u).1.r.v, .string (cnF gi nxi u).1.r.fn, .slice d2 (cnF gi nxi u).1.r.args.length e2, .slice d3 (cnF gi nxi u).1.kids.length e3] rfl rfl (news_of W3 _ 27) HONE.out (by unfold maxLen; omega) (by omega) (by have := HO3.out; simp; omega) ?_
              intro v' w6 hrow6 hg6 hb6
              obtain ⟨va6, vc6, rfl⟩ := row_slice hrow6
              obtain ⟨hab7, hon7, hc6, hf6⟩ := HPUSH.out _ w6 hrow6 hg6 hb6
              have s6 := HS6.out _ w6 hg6
              refine hKq.out _ _ s6 (fun hHeld => ?_)
              clear hKq Kq
              try simp only [Act.put, List.getElem_toArray, List.getElem_cons_succ, List.getElem_cons_zero, List.setIfInBounds_toArray, List.set_cons_zero, List.set_cons_succ]
              refine Lx.take_mk 7 (.pointer (some ⟨O, 8, none⟩)) rfl (by kernel_rfl) (by kernel_rfl) (by kernel_rfl) (fun _ _ _ h => by cases h.1) (Or.inl ⟨by rfl, ?_⟩) (by first | assumption | trivial) ?_
              · intro w hSw; (try dsimp only at hSw); go_simp
              try simp only [Act.put, List.setIfInBounds_toArray, List.set_cons_zero, List.set_cons_succ]
              refine wpAnyH_ready (rs := [8]) (by kernel_rfl) (by simp) ?_
              refine AllReadyH.cons rfl (fun Kq hKq => ?_) AllReadyH.nil
              go_simp
              have s7 : (w6.setCell ⟨O, 8, none⟩ (.slice va6 (i + 1) vc6)).heap[P2]? = some (.cells #[.pointer (some ⟨rb, 0, none⟩)] 112 (0, 0)) ∧ (w6.setCell ⟨O, 8, none⟩ (.slice va6 (i + 1) vc6)).heap[G]? = some (fbox u (.slice a1 u.l.args.length c1) (.slice a2 u.r.args.length c2) (.slice a3 u.kids.length c3)) := ⟨(Below.heap_setCell _ _ _ P2 HGO.out.2).trans s6.1, (Below.heap_setCell _ _ _ G HGO.out.1).trans s6.2⟩
              refine hKq.out _ _ s7 (fun hHeld => ?_)
              clear hKq Kq
              try simp only [Act.put, List.getElem_toArray, List.getElem_cons_succ, List.getElem_cons_zero, List.setIfInBounds_toArray, List.set_cons_zero, List.set_cons_succ]
              refine wpAnyH_done (by kernel_rfl) ?_ _
              have HI7 := HFIN.out _ _ hg6 hb6 hab7
              obtain ⟨W7, hW7⟩ : ∃ X, w6.setCell ⟨O, 8, none⟩ (.slice va6 (i + 1) vc6) = X := ⟨_, rfl⟩
              rw [hW7] at HI7
              rw [hW7]
              have HM7 := hidR HI7
              clear hab7 hon7 HPUSH hW7 s6 s7 HI7 HFIN
              refine ⟨rfl, ?_⟩
              go_wp2
              go_roundw
              case rel => exact ⟨i + 1, by go_num, by omega, HM7.out⟩
              case measure => simp [intOf]; omega
        · have hin : i = n := by omega
          subst hin
          rw [← HN.out, List.drop_length, cnF.cnFs] at hc1 hc2
          simp only [List.append_nil] at hc1
          have hfe : (cnF g nx f) = (.mk f.k (nmS nx) (rnT g f.l) (rnT g f.r) (zs.map Pc.f), nxi) := by
            rw [cnF_eq]
            simp only [HQ.out]
            rw [hc1]
            simp only [if_true]
            exact congrArg _ hc2.symm
          obtain ⟨V, hrun, hV, hVf, hoV⟩ := hkb.fin
          obtain ⟨⟨m0, m1, m2, m3, m4, m5, m6, m7, m8⟩, -⟩ := f_cells (f := .mk f.k (nmS nx) (rnT g f.l) (rnT g f.r) (zs.map Pc.f)) hV
          obtain ⟨o0, o1, o2, o3, o4, o5, o6, o7, o8⟩ := hkb.cells
          obtain ⟨sa1, sc1, rfl⟩ := hkb.al.slice
          obtain ⟨sa2, sc2, rfl⟩ := hkb.ar.slice
          have hrnV : RN V rb M (nxi : Nat) gi ci := ⟨(hoV.block rb (Array.getElem?_eq_some_iff.1 hrn.box).1 (by have := hkb.rM; simp; omega)).trans hrn.box, hrn.nm.same (hoV.block M hrn.nm.lt (by have := hkb.rM; simp; omega))⟩
          have hoW : Only [rb, M] w1 V := hkb.on.trans hoV (fun x hx => .inr (by have := HS2.out; simp at hx; omega))
          obtain ⟨zPV, zFV, -, -, hwV⟩ := HST.out V hoW
          have hcb := HBU.out.2.2
          have hszp := HSZ.out
          rw [← HN.out, List.drop_length, Fm.size.sizes] at hbu2
          have hVI : V.heap[I]? = some (.cells #[.int .i64 ((g f.nm).getD 0)] 3 (0, 0)) := (hoV.block I (Array.getElem?_eq_some_iff.1 hIb).1 (by have := HIR.out; simp; omega)).trans hIb
          have hmb : 16777217 < maxLen := by unfold maxLen; decide
          have hun := undo_any (_nm := f.nm) hVI zPV zFV hrnV hfs (show ci < maxLen by omega) (by have := HIR.out; have := HRL.out; exact ⟨by omega, by omega, by omega, hrM⟩)
          have HF : Hid (∀ w'', Nm w'' M (fput gi f.nm ((g f.nm).getD 0)) (ci + 1) → Only [M] V w'' → (w''.heap[P2 + 1 + 1]? = some (fbox (.mk f.k (nmS nx) (rnT g f.l) (rnT g f.r) (zs.map Pc.f)) (.slice sa1 (rnT g f.l).args.length sc1) (.slice sa2 (rnT g f.r).args.length sc2) (.slice va i vc))) ∧ RFP rb M g (cnF g nx f).2 (cnt + 2 * f.size.toNat) w (cnF g nx f).1 (.returned (fval (.mk f.k (nmS nx) (rnT g f.l) (rnT g f.r) (zs.map Pc.f)) (.slice sa1 (rnT g f.l).args.length sc1) (.slice sa2 (rnT g f.r).args.length sc2) (.slice va i vc))) w'') := fun w'' hU hoU => by
            have hrl := HRL.out
            refine ⟨(hoU.block (P2 + 2) (Array.getElem?_eq_some_iff.1 hV).1 (by simp; omega)).trans hV, ?_⟩
            rw [hfe]
            refine ⟨_, _, _, fput gi f.nm ((g f.nm).getD 0), rfl, hVf.keep hoU.size (fun j hj hl => ⟨by rw [HP2.out]; omega, hoU.block j hl (by simp; omega)⟩), ⟨(hoU.block rb (Array.getElem?_eq_some_iff.1 hrnV.box).1 (by simp; exact hrM)).trans hrnV.box, hU.more (by omega)⟩, fun s => ?_, hwV.trans hoU (fun r hr => .inl (by simp at hr ⊢; exact .inr hr))⟩
            rw [fput_getD]
            split
            · rename_i h; rw [h]
            · rename_i h; rw [hgi, fput_getD, if_neg h]
          have HUN := hidR hun
          clear hc1 hc2 hzl hkb hrn hgi hbu1 hbu2 hfe hV hVf hoV hrnV hoW zPV zFV hwV hcb hszp HI m0 m1 m2 m3 m4 m5 m6 m7 m8 hIb hIv hVI hun
          go_wp2_with (first | (refine wpList_store_run rfl 27 _ _ rfl (.pointer (some ⟨P2 + 1 + 1, 0, none⟩)) (fval (.mk f.k (nmS nx) (rnT g f.l) (rnT g f.r) (zs.map Pc.f)) (.slice sa1 (rnT g f.l).args.length sc1) (.slice sa2 (rnT g f.r).args.length sc2) (.slice va i vc)) rfl (by kernel_rfl) hrun ?_))
          refine leaves_cons (f := 74) (args := #[.pointer (some ⟨I, 0, none⟩), .pointer (some ⟨P2, 0, none⟩), .pointer (some ⟨P2 + 1, 0, none⟩)]) (by simp) (by simp [go_sem]) ?_
          refine HUN.out.mono ?_
          rintro e u' w'' ⟨rfl, rfl, hU, hoU⟩
          obtain ⟨hR9, hpost⟩ := HF.out w'' hU hoU
          obtain ⟨⟨c0, c1, c2, c3, c4, c5, c6, c7, c8⟩, -⟩ := f_cells hR9
          refine ⟨_, ?_, hpost⟩
          simp [results, Tryz.results38, go_sem, c0, c1, c2, c3, c4, c5, c6, c7, c8]
