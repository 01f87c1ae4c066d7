import Derived.Test.YtblfbmdnkgebdaaDN
import Derived.Test.YtblfbmdnkgebdaaDJ
import Derived.Test.YtblfbmdnkgebdaaHK

/-
  The term of a class: what lies in memory.
-/
namespace Go.Proofs.Ytblfbmdnkgebdaa.Dn
open Go.RowKit Go.Maps

def TermP (N : List Nd) (ρ : Nat → Nat) (i : Nat) (w : World) (e : Ending) (W' : World) : Prop := ∃ (t : T) (a : Option Addr) (c : Nat), e = .returned (tval t (.slice a t.args.length c)) ∧ ArgsP (fun b => w.heap.size ≤ b) W' (.slice a t.args.length c) t.args ∧ Below w.heap.size w W' ∧ Bn N ρ i t

structure TermI (w : World) (x y : Nat) (nd : List Value) (v : Int) (fn : ByteArray) (k : Nat) (vv : Value) (ps : List (T × Value)) (wr : World) : Prop where
  bel : Below w.heap.size w wr
  ord : w.heap.size < x ∧ x < y ∧ w.heap.size < wr.heap.size
  rb : wr.heap[w.heap.size]? = some (.cells #[.int .i64 0, .string ⟨#[]⟩, .slice none 0 0] 24 (0, 0))
  nb : wr.heap[x]? = some (.cells nd.toArray 65 (0, 0))
  tb : wr.heap[y]? = some (.cells #[.int .i64 v, .string fn, vv] 24 (0, 0))
  row : wr.ownsRow (y + 1) 24 3 vv k (flatT ps)
  len : ps.length = k
  sub : ∀ p ∈ ps, ArgsP (fun b => y < b ∧ vv.ownBlock ≠ some b) wr p.2 p.1.args

section
variable {w : World} {x y : Nat} {nd : List Value} {v : Int} {fn : ByteArray} {k : Nat} {vv : Value} {ps : List (T × Value)} {wr : World}

theorem TermI.next (h : TermI w x y nd v fn k vv ps wr) {Wd W5 W7 : World} (hd : Below wr.heap.size wr Wd) {u : T} {su v7 : Value} (hu : ArgsP (fun b => Wd.heap.size ≤ b) W5 su u.args) (h5 : Below Wd.heap.size Wd W5) {bl : Obj}
    (hrow : W7.ownsRow (y + 1) 24 3 v7 (k + 1) (flatT ps ++ [.int .i64 u.v, .string u.fn, su])) (hg7 : (W5.alloc bl).grownBy W7 vv.ownBlock) (hb7 : v7.ownBlock = vv.ownBlock ∨ v7.ownBlock = some (W5.alloc bl).heap.size) : TermI w x y nd v fn (k + 1) v7 (ps ++ [(u, su)]) (W7.setCell ⟨y, 2, none⟩ v7) := by
  obtain ⟨o1, o2, o3⟩ := h.ord
  have hy : y < wr.heap.size := (Array.getElem?_eq_some_iff.1 h.tb).1
  have hvv : ∀ g, vv.ownBlock = some g → y + 1 ≤ g ∧ g < wr.heap.size := fun g hg => by
    obtain ⟨h1, cq, hq⟩ := row_block h.row hg
    exact ⟨h1, (Array.getElem?_eq_some_iff.1 hq).1⟩
  obtain ⟨W6, hW6⟩ : ∃ X, W5.alloc bl = X := ⟨_, rfl⟩
  have b6 : Below W5.heap.size W5 W6 := by rw [← hW6]; exact below_box _ _
  rw [hW6] at hg7 hb7
  have h6s := b6.size
  have h5s := h5.size
  have hds := hd.size
  have o7 : Only (ob vv) W6 W7 := Only.of_grown hg7 (fun r hr => mem_ob.2 hr)
  have h7s := o7.size
  have o8 := only_setCell W7 y 2 v7
  have oE : Only (y :: ob vv) W5 (W7.setCell ⟨y, 2, none⟩ v7) :=
    ((Only.of_below (B := y :: ob vv) b6).trans o7 (fun r hr => .inl (List.mem_cons_of_mem _ hr))).trans o8 (fun r hr => .inl (by simp at hr; simp [hr]))
  have oW : Only (y :: ob vv) wr (W7.setCell ⟨y, 2, none⟩ v7) := ((Only.of_below (B := y :: ob vv) hd).trans (Only.of_below (B := []) h5) (by simp)).trans oE (fun r hr => .inl hr)
  have kp : ∀ b, b < wr.heap.size → b < y → (W7.setCell ⟨y, 2, none⟩ v7).heap[b]? = wr.heap[b]? := fun b hb hby => oW.block b hb (fun hm => by
    rcases List.mem_cons.1 hm with e | hm
    · omega
    · have := (hvv _ (mem_ob.1 hm)).1; omega)
  have v7ge : ∀ g, v7.ownBlock = some g → y + 1 ≤ g := fun g hg => (row_block hrow hg).1
  have v7ne : ∀ b, b < W5.heap.size → vv.ownBlock ≠ some b → v7.ownBlock ≠ some b := fun b hb h1 e => by
    rcases hb7 with e7 | e7
    · exact h1 (e7 ▸ e)
    · rw [e7] at e
      injection e with e
      omega
  have tb7 : W7.heap[y]? = some (.cells #[.int .i64 v, .string fn, vv] 24 (0, 0)) := by
    rw [o7.block _ (by omega) (fun e => by have := (hvv _ (mem_ob.1 e)).1; omega), b6.block _ (by omega), h5.block _ (by omega), hd.block _ hy]
    exact h.tb
  refine ⟨h.bel.trans (oW.below h.bel.size (fun r hr => ?_)), ⟨o1, o2, by have := oW.size; omega⟩, ?_, ?_, ?_, ?_, by simp [h.len], fun p hp => ?_⟩
  · rcases List.mem_cons.1 hr with e | hm
    · omega
    · have := (hvv _ (mem_ob.1 hm)).1; omega
  · rw [kp _ o3 (by omega)]; exact h.rb
  · rw [kp _ (Array.getElem?_eq_some_iff.1 h.nb).1 (by omega)]; exact h.nb
  · rw [heap_setCell_same W7 y 2 _ 24 v7 tb7]; rfl
  · rw [flatT_snoc]
    exact row_keep hrow (fun g hg => Below.heap_setCell _ _ _ g (by have := v7ge g hg; show g ≠ y; omega))
  · rcases List.mem_append.1 hp with hp | hp
    · refine (h.sub p hp).keep oW.size (fun b ⟨hb1, hb2⟩ hlt => ⟨⟨hb1, v7ne b (by omega) hb2⟩, oW.block b hlt (fun hm => ?_)⟩)
      rcases List.mem_cons.1 hm with e | hm
      · omega
      · exact hb2 (mem_ob.1 hm)
    · obtain rfl := List.mem_singleton.1 hp
      refine hu.keep oE.size (fun b hb1 hlt => ⟨⟨by omega, v7ne b hlt (fun e => by have := (hvv b e).2; omega)⟩, oE.block b hlt (fun hm => ?_)⟩)
      rcases List.mem_cons.1 hm with e | hm
      · omega
      · have := (hvv _ (mem_ob.1 hm)).2; omega

theorem TermI.last (h : TermI w x y nd v fn k vv ps wr) : ArgsP (fun b => w.heap.size ≤ b) (set3 wr w.heap.size 0 (.int .i64 v) (.string fn) vv) vv (ps.map (·.1)) ∧ Below w.heap.size w (set3 wr w.heap.size 0 (.int .i64 v) (.string fn) vv) := by
  obtain ⟨o1, o2, o3⟩ := h.ord
  refine ⟨argsP_of_row (base := y + 1) (n := k) (ps := ps) (row_keep h.row (fun g hg => set3_other _ _ _ _ _ _ g (by have := (row_block h.row hg).1; omega))) (by simp [h.len]) rfl (fun b hb => by omega) (fun p hp => ?_), set3_below h.bel _ 0 _ _ _ (Nat.le_refl _)⟩
  exact (h.sub p hp).keep (by rw [set3_size]; exact Nat.le_refl _) (fun b ⟨hb1, _⟩ _ => ⟨by omega, set3_other _ _ _ _ _ _ b (by omega)⟩)
end

end Go.Proofs.Ytblfbmdnkgebdaa.Dn

/-
  The term of a class.
-/
namespace Go.Proofs.Ytblfbmdnkgebdaa.Dn
open Go.RowKit Go.Maps

theorem TermI.start {W W9 : World} {x : Nat} {nd : List Value} {v : Int} {fn : ByteArray} (hb : Below W.heap.size W W9) (hx : W.heap.size < x) (rb : W9.heap[W.heap.size]? = some (.cells #[.int .i64 0, .string ⟨#[]⟩, .slice none 0 0] 24 (0, 0))) (nb : W9.heap[x]? = some (.cells nd.toArray 65 (0, 0))) : TermI W x W9.heap.size nd v fn 0 (.slice none 0 0) [] (W9.alloc (.cells #[.int .i64 v, .string fn, .slice none 0 0] 24)) := by
  have lx := (Array.getElem?_eq_some_iff.1 nb).1
  have b10 := below_box W9 (.cells #[.int .i64 v, .string fn, .slice none 0 0] 24)
  refine ⟨hb.trans (b10.mono hb.size), ⟨hx, lx, by simp; omega⟩, (b10.block _ (by omega)).trans rb, (b10.block _ lx).trans nb, (MapKept.heap_alloc _ _).1, World.ownsRow_nil _ _ _ _, rfl, fun p hp => (by simp at hp)⟩

set_option maxRecDepth 100000 in
set_option maxHeartbeats 16000000 in
theorem term_any {W1 : World} {B g c : Nat} {N : List Nd} {up ρ r : Nat → Nat} {K : Nat} {av : Nat → Value} (hN : Net W1 B g c N up av) (hU : Up N.length up ρ r K) (hT : Tp N ρ) (hA : ∀ (i : Nat) (d : Nd), N[i]? = some d → d.args.length ≤ 16) (f : Nat → Nat) (hf : ∀ (p : Nat) (d : Nd), N[p]? = some d → ρ p = p → ∀ a ∈ d.args, f (ρ a) < f p) : ∀ (m i : Nat) (W : World), f (ρ i) < m → i < N.length → Below W1.heap.size W1 W →
    Calls Try.prog 37 #[.pointer (some ⟨B, 0, none⟩), .int .i64 (i : Nat)] W (TermP N ρ i W) := by
  have HN : Hid (∀ Z, Below W1.heap.size W1 Z → Net Z B g c N up av) := fun Z hZ => hN.keep hZ
  have HU : Hid (Up N.length up ρ r K) := hU
  have HT : Hid (Tp N ρ) := hT
  have HF : Hid (∀ (p : Nat) (d : Nd), N[p]? = some d → ρ p = p → ∀ a ∈ d.args, f (ρ a) < f p) := hf
  have HA16 : Hid (∀ (i : Nat) (d : Nd), N[i]? = some d → d.args.length ≤ 16) := hA
  have HBe : Hid (∀ (i : Nat) (d : Nd), N[i]? = some d → ∀ a ∈ d.args, a < N.length) := fun i d hd a ha => by
    obtain ⟨hl, rfl⟩ := List.getElem?_eq_some_iff.1 hd
    exact hN.below i hl a ha
  clear hN hU hT hf hA
  intro m
  induction m with
  | zero => intro i W hm; exact absurd hm (Nat.not_lt_zero _)
  | succ m ih =>
  intro i W hm hi hb
  obtain ⟨p, hp⟩ : ∃ p, ρ i = p := ⟨_, rfl⟩
  have HP : Hid (ρ i = p ∧ ρ p = p ∧ p < N.length) := ⟨hp, by rw [← hp]; exact HT.out.idem i, by rw [← hp]; exact HT.out.lt i hi⟩
  have HM : Hid (f p < m + 1) := by show f p < m + 1; rw [← hp]; exact hm
  have HB1 : Hid (Below W1.heap.size W1 W) := hb
  have HI0 : Hid (i < N.length) := hi
  obtain ⟨Wa, hWa⟩ : ∃ X, W.alloc (.cells #[.int .i64 0, .string ⟨#[]⟩, .slice none 0 0] 24) = X := ⟨_, rfl⟩
  have ba : Below W.heap.size W Wa := by rw [← hWa]; exact below_box _ _
  have sa : Wa.heap.size = W.heap.size + 1 := by rw [← hWa]; simp
  have HWa : Hid (Below W.heap.size W Wa ∧ W.heap.size < Wa.heap.size ∧ Wa.heap[W.heap.size]? = some (.cells #[.int .i64 0, .string ⟨#[]⟩, .slice none 0 0] 24 (0, 0))) := ⟨ba, by omega, by rw [← hWa]; exact (MapKept.heap_alloc _ _).1⟩
  have HBa : Hid (Below W1.heap.size W1 Wa) := hb.trans (ba.mono hb.size)
  have HEa : Hid (W.alloc (.cells #[.int .i64 0, .string ⟨#[]⟩, .slice none 0 0] 24) = Wa) := hWa
  clear hm hi hb hp hWa ba sa
  have hpI : (p : Int) < (N.length : Int) := by have := HP.out.2.2; omega
  have hp0 : (0 : Int) ≤ (p : Int) := by omega
  obtain ⟨dp, hdp⟩ : ∃ d, N[p]? = some d := ⟨_, List.getElem?_eq_getElem HP.out.2.2⟩
  have HD : Hid (N[p]? = some dp) := hdp
  have H16 : Hid (dp.args.length ≤ 16) := HA16.out p dp hdp
  have hn1 := HN.out W1 (Below.refl _ _)
  obtain ⟨pa, pc, epa, hpm, har⟩ := hn1.arg hdp
  have HAr : Hid (∀ k (hk : k < dp.args.length), ∃ bb o, pa = some ⟨bb, o, none⟩ ∧ bb < W1.heap.size ∧ W1.cell? ⟨bb, o + k, none⟩ = some (.int .i64 (dp.args[k] : Nat))) := fun k hk => by
    obtain ⟨bb, o, q1, q2, _, _, q3⟩ := har k hk
    exact ⟨bb, o, q1, q2, q3⟩
  have ep : N[p]'HP.out.2.2 = dp := (List.getElem?_eq_some_iff.1 hdp).2
  obtain ⟨u1, hu1⟩ : ∃ u, up p = u := ⟨_, rfl⟩
  have HX : Hid (∀ Z, Below Wa.heap.size Wa Z → Z.cell? ⟨B, 0, none⟩ = some (.slice (some ⟨g, 0, none⟩) N.length c) ∧ Z.cell? ⟨g, p * 4, none⟩ = some (.int .i64 dp.v) ∧ Z.cell? ⟨g, p * 4 + 1, none⟩ = some (.string dp.fn) ∧ Z.cell? ⟨g, p * 4 + 2, none⟩ = some (.slice pa dp.args.length pc) ∧ Z.cell? ⟨g, p * 4 + 3, none⟩ = some (.int .i64 (u1 : Nat))) := fun Z hZ => by
    have hn := HN.out Z (HBa.out.trans (hZ.mono HBa.out.size))
    obtain ⟨k0, k1, k2, k3, _⟩ := hn.cells HP.out.2.2
    rw [ep] at k0 k1
    rw [epa] at k2
    rw [hu1] at k3
    exact ⟨hn.bcell.1, k0, k1, k2, k3⟩
  obtain ⟨Wd, hWd⟩ : ∃ X, Wa.drew = X := ⟨_, rfl⟩
  have hd : Below Wa.heap.size Wa Wd := by rw [← hWd]; exact (Below.refl _ Wa).drew
  have HDw : Hid (Below Wa.heap.size Wa Wd) := hd
  have h52 := top_any Wd (HN.out Wd (HBa.out.trans (hd.mono HBa.out.size))) HU.out i HI0.out
  rw [HP.out.1] at h52
  clear epa ep hu1 hdp hd har hn1
  go_enter Try.func37, Try.ntmps37
  go_wp2
  try rw [HEa.out]
  clear HEa
  refine wp_region_held_drew (S := fun Z => Below Wa.heap.size Wa Z) (by kernel_rfl) (by rw [hWd]; exact HDw.out) (fun hHeld => ?_)
  rw [hWd] at hHeld ⊢
  refine take_mk 0 (.pointer (some ⟨B, 0, none⟩)) rfl (by kernel_rfl) (by kernel_rfl) (by kernel_rfl) (fun _ _ _ h => h) (Or.inl ⟨by rfl, fun Z hZ => by go_simp⟩) (by assumption) ?_
  try simp only [Act.put, List.setIfInBounds_toArray, List.set_cons_zero, List.set_cons_succ]
  refine take_mk 1 (.pointer (some ⟨B, 0, none⟩)) rfl (by kernel_rfl) (by kernel_rfl) (by kernel_rfl) (fun _ _ _ h => h) (Or.inl ⟨by rfl, fun Z hZ => by go_simp⟩) (by assumption) ?_
  try simp only [Act.put, List.setIfInBounds_toArray, List.set_cons_zero, List.set_cons_succ]
  refine take_mk 2 (.pointer (some ⟨B, 0, none⟩)) rfl (by kernel_rfl) (by kernel_rfl) (by kernel_rfl) (fun _ _ _ h => h) (Or.inl ⟨by rfl, fun Z hZ => by go_simp⟩) (by assumption) ?_
  try simp only [Act.put, List.setIfInBounds_toArray, List.set_cons_zero, List.set_cons_succ]
  refine take_mk 3 (.slice (some ⟨g, 0, none⟩) N.length c) rfl (by kernel_rfl) (by kernel_rfl) (by kernel_rfl) (fun _ _ _ h => h) (Or.inl ⟨by rfl, fun Z hZ => by obtain ⟨cb, y0, y1, y2, y3⟩ := HX.out Z hZ; go_simp⟩) (by assumption) ?_
  try simp only [Act.put, List.setIfInBounds_toArray, List.set_cons_zero, List.set_cons_succ]
  refine take_mk 4 (.pointer (some ⟨B, 0, none⟩)) rfl (by kernel_rfl) (by kernel_rfl) (by kernel_rfl) (fun _ _ _ h => h) (Or.inl ⟨by rfl, fun Z hZ => by go_simp⟩) (by assumption) ?_
  try simp only [Act.put, List.setIfInBounds_toArray, List.set_cons_zero, List.set_cons_succ]
  refine take_mk 5 (.int .i64 (i : Nat)) rfl (by kernel_rfl) (by kernel_rfl) (by kernel_rfl) (fun _ _ _ h => h) (Or.inl ⟨by rfl, fun Z hZ => by go_simp⟩) (by assumption) ?_
  try simp only [Act.put, List.setIfInBounds_toArray, List.set_cons_zero, List.set_cons_succ]
  refine wpAnyH_ready (rs := [6, 9]) (by kernel_rfl) (by simp) (AllReadyH.cons (o := ⟨_, _, _, _, _, _⟩) rfl (fun K hK => ?_) (AllReadyH.cons (o := ⟨_, _, _, _, _, _⟩) rfl (fun K hK => ?_) AllReadyH.nil))
  · rw [if_pos (by rfl)]
    go_simp
    refine h52.mono ?_
    rintro e W2 ⟨rfl, b2⟩
    have S2 : Below Wa.heap.size Wa W2 := HDw.out.trans (b2.mono HDw.out.size)
    refine hK.out _ _ S2 (fun _ => ?_)
    clear hK K
    try simp only [Act.put, List.setIfInBounds_toArray, List.set_cons_zero, List.set_cons_succ]
    refine take_mk 7 (.pointer (some ⟨g, p * 4, none⟩)) rfl (by kernel_rfl) (by kernel_rfl) (by kernel_rfl) (fun _ _ _ h => h) (Or.inl ⟨by rfl, fun Z hZ => by go_simp⟩) (by assumption) ?_
    try simp only [Act.put, List.setIfInBounds_toArray, List.set_cons_zero, List.set_cons_succ]
    refine take_mk 8 (nval dp.v dp.fn (.slice pa dp.args.length pc) u1) rfl (by kernel_rfl) (by kernel_rfl) (by kernel_rfl) (fun _ _ _ h => h) (Or.inl ⟨by rfl, fun Z hZ => by obtain ⟨cb, y0, y1, y2, y3⟩ := HX.out Z hZ; go_simp⟩) (by assumption) ?_
    try simp only [Act.put, List.setIfInBounds_toArray, List.set_cons_zero, List.set_cons_succ]
    refine wpAnyH_ready (rs := [9]) (by kernel_rfl) (by simp) (AllReadyH.cons (o := ⟨_, _, _, _, _, _⟩) rfl (fun K hK => ?_) AllReadyH.nil)
    rw [if_pos (by rfl)]
    go_simp
    obtain ⟨n0, hn0⟩ : ∃ n, W2.heap.size = n := ⟨_, rfl⟩
    obtain ⟨V2, hV2⟩ : ∃ X, W2.alloc (.cells #[.int .i64 0, .string ⟨#[]⟩, .slice none 0 0, .int .i64 0] 65) = X := ⟨_, rfl⟩
    have q2 : Below W2.heap.size W2 V2 := by rw [← hV2]; exact below_box _ _
    have B2 : Below Wa.heap.size Wa V2 := S2.trans (q2.mono S2.size)
    have Z0 : V2.heap[n0]? = some (.cells #[.int .i64 0, .string ⟨#[]⟩, .slice none 0 0, .int .i64 0] 65 (0, 0)) := by rw [← hV2, ← hn0]; exact (MapKept.heap_alloc _ _).1
    have hxa : Wa.heap.size ≤ n0 := by have := S2.size; omega
    try rw [hV2]
    try rw [hn0]
    refine hK.out _ _ B2 (fun _ => ?_)
    clear hK K
    try simp only [Act.put, List.setIfInBounds_toArray, List.set_cons_zero, List.set_cons_succ]
    obtain ⟨W9, hrun, hx9, hon⟩ := agg_store 65 V2 n0 #[.int .i64 0, .string ⟨#[]⟩, .slice none 0 0, .int .i64 0] (ncs dp.v dp.fn (.slice pa dp.args.length pc) u1) Z0 rfl Try.info101z (ones4 _ _ _ _ _ _)
    have B9 : Below Wa.heap.size Wa W9 := B2.trans (hon.below B2.size (by simp; omega))
    refine wpAnyH_ready (rs := [10]) (by kernel_rfl) (by simp) (AllReadyH.cons (o := ⟨_, _, _, _, _, _⟩) rfl (fun K hK => ?_) AllReadyH.nil)
    rw [if_pos (by rfl)]
    refine wp_store_run 65 _ _ rfl (.pointer (some ⟨n0, 0, none⟩)) (nval dp.v dp.fn (.slice pa dp.args.length pc) u1) rfl rfl hrun ?_
    refine hK.out _ _ B9 (fun _ => ?_)
    clear hK K
    refine wpAnyH_done (by kernel_rfl) ?_ _
    try simp only [Act.put]
    have bW9 : Below W.heap.size W W9 := HWa.out.1.trans (B9.mono HWa.out.1.size)
    have rb9 := (B9.block _ (by have := HWa.out.2.1; omega)).trans HWa.out.2.2
    have hxn : W.heap.size < n0 := by have := HWa.out.2.1; omega
    clear S2 b2 q2 B2 B9 hrun hon Z0 hV2 hn0 hxa hHeld HX HDw h52
    have c0 : W9.cell? ⟨n0, 0, none⟩ = some (.int .i64 dp.v) := cell_at hx9 rfl
    have c1 : W9.cell? ⟨n0, 1, none⟩ = some (.string dp.fn) := cell_at hx9 rfl
    obtain ⟨y, hy⟩ : ∃ y, W9.heap.size = y := ⟨_, rfl⟩
    obtain ⟨W10, hW10⟩ : ∃ X, W9.alloc (.cells #[.int .i64 dp.v, .string dp.fn, .slice none 0 0] 24) = X := ⟨_, rfl⟩
    have H0 : Hid (TermI W n0 y (ncs dp.v dp.fn (.slice pa dp.args.length pc) u1) dp.v dp.fn 0 (.slice none 0 0) [] W10) := by
      have := TermI.start (v := dp.v) (fn := dp.fn) bW9 hxn rb9 hx9
      rw [hW10, hy] at this
      exact this
    have HEy : Hid (W9.heap.size = y ∧ W9.alloc (.cells #[.int .i64 dp.v, .string dp.fn, .slice none 0 0] 24) = W10) := ⟨hy, hW10⟩
    clear hy hW10 hx9 rb9 bW9 hxn
    go_wp2
    try rw [HEy.out.2]
    try rw [HEy.out.1]
    clear c0 c1 HEy
    go_loopw [7] (fun vi wr => ∃ k : Nat, vi = .int .i64 k ∧ k ≤ dp.args.length ∧ ∃ vv ps, Hid (TermI W n0 y (ncs dp.v dp.fn (.slice pa dp.args.length pc) u1) dp.v dp.fn k vv ps wr ∧ ∀ j (h1 : j < ps.length) (h2 : j < dp.args.length), Bn N ρ dp.args[j] ps[j].1)) (fun vi _ => dp.args.length - (intOf vi).toNat)
    case atStart => exact ⟨0, rfl, Nat.zero_le _, _, [], H0.out, fun j h1 => absurd h1 (by simp)⟩
    case round =>
      obtain ⟨k, rfl, hk, vv, ps, HI⟩ := hrel
      have cx : wr.cell? ⟨n0, 2, none⟩ = some (.slice pa dp.args.length pc) := cell_at HI.out.1.nb rfl
      by_cases hlt : k < dp.args.length
      · have hkI : (k : Int) < (dp.args.length : Int) := by omega
        have hk0 : (0 : Int) ≤ (k : Int) := by omega
        obtain ⟨bb, o, e1, hbb, ck⟩ := HAr.out k hlt
        subst e1
        obtain ⟨a, hka⟩ : ∃ a, dp.args[k] = a := ⟨_, rfl⟩
        rw [hka] at ck
        have hlt0 := hlt
        have HKa : Hid (dp.args[k]'hlt0 = a) := hka
        have ham : a ∈ dp.args := hka ▸ List.getElem_mem hlt
        have hal : a < N.length := HBe.out p dp HD.out a ham
        have hfa : f (ρ a) < m := by have h1 := HF.out p dp HD.out HP.out.2.1 a ham; have h2 := HM.out; omega
        obtain ⟨Wd, hWd⟩ : ∃ X, wr.drew = X := ⟨_, rfl⟩
        have hd : Below wr.heap.size wr Wd := by rw [← hWd]; exact (Below.refl _ wr).drew
        have hI := HI.out.1
        have hbW : Below W1.heap.size W1 wr := HB1.out.trans (hI.bel.mono HB1.out.size)
        have hbd : Below W1.heap.size W1 Wd := hbW.trans (hd.mono hbW.size)
        have hcall := ih a Wd hfa hal hbd
        obtain ⟨va, vc, rfl⟩ := row_slice hI.row
        have hord := hI.ord
        have hds := hd.size
        have hyl : y < wr.heap.size := (Array.getElem?_eq_some_iff.1 hI.tb).1
        have hvv : ∀ g', (Value.slice va k vc).ownBlock = some g' → y + 1 ≤ g' := fun g' hg => (row_block hI.row hg).1
        have HX : Hid (∀ Z, Only (ob (.slice va k vc)) Wd Z → Z.heap[y]? = some (.cells #[.int .i64 dp.v, .string dp.fn, .slice va k vc] 24 (0, 0)) ∧ Z.cell? ⟨n0, 2, none⟩ = some (.slice (some ⟨bb, o, none⟩) dp.args.length pc) ∧ Z.cell? ⟨bb, o + k, none⟩ = some (.int .i64 (a : Nat))) := fun Z hZ => by
          have hw1 := HB1.out.size
          refine ⟨?_, ?_, ?_⟩
          · rw [hZ.block _ (by omega) (fun hm => by have := hvv _ (mem_ob.1 hm); omega), hd.block _ hyl]; exact hI.tb
          · exact cell_at (by rw [hZ.block _ (by omega) (fun hm => by have := hvv _ (mem_ob.1 hm); omega), hd.block _ (by omega)]; exact hI.nb) rfl
          · exact ko hZ (by omega) (fun hm => by have := hvv _ (mem_ob.1 hm); omega) (kc hbd hbb ck)
        have R0 := row_keep hI.row (W' := Wd) (fun g' hg => by
          obtain ⟨_, cq, hq⟩ := row_block hI.row hg
          exact hd.block g' (Array.getElem?_eq_some_iff.1 hq).1)
        have HD2 : Hid (Below wr.heap.size wr Wd ∧ y + 1 ≤ Wd.heap.size) := ⟨hd, by omega⟩
        have HK16 : Hid (k < dp.args.length ∧ dp.args.length ≤ 16) := ⟨hlt, H16.out⟩
        have hHeld : Only (ob (.slice va k vc)) Wd Wd := Only.refl _ _
        obtain ⟨i0, hi0, hz0, hz1, hz2⟩ := info_parts Try.info24
        clear hI hd hbW hbd hvv hord hds hyl ck hbb hka ham hal hfa
        go_wp2
        refine wp_region_last 12 (S := fun Z => Only (ob (.slice va k vc)) Wd Z) (by kernel_rfl) ?_
        rw [hWd]
        refine wpLast_take 0 (.pointer (some ⟨y, 2, none⟩)) rfl (by kernel_rfl) (by kernel_rfl) (by kernel_rfl) (by kernel_rfl) (fun _ _ _ h => h) (Or.inl ⟨by rfl, fun Z hZ => by go_simp⟩) (by assumption) ?_
        try simp only [Act.put, List.setIfInBounds_toArray, List.set_cons_zero, List.set_cons_succ]
        refine wpLast_take 1 (.slice va k vc) rfl (by kernel_rfl) (by kernel_rfl) (by kernel_rfl) (by kernel_rfl) (fun _ _ _ h => h) (Or.inl ⟨by rfl, fun Z hZ => by obtain ⟨y0, y1, y2⟩ := HX.out Z hZ; have y3 := cell_at y0 (o := 2) rfl; go_simp⟩) (by assumption) ?_
        try simp only [Act.put, List.setIfInBounds_toArray, List.set_cons_zero, List.set_cons_succ]
        refine wpLast_take 2 (.pointer (some ⟨B, 0, none⟩)) rfl (by kernel_rfl) (by kernel_rfl) (by kernel_rfl) (by kernel_rfl) (fun _ _ _ h => h) (Or.inl ⟨by rfl, fun Z hZ => by go_simp⟩) (by assumption) ?_
        try simp only [Act.put, List.setIfInBounds_toArray, List.set_cons_zero, List.set_cons_succ]
        refine wpLast_take 3 (.pointer (some ⟨n0, 2, none⟩)) rfl (by kernel_rfl) (by kernel_rfl) (by kernel_rfl) (by kernel_rfl) (fun _ _ _ h => h) (Or.inl ⟨by rfl, fun Z hZ => by go_simp⟩) (by assumption) ?_
        try simp only [Act.put, List.setIfInBounds_toArray, List.set_cons_zero, List.set_cons_succ]
        refine wpLast_take 4 (.slice (some ⟨bb, o, none⟩) dp.args.length pc) rfl (by kernel_rfl) (by kernel_rfl) (by kernel_rfl) (by kernel_rfl) (fun _ _ _ h => h) (Or.inl ⟨by rfl, fun Z hZ => by obtain ⟨y0, y1, y2⟩ := HX.out Z hZ; go_simp⟩) (by assumption) ?_
        try simp only [Act.put, List.setIfInBounds_toArray, List.set_cons_zero, List.set_cons_succ]
        refine wpLast_take 5 (.int .i64 (k : Nat)) rfl (by kernel_rfl) (by kernel_rfl) (by kernel_rfl) (by kernel_rfl) (fun _ _ _ h => h) (Or.inl ⟨by rfl, fun Z hZ => by go_simp⟩) (by assumption) ?_
        try simp only [Act.put, List.setIfInBounds_toArray, List.set_cons_zero, List.set_cons_succ]
        refine wpLast_take 6 (.pointer (some ⟨bb, o + k, none⟩)) rfl (by kernel_rfl) (by kernel_rfl) (by kernel_rfl) (by kernel_rfl) (fun _ _ _ h => h) (Or.inl ⟨by rfl, fun Z hZ => by go_simp⟩) (by assumption) ?_
        try simp only [Act.put, List.setIfInBounds_toArray, List.set_cons_zero, List.set_cons_succ]
        refine wpLast_take 7 (.int .i64 (a : Nat)) rfl (by kernel_rfl) (by kernel_rfl) (by kernel_rfl) (by kernel_rfl) (fun _ _ _ h => h) (Or.inl ⟨by rfl, fun Z hZ => by obtain ⟨y0, y1, y2⟩ := HX.out Z hZ; go_simp⟩) (by assumption) ?_
        try simp only [Act.put, List.setIfInBounds_toArray, List.set_cons_zero, List.set_cons_succ]
        refine wpLast_one (i := 8) (o := ⟨_, _, _, _, _, _⟩) (by kernel_rfl) rfl (fun KK hK => ?_)
        rw [if_pos (by rfl)]
        go_simp
        refine hcall.mono ?_
        rintro e W5 ⟨u, ua, uc, rfl, hu5, b5, hbn5⟩
        have S5 : Only (ob (.slice va k vc)) Wd W5 := Only.of_below b5
        refine hK.out _ _ (fun _ => S5) ?_
        clear hK KK
        try simp only [Act.put, List.setIfInBounds_toArray, List.set_cons_zero, List.set_cons_succ]
        refine wpLast_one (i := 9) (o := ⟨_, _, _, _, _, _⟩) (by kernel_rfl) rfl (fun KK hK => ?_)
        rw [if_pos (by rfl)]
        go_simp
        obtain ⟨W6, hW6⟩ : ∃ X, W5.alloc (.cells #[.int .i64 u.v, .string u.fn, .slice ua u.args.length uc] 24) = X := ⟨_, rfl⟩
        have b6 : Below W5.heap.size W5 W6 := by rw [← hW6]; exact below_box _ _
        have n6 : W6.heap[W5.heap.size]? = some (.cells #[.int .i64 u.v, .string u.fn, .slice ua u.args.length uc] 24 (0, 0)) := by rw [← hW6]; exact (MapKept.heap_alloc _ _).1
        have S6 : Only (ob (.slice va k vc)) Wd W6 := S5.trans (Only.of_below (B := []) b6) (by simp)
        have R6 := row_keep R0 (W' := W6) (fun g' hg => by
          obtain ⟨_, cq, hq⟩ := row_block R0 hg
          have hl := (Array.getElem?_eq_some_iff.1 hq).1
          rw [b6.block g' (by have := b5.size; omega), b5.block g' hl])
        rw [hW6]
        refine hK.out _ _ (fun _ => S6) ?_
        clear hK KK
        try simp only [Act.put, List.setIfInBounds_toArray, List.set_cons_zero, List.set_cons_succ]
        refine wpLast_one (i := 10) (o := ⟨_, _, _, _, _, _⟩) (by kernel_rfl) rfl (fun KK hK => ?_)
        have hK16 := HK16.out
        have hd2 := HD2.out.2
        have h5s := b5.size
        have h6s := b6.size
        refine step_append_own W6 rfl (.tmp 30) (.tmp 38) 22 rfl (y + 1) 24 i0 _ 3 48 Try.underlying22 hi0 hz0 hz1 hz2 rfl (by decide) (.slice va k vc) k (flatT ps) rfl R6 ⟨W5.heap.size, 0, none⟩ 1 1 [.int .i64 u.v, .string u.fn, .slice ua u.args.length uc] rfl rfl (fun j u' hj => by rw [Addr.add_mid, Nat.zero_add]; exact cell_at n6 (by simpa using hj)) (by intro u' hu'; simp only [List.mem_cons, List.not_mem_nil, or_false] at hu'; rcases hu' with rfl | rfl | rfl <;> rfl) (by unfold maxLen; omega) (by omega) (by omega) ?_
        intro v7 W7 hrow7 hg7 hb7
        have S7 : Only (ob (.slice va k vc)) Wd W7 := S6.trans (Only.of_grown (B := ob (.slice va k vc)) hg7 (fun r hr => mem_ob.2 hr)) (fun r hr => .inl hr)
        refine hK.out _ _ (fun _ => S7) ?_
        clear hK KK
        try simp only [Act.put, List.setIfInBounds_toArray, List.set_cons_zero, List.set_cons_succ]
        refine wpLast_take 11 (.pointer (some ⟨y, 2, none⟩)) rfl (by kernel_rfl) (by kernel_rfl) (by kernel_rfl) (by kernel_rfl) (fun _ _ _ h => h) (Or.inl ⟨by rfl, fun Z hZ => by go_simp⟩) (by assumption) ?_
        try simp only [Act.put, List.setIfInBounds_toArray, List.set_cons_zero, List.set_cons_succ]
        obtain ⟨a7, c7, rfl⟩ := row_slice hrow7
        have HNx : Hid (TermI W n0 y (ncs dp.v dp.fn (.slice (some ⟨bb, o, none⟩) dp.args.length pc) u1) dp.v dp.fn (k + 1) (.slice a7 (k + 1) c7) (ps ++ [(u, .slice ua u.args.length uc)]) (W7.setCell ⟨y, 2, none⟩ (.slice a7 (k + 1) c7))) :=
          TermI.next (bl := .cells #[.int .i64 u.v, .string u.fn, .slice ua u.args.length uc] 24) HI.out.1 HD2.out.1 hu5 b5 hrow7 (by rw [hW6]; exact hg7) (by rw [hW6]; exact hb7)
        have HNb : Hid (∀ j (h1 : j < (ps ++ [(u, Value.slice ua u.args.length uc)]).length) (h2 : j < dp.args.length), Bn N ρ dp.args[j] (ps ++ [(u, Value.slice ua u.args.length uc)])[j].1) := fun j h1 h2 => by
          by_cases hj : j < ps.length
          · rw [List.getElem_append_left hj]
            exact HI.out.2 j hj h2
          · have hjk : j = k := by rw [List.length_append, List.length_singleton] at h1; have := HI.out.1.len; omega
            have e1 : (ps ++ [(u, Value.slice ua u.args.length uc)])[j] = (u, Value.slice ua u.args.length uc) := by
              have : j = ps.length := by have := HI.out.1.len; omega
              subst this
              simp
            rw [e1]
            subst hjk
            rw [HKa.out]
            exact hbn5
        clear hbn5
        obtain ⟨z0, _⟩ := HX.out W7 S7
        have y0 : W7.cell? ⟨y, 2, none⟩ = some (.slice va k vc) := cell_at z0 rfl
        have y1 : W7.frozen? ⟨y, 2, none⟩ = false := by simp [World.frozen?, z0]
        clear hrow7 hg7 hb7 S7 S6 S5 R6 R0 hu5 b5 b6 n6 hW6 hcall h5s h6s hd2 hHeld hK16 z0
        refine wpLast_one (i := 12) (o := ⟨_, _, _, _, _, _⟩) (by kernel_rfl) rfl (fun KK hK => ?_)
        rw [if_pos (by rfl)]
        go_simp
        refine hK.out _ _ (fun h => absurd h (by omega)) ?_
        clear hK KK
        refine wpLast_done (by kernel_rfl) ?_ _
        try simp only [Act.put]
        go_wp2
        go_roundw
        case rel => exact ⟨k + 1, by have := HK16.out; go_num, HK16.out.1, _, _, HNx.out, HNb.out⟩
        case measure => have := HK16.out; simp [intOf]; omega
      · have hkI : ¬ (k : Int) < (dp.args.length : Int) := by omega
        have hI := HI.out.1
        obtain ⟨va, vc, rfl⟩ := row_slice hI.row
        obtain ⟨⟨d0, d1, d2⟩, e0, e1, e2⟩ := box_facts hI.rb
        obtain ⟨⟨g0, g1, g2⟩, f0, f1, f2⟩ := box_facts hI.tb
        have HLast : Hid (ArgsP (fun b => W.heap.size ≤ b) (set3 wr W.heap.size 0 (.int .i64 dp.v) (.string dp.fn) (.slice va k vc)) (.slice va k vc) (ps.map (·.1)) ∧ Below W.heap.size W (set3 wr W.heap.size 0 (.int .i64 dp.v) (.string dp.fn) (.slice va k vc))) := hI.last
        have HLen : Hid ((ps.map (·.1)).length = k) := by show _ = _; simp [hI.len]
        have HBn : Hid (Bn N ρ i (.mk dp.v dp.fn (ps.map (·.1)))) := .mk i dp _ (by rw [HP.out.1]; exact HD.out) (by simp [hI.len]; omega) (fun j h1 h2 => by
          rw [List.getElem_map]
          exact HI.out.2 j (by simpa using h1) h2)
        clear hI HI
        go_wp2
        refine bodyPost_ret (v := tval (.mk dp.v dp.fn (ps.map (·.1))) (.slice va k vc)) (by simp [results, Try.results37, go_sem, *, T.v, T.fn]) rfl ?_
        refine ⟨.mk dp.v dp.fn (ps.map (·.1)), va, vc, ?_, ?_, HLast.out.2, HBn.out⟩
        · show _ = Ending.returned (tval _ (.slice va (ps.map (·.1)).length vc))
          rw [HLen.out]
        · show ArgsP _ _ (.slice va (ps.map (·.1)).length vc) (ps.map (·.1))
          rw [HLen.out]
          exact HLast.out.1
  · rw [if_pos (by rfl)]
    go_simp
    obtain ⟨n0, hn0⟩ : ∃ n, Wd.heap.size = n := ⟨_, rfl⟩
    obtain ⟨V1, hV1⟩ : ∃ X, Wd.alloc (.cells #[.int .i64 0, .string ⟨#[]⟩, .slice none 0 0, .int .i64 0] 65) = X := ⟨_, rfl⟩
    have q1 : Below Wd.heap.size Wd V1 := by rw [← hV1]; exact below_box _ _
    have B1 : Below Wa.heap.size Wa V1 := HDw.out.trans (q1.mono HDw.out.size)
    have Z1 : V1.heap[n0]? = some (.cells #[.int .i64 0, .string ⟨#[]⟩, .slice none 0 0, .int .i64 0] 65 (0, 0)) := by rw [← hV1, ← hn0]; exact (MapKept.heap_alloc _ _).1
    have hxa : Wa.heap.size ≤ n0 := by have := HDw.out.size; omega
    have h53 := top_any V1 (HN.out V1 (HBa.out.trans (B1.mono HBa.out.size))) HU.out i HI0.out
    rw [HP.out.1] at h53
    try rw [hV1]
    try rw [hn0]
    refine hK.out _ _ B1 (fun _ => ?_)
    clear hK K
    try simp only [Act.put, List.setIfInBounds_toArray, List.set_cons_zero, List.set_cons_succ]
    refine wpAnyH_ready (rs := [6]) (by kernel_rfl) (by simp) (AllReadyH.cons (o := ⟨_, _, _, _, _, _⟩) rfl (fun K hK => ?_) AllReadyH.nil)
    rw [if_pos (by rfl)]
    go_simp
    refine h53.mono ?_
    rintro e V2 ⟨rfl, b2⟩
    have B2 : Below Wa.heap.size Wa V2 := B1.trans (b2.mono B1.size)
    have Z0 : V2.heap[n0]? = some (.cells #[.int .i64 0, .string ⟨#[]⟩, .slice none 0 0, .int .i64 0] 65 (0, 0)) := (b2.block _ (Array.getElem?_eq_some_iff.1 Z1).1).trans Z1
    refine hK.out _ _ B2 (fun _ => ?_)
    clear hK K
    try simp only [Act.put, List.setIfInBounds_toArray, List.set_cons_zero, List.set_cons_succ]
    refine take_mk 7 (.pointer (some ⟨g, p * 4, none⟩)) rfl (by kernel_rfl) (by kernel_rfl) (by kernel_rfl) (fun _ _ _ h => h) (Or.inl ⟨by rfl, fun Z hZ => by go_simp⟩) (by assumption) ?_
    try simp only [Act.put, List.setIfInBounds_toArray, List.set_cons_zero, List.set_cons_succ]
    refine take_mk 8 (nval dp.v dp.fn (.slice pa dp.args.length pc) u1) rfl (by kernel_rfl) (by kernel_rfl) (by kernel_rfl) (fun _ _ _ h => h) (Or.inl ⟨by rfl, fun Z hZ => by obtain ⟨cb, y0, y1, y2, y3⟩ := HX.out Z hZ; go_simp⟩) (by assumption) ?_
    try simp only [Act.put, List.setIfInBounds_toArray, List.set_cons_zero, List.set_cons_succ]
    obtain ⟨W9, hrun, hx9, hon⟩ := agg_store 65 V2 n0 #[.int .i64 0, .string ⟨#[]⟩, .slice none 0 0, .int .i64 0] (ncs dp.v dp.fn (.slice pa dp.args.length pc) u1) Z0 rfl Try.info101z (ones4 _ _ _ _ _ _)
    have B9 : Below Wa.heap.size Wa W9 := B2.trans (hon.below B2.size (by simp; omega))
    refine wpAnyH_ready (rs := [10]) (by kernel_rfl) (by simp) (AllReadyH.cons (o := ⟨_, _, _, _, _, _⟩) rfl (fun K hK => ?_) AllReadyH.nil)
    rw [if_pos (by rfl)]
    refine wp_store_run 65 _ _ rfl (.pointer (some ⟨n0, 0, none⟩)) (nval dp.v dp.fn (.slice pa dp.args.length pc) u1) rfl rfl hrun ?_
    refine hK.out _ _ B9 (fun _ => ?_)
    clear hK K
    refine wpAnyH_done (by kernel_rfl) ?_ _
    try simp only [Act.put]
    have bW9 : Below W.heap.size W W9 := HWa.out.1.trans (B9.mono HWa.out.1.size)
    have rb9 := (B9.block _ (by have := HWa.out.2.1; omega)).trans HWa.out.2.2
    have hxn : W.heap.size < n0 := by have := HWa.out.2.1; omega
    clear b2 q1 B1 B2 B9 hrun hon Z0 Z1 hV1 hn0 hxa hHeld HX HDw h52 h53
    have c0 : W9.cell? ⟨n0, 0, none⟩ = some (.int .i64 dp.v) := cell_at hx9 rfl
    have c1 : W9.cell? ⟨n0, 1, none⟩ = some (.string dp.fn) := cell_at hx9 rfl
    obtain ⟨y, hy⟩ : ∃ y, W9.heap.size = y := ⟨_, rfl⟩
    obtain ⟨W10, hW10⟩ : ∃ X, W9.alloc (.cells #[.int .i64 dp.v, .string dp.fn, .slice none 0 0] 24) = X := ⟨_, rfl⟩
    have H0 : Hid (TermI W n0 y (ncs dp.v dp.fn (.slice pa dp.args.length pc) u1) dp.v dp.fn 0 (.slice none 0 0) [] W10) := by
      have := TermI.start (v := dp.v) (fn := dp.fn) bW9 hxn rb9 hx9
      rw [hW10, hy] at this
      exact this
    have HEy : Hid (W9.heap.size = y ∧ W9.alloc (.cells #[.int .i64 dp.v, .string dp.fn, .slice none 0 0] 24) = W10) := ⟨hy, hW10⟩
    clear hy hW10 hx9 rb9 bW9 hxn
    go_wp2
    try rw [HEy.out.2]
    try rw [HEy.out.1]
    clear c0 c1 HEy
    go_loopw [7] (fun vi wr => ∃ k : Nat, vi = .int .i64 k ∧ k ≤ dp.args.length ∧ ∃ vv ps, Hid (TermI W n0 y (ncs dp.v dp.fn (.slice pa dp.args.length pc) u1) dp.v dp.fn k vv ps wr ∧ ∀ j (h1 : j < ps.length) (h2 : j < dp.args.length), Bn N ρ dp.args[j] ps[j].1)) (fun vi _ => dp.args.length - (intOf vi).toNat)
    case atStart => exact ⟨0, rfl, Nat.zero_le _, _, [], H0.out, fun j h1 => absurd h1 (by simp)⟩
    case round =>
      obtain ⟨k, rfl, hk, vv, ps, HI⟩ := hrel
      have cx : wr.cell? ⟨n0, 2, none⟩ = some (.slice pa dp.args.length pc) := cell_at HI.out.1.nb rfl
      by_cases hlt : k < dp.args.length
      · have hkI : (k : Int) < (dp.args.length : Int) := by omega
        have hk0 : (0 : Int) ≤ (k : Int) := by omega
        obtain ⟨bb, o, e1, hbb, ck⟩ := HAr.out k hlt
        subst e1
        obtain ⟨a, hka⟩ : ∃ a, dp.args[k] = a := ⟨_, rfl⟩
        rw [hka] at ck
        have hlt0 := hlt
        have HKa : Hid (dp.args[k]'hlt0 = a) := hka
        have ham : a ∈ dp.args := hka ▸ List.getElem_mem hlt
        have hal : a < N.length := HBe.out p dp HD.out a ham
        have hfa : f (ρ a) < m := by have h1 := HF.out p dp HD.out HP.out.2.1 a ham; have h2 := HM.out; omega
        obtain ⟨Wd, hWd⟩ : ∃ X, wr.drew = X := ⟨_, rfl⟩
        have hd : Below wr.heap.size wr Wd := by rw [← hWd]; exact (Below.refl _ wr).drew
        have hI := HI.out.1
        have hbW : Below W1.heap.size W1 wr := HB1.out.trans (hI.bel.mono HB1.out.size)
        have hbd : Below W1.heap.size W1 Wd := hbW.trans (hd.mono hbW.size)
        have hcall := ih a Wd hfa hal hbd
        obtain ⟨va, vc, rfl⟩ := row_slice hI.row
        have hord := hI.ord
        have hds := hd.size
        have hyl : y < wr.heap.size := (Array.getElem?_eq_some_iff.1 hI.tb).1
        have hvv : ∀ g', (Value.slice va k vc).ownBlock = some g' → y + 1 ≤ g' := fun g' hg => (row_block hI.row hg).1
        have HX : Hid (∀ Z, Only (ob (.slice va k vc)) Wd Z → Z.heap[y]? = some (.cells #[.int .i64 dp.v, .string dp.fn, .slice va k vc] 24 (0, 0)) ∧ Z.cell? ⟨n0, 2, none⟩ = some (.slice (some ⟨bb, o, none⟩) dp.args.length pc) ∧ Z.cell? ⟨bb, o + k, none⟩ = some (.int .i64 (a : Nat))) := fun Z hZ => by
          have hw1 := HB1.out.size
          refine ⟨?_, ?_, ?_⟩
          · rw [hZ.block _ (by omega) (fun hm => by have := hvv _ (mem_ob.1 hm); omega), hd.block _ hyl]; exact hI.tb
          · exact cell_at (by rw [hZ.block _ (by omega) (fun hm => by have := hvv _ (mem_ob.1 hm); omega), hd.block _ (by omega)]; exact hI.nb) rfl
          · exact ko hZ (by omega) (fun hm => by have := hvv _ (mem_ob.1 hm); omega) (kc hbd hbb ck)
        have R0 := row_keep hI.row (W' := Wd) (fun g' hg => by
          obtain ⟨_, cq, hq⟩ := row_block hI.row hg
          exact hd.block g' (Array.getElem?_eq_some_iff.1 hq).1)
        have HD2 : Hid (Below wr.heap.size wr Wd ∧ y + 1 ≤ Wd.heap.size) := ⟨hd, by omega⟩
        have HK16 : Hid (k < dp.args.length ∧ dp.args.length ≤ 16) := ⟨hlt, H16.out⟩
        have hHeld : Only (ob (.slice va k vc)) Wd Wd := Only.refl _ _
        obtain ⟨i0, hi0, hz0, hz1, hz2⟩ := info_parts Try.info24
        clear hI hd hbW hbd hvv hord hds hyl ck hbb hka ham hal hfa
        go_wp2
        refine wp_region_last 12 (S := fun Z => Only (ob (.slice va k vc)) Wd Z) (by kernel_rfl) ?_
        rw [hWd]
        refine wpLast_take 0 (.pointer (some ⟨y, 2, none⟩)) rfl (by kernel_rfl) (by kernel_rfl) (by kernel_rfl) (by kernel_rfl) (fun _ _ _ h => h) (Or.inl ⟨by rfl, fun Z hZ => by go_simp⟩) (by assumption) ?_
        try simp only [Act.put, List.setIfInBounds_toArray, List.set_cons_zero, List.set_cons_succ]
        refine wpLast_take 1 (.slice va k vc) rfl (by kernel_rfl) (by kernel_rfl) (by kernel_rfl) (by kernel_rfl) (fun _ _ _ h => h) (Or.inl ⟨by rfl, fun Z hZ => by obtain ⟨y0, y1, y2⟩ := HX.out Z hZ; have y3 := cell_at y0 (o := 2) rfl; go_simp⟩) (by assumption) ?_
        try simp only [Act.put, List.setIfInBounds_toArray, List.set_cons_zero, List.set_cons_succ]
        refine wpLast_take 2 (.pointer (some ⟨B, 0, none⟩)) rfl (by kernel_rfl) (by kernel_rfl) (by kernel_rfl) (by kernel_rfl) (fun _ _ _ h => h) (Or.inl ⟨by rfl, fun Z hZ => by go_simp⟩) (by assumption) ?_
        try simp only [Act.put, List.setIfInBounds_toArray, List.set_cons_zero, List.set_cons_succ]
        refine wpLast_take 3 (.pointer (some ⟨n0, 2, none⟩)) rfl (by kernel_rfl) (by kernel_rfl) (by kernel_rfl) (by kernel_rfl) (fun _ _ _ h => h) (Or.inl ⟨by rfl, fun Z hZ => by go_simp⟩) (by assumption) ?_
        try simp only [Act.put, List.setIfInBounds_toArray, List.set_cons_zero, List.set_cons_succ]
        refine wpLast_take 4 (.slice (some ⟨bb, o, none⟩) dp.args.length pc) rfl (by kernel_rfl) (by kernel_rfl) (by kernel_rfl) (by kernel_rfl) (fun _ _ _ h => h) (Or.inl ⟨by rfl, fun Z hZ => by obtain ⟨y0, y1, y2⟩ := HX.out Z hZ; go_simp⟩) (by assumption) ?_
        try simp only [Act.put, List.setIfInBounds_toArray, List.set_cons_zero, List.set_cons_succ]
        refine wpLast_take 5 (.int .i64 (k : Nat)) rfl (by kernel_rfl) (by kernel_rfl) (by kernel_rfl) (by kernel_rfl) (fun _ _ _ h => h) (Or.inl ⟨by rfl, fun Z hZ => by go_simp⟩) (by assumption) ?_
        try simp only [Act.put, List.setIfInBounds_toArray, List.set_cons_zero, List.set_cons_succ]
        refine wpLast_take 6 (.pointer (some ⟨bb, o + k, none⟩)) rfl (by kernel_rfl) (by kernel_rfl) (by kernel_rfl) (by kernel_rfl) (fun _ _ _ h => h) (Or.inl ⟨by rfl, fun Z hZ => by go_simp⟩) (by assumption) ?_
        try simp only [Act.put, List.setIfInBounds_toArray, List.set_cons_zero, List.set_cons_succ]
        refine wpLast_take 7 (.int .i64 (a : Nat)) rfl (by kernel_rfl) (by kernel_rfl) (by kernel_rfl) (by kernel_rfl) (fun _ _ _ h => h) (Or.inl ⟨by rfl, fun Z hZ => by obtain ⟨y0, y1, y2⟩ := HX.out Z hZ; go_simp⟩) (by assumption) ?_
        try simp only [Act.put, List.setIfInBounds_toArray, List.set_cons_zero, List.set_cons_succ]
        refine wpLast_one (i := 8) (o := ⟨_, _, _, _, _, _⟩) (by kernel_rfl) rfl (fun KK hK => ?_)
        rw [if_pos (by rfl)]
        go_simp
        refine hcall.mono ?_
        rintro e W5 ⟨u, ua, uc, rfl, hu5, b5, hbn5⟩
        have S5 : Only (ob (.slice va k vc)) Wd W5 := Only.of_below b5
        refine hK.out _ _ (fun _ => S5) ?_
        clear hK KK
        try simp only [Act.put, List.setIfInBounds_toArray, List.set_cons_zero, List.set_cons_succ]
        refine wpLast_one (i := 9) (o := ⟨_, _, _, _, _, _⟩) (by kernel_rfl) rfl (fun KK hK => ?_)
        rw [if_pos (by rfl)]
        go_simp
        obtain ⟨W6, hW6⟩ : ∃ X, W5.alloc (.cells #[.int .i64 u.v, .string u.fn, .slice ua u.args.length uc] 24) = X := ⟨_, rfl⟩
        have b6 : Below W5.heap.size W5 W6 := by rw [← hW6]; exact below_box _ _
        have n6 : W6.heap[W5.heap.size]? = some (.cells #[.int .i64 u.v, .string u.fn, .slice ua u.args.length uc] 24 (0, 0)) := by rw [← hW6]; exact (MapKept.heap_alloc _ _).1
        have S6 : Only (ob (.slice va k vc)) Wd W6 := S5.trans (Only.of_below (B := []) b6) (by simp)
        have R6 := row_keep R0 (W' := W6) (fun g' hg => by
          obtain ⟨_, cq, hq⟩ := row_block R0 hg
          have hl := (Array.getElem?_eq_some_iff.1 hq).1
          rw [b6.block g' (by have := b5.size; omega), b5.block g' hl])
        rw [hW6]
        refine hK.out _ _ (fun _ => S6) ?_
        clear hK KK
        try simp only [Act.put, List.setIfInBounds_toArray, List.set_cons_zero, List.set_cons_succ]
        refine wpLast_one (i := 10) (o := ⟨_, _, _, _, _, _⟩) (by kernel_rfl) rfl (fun KK hK => ?_)
        have hK16 := HK16.out
        have hd2 := HD2.out.2
        have h5s := b5.size
        have h6s := b6.size
        refine step_append_own W6 rfl (.tmp 30) (.tmp 38) 22 rfl (y + 1) 24 i0 _ 3 48 Try.underlying22 hi0 hz0 hz1 hz2 rfl (by decide) (.slice va k vc) k (flatT ps) rfl R6 ⟨W5.heap.size, 0, none⟩ 1 1 [.int .i64 u.v, .string u.fn, .slice ua u.args.length uc] rfl rfl (fun j u' hj => by rw [Addr.add_mid, Nat.zero_add]; exact cell_at n6 (by simpa using hj)) (by intro u' hu'; simp only [List.mem_cons, List.not_mem_nil, or_false] at hu'; rcases hu' with rfl | rfl | rfl <;> rfl) (by unfold maxLen; omega) (by omega) (by omega) ?_
        intro v7 W7 hrow7 hg7 hb7
        have S7 : Only (ob (.slice va k vc)) Wd W7 := S6.trans (Only.of_grown (B := ob (.slice va k vc)) hg7 (fun r hr => mem_ob.2 hr)) (fun r hr => .inl hr)
        refine hK.out _ _ (fun _ => S7) ?_
        clear hK KK
        try simp only [Act.put, List.setIfInBounds_toArray, List.set_cons_zero, List.set_cons_succ]
        refine wpLast_take 11 (.pointer (some ⟨y, 2, none⟩)) rfl (by kernel_rfl) (by kernel_rfl) (by kernel_rfl) (by kernel_rfl) (fun _ _ _ h => h) (Or.inl ⟨by rfl, fun Z hZ => by go_simp⟩) (by assumption) ?_
        try simp only [Act.put, List.setIfInBounds_toArray, List.set_cons_zero, List.set_cons_succ]
        obtain ⟨a7, c7, rfl⟩ := row_slice hrow7
        have HNx : Hid (TermI W n0 y (ncs dp.v dp.fn (.slice (some ⟨bb, o, none⟩) dp.args.length pc) u1) dp.v dp.fn (k + 1) (.slice a7 (k + 1) c7) (ps ++ [(u, .slice ua u.args.length uc)]) (W7.setCell ⟨y, 2, none⟩ (.slice a7 (k + 1) c7))) :=
          TermI.next (bl := .cells #[.int .i64 u.v, .string u.fn, .slice ua u.args.length uc] 24) HI.out.1 HD2.out.1 hu5 b5 hrow7 (by rw [hW6]; exact hg7) (by rw [hW6]; exact hb7)
        have HNb : Hid (∀ j (h1 : j < (ps ++ [(u, Value.slice ua u.args.length uc)]).length) (h2 : j < dp.args.length), Bn N ρ dp.args[j] (ps ++ [(u, Value.slice ua u.args.length uc)])[j].1) := fun j h1 h2 => by
          by_cases hj : j < ps.length
          · rw [List.getElem_append_left hj]
            exact HI.out.2 j hj h2
          · have hjk : j = k := by rw [List.length_append, List.length_singleton] at h1; have := HI.out.1.len; omega
            have e1 : (ps ++ [(u, Value.slice ua u.args.length uc)])[j] = (u, Value.slice ua u.args.length uc) := by
              have : j = ps.length := by have := HI.out.1.len; omega
              subst this
              simp
            rw [e1]
            subst hjk
            rw [HKa.out]
            exact hbn5
        clear hbn5
        obtain ⟨z0, _⟩ := HX.out W7 S7
        have y0 : W7.cell? ⟨y, 2, none⟩ = some (.slice va k vc) := cell_at z0 rfl
        have y1 : W7.frozen? ⟨y, 2, none⟩ = false := by simp [World.frozen?, z0]
        clear hrow7 hg7 hb7 S7 S6 S5 R6 R0 hu5 b5 b6 n6 hW6 hcall h5s h6s hd2 hHeld hK16 z0
        refine wpLast_one (i := 12) (o := ⟨_, _, _, _, _, _⟩) (by kernel_rfl) rfl (fun KK hK => ?_)
        rw [if_pos (by rfl)]
        go_simp
        refine hK.out _ _ (fun h => absurd h (by omega)) ?_
        clear hK KK
        refine wpLast_done (by kernel_rfl) ?_ _
        try simp only [Act.put]
        go_wp2
        go_roundw
        case rel => exact ⟨k + 1, by have := HK16.out; go_num, HK16.out.1, _, _, HNx.out, HNb.out⟩
        case measure => have := HK16.out; simp [intOf]; omega
      · have hkI : ¬ (k : Int) < (dp.args.length : Int) := by omega
        have hI := HI.out.1
        obtain ⟨va, vc, rfl⟩ := row_slice hI.row
        obtain ⟨⟨d0, d1, d2⟩, e0, e1, e2⟩ := box_facts hI.rb
        obtain ⟨⟨g0, g1, g2⟩, f0, f1, f2⟩ := box_facts hI.tb
        have HLast : Hid (ArgsP (fun b => W.heap.size ≤ b) (set3 wr W.heap.size 0 (.int .i64 dp.v) (.string dp.fn) (.slice va k vc)) (.slice va k vc) (ps.map (·.1)) ∧ Below W.heap.size W (set3 wr W.heap.size 0 (.int .i64 dp.v) (.string dp.fn) (.slice va k vc))) := hI.last
        have HLen : Hid ((ps.map (·.1)).length = k) := by show _ = _; simp [hI.len]
        have HBn : Hid (Bn N ρ i (.mk dp.v dp.fn (ps.map (·.1)))) := .mk i dp _ (by rw [HP.out.1]; exact HD.out) (by simp [hI.len]; omega) (fun j h1 h2 => by
          rw [List.getElem_map]
          exact HI.out.2 j (by simpa using h1) h2)
        clear hI HI
        go_wp2
        refine bodyPost_ret (v := tval (.mk dp.v dp.fn (ps.map (·.1))) (.slice va k vc)) (by simp [results, Try.results37, go_sem, *, T.v, T.fn]) rfl ?_
        refine ⟨.mk dp.v dp.fn (ps.map (·.1)), va, vc, ?_, ?_, HLast.out.2, HBn.out⟩
        · show _ = Ending.returned (tval _ (.slice va (ps.map (·.1)).length vc))
          rw [HLen.out]
        · show ArgsP _ _ (.slice va (ps.map (·.1)).length vc) (ps.map (·.1))
          rw [HLen.out]
          exact HLast.out.1

end Go.Proofs.Ytblfbmdnkgebdaa.Dn
