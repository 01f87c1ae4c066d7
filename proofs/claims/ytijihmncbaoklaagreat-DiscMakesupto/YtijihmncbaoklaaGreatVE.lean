import Derived.Test.YtijihmncbaoklaaGreatVA
import Derived.Test.YtijihmncbaoklaaGreatVC
import Derived.Test.YtijihmncbaoklaaGreatUN
import Derived.Test.YtijihmncbaoklaaGreatTB
import Derived.OrdersIn
import Derived.Laws.IdiomRangeMap

/-
  routeOf.
-/
namespace Go.Proofs.YtijihmncbaoklaaGreat
open Go.RowKit Go.Maps Go.Shelf

attribute [local go_sem] Oper.semAt_some

theorem lit3r (w : World) (x y z : Value) : ∀ j u, [x, y, z][j]? = some u → (w.alloc (.cells #[x, y, z] 120)).cell? ((⟨w.heap.size, 0, none⟩ : Addr).add j) = some u := by
  intro j u hj
  rw [Addr.add_mid, Nat.zero_add, cell_of_row _ _ _ _ 120 (0, 0) (MapKept.heap_alloc w _).1]
  simpa using hj
theorem one3r {s : ByteArray} {a b : Int} : ∀ u ∈ [Value.string s, .int .i64 a, .int .i64 b], u.oneCell' = true := by simp [Value.oneCell']

theorem fsize_ge : ∀ l : List T, l.length ≤ fsize l
  | [] => Nat.zero_le _
  | a :: r => by have h1 := fsize_ge r; have h2 := pre_pos a; rw [fsize_cons, List.length_cons]; omega

/-- What routeOf answers. -/
def RouP (t : T) (W : World) (e : Ending) (W' : World) : Prop :=
  ∃ g rc, e = .returned (.slice (some ⟨g, 0, none⟩) t.pre.length rc) ∧ RouteAt W' g t.pre ∧ t.pre.length ≤ rc ∧ W.heap.size ≤ g ∧ Below W.heap.size W W'

set_option maxRecDepth 100000 in
set_option maxHeartbeats 8000000 in
theorem routeOf_any (D : Nat → Prop) (t : T) (sl : Value) (w : World) (ha : ArgsP D w sl t.args) (hD : ∀ b, D b → b < w.heap.size) (hl : t.pre.length ≤ 4000) :
    Calls Tryz.prog 35 #[tval t sl] w (RouP t w) := by
  refine (callsIn_wide (n := 9)).1 ?_
  obtain ⟨a, c, rfl, hc, hm⟩ := ha.slice'
  obtain ⟨W2, hW2⟩ : ∃ X, (w.alloc (tbox t (.slice a t.args.length c))).alloc (.cells #[.slice none 0 0] 89) = X := ⟨_, rfl⟩
  have b2 : Below w.heap.size w W2 := by rw [← hW2]; exact below_box2 _ _ _
  have s2 : W2.heap.size = w.heap.size + 1 + 1 := by rw [← hW2]; simp
  have t2 : W2.heap[w.heap.size]? = some (.cells #[.int .i64 t.v, .string t.fn, .slice a t.args.length c] 32 (0, 0)) := by
    rw [← hW2, Below.heap_alloc _ _ _ (by simp)]
    exact (MapKept.heap_alloc _ _).1
  have r2 : W2.heap[w.heap.size + 1]? = some (.cells #[.slice none 0 0] 89 (0, 0)) := by
    have := (MapKept.heap_alloc (w.alloc (tbox t (.slice a t.args.length c))) (.cells #[.slice none 0 0] 89)).1
    rw [World.size_alloc] at this
    rw [← hW2]; exact this
  obtain ⟨y0, y1, y2⟩ : W2.cell? ⟨w.heap.size, 0, none⟩ = some (.int .i64 t.v) ∧ W2.cell? ⟨w.heap.size, 1, none⟩ = some (.string t.fn) ∧ W2.cell? ⟨w.heap.size, 2, none⟩ = some (.slice a t.args.length c) := ⟨cell_store (vs := [_, _, _]) t2 rfl, cell_store (vs := [_, _, _]) t2 rfl, cell_store (vs := [_, _, _]) t2 rfl⟩
  obtain ⟨W3, hW3⟩ : ∃ X, W2.alloc (tbox t (.slice a t.args.length c)) = X := ⟨_, rfl⟩
  have b3 : Below W2.heap.size W2 W3 := by rw [← hW3]; exact below_box _ _
  have s3 : W3.heap.size = w.heap.size + 1 + 1 + 1 := by rw [← hW3]; simp [s2]
  have t3 : W3.heap[w.heap.size + 1 + 1]? = some (.cells [Value.int .i64 t.v, .string t.fn, .slice a t.args.length c].toArray 32 (0, 0)) := by
    have := (MapKept.heap_alloc W2 (tbox t (.slice a t.args.length c))).1
    rw [s2] at this
    rw [← hW3]; exact this
  have b03 : Below w.heap.size w W3 := b2.trans (b3.mono b2.size)
  have hRI : RIx w [] [] W3 := ⟨.slice none 0 0, (b3.block _ (by omega)).trans r2, World.ownsRow_nil _ _ _ _, by simp, by simp [Value.ownBlock], b03, by omega⟩
  have HAa := hid ha
  have HDd := hid hD
  have HL := hid hl
  have HB3 : Hid (Below w.heap.size w W3 ∧ W3.heap.size = w.heap.size + 1 + 1 + 1) := ⟨b03, s3⟩
  obtain ⟨i0, hi0, hz0, hz1, hz2⟩ := info_parts Tryz.info120
  clear b2 t2 r2 b3 ha hD hl
  refine callsIn_of_wp_marks Tryz.func35 rfl trivial ?_ rfl
  simp only [Tryz.ntmps35, List.size_toArray, List.length_cons, List.length_nil, Nat.reduceAdd, Nat.reduceSub, Array.replicate_succ, Array.replicate_zero, List.push_toArray, List.append_toArray, List.nil_append, List.cons_append]
  gi_upto_region 2 with fail
  try rw [hW2]
  gi_wp2_with fail
  refine ⟨trivial, (callsIn_wide.2 (dparts_any t (.slice a t.args.length c) W2)).mono ?_⟩
  rintro e w' ⟨rfl, rfl⟩
  rw [hW3, s2]
  clear hW3 hW2 y0 y1 y2 s2
  gi_wp2
  refine range_g (iv := pv1) (Ok := fun p sl => ArgsP D w sl p.args) (D := D) (nv := 1) (w0 := w) (all := t.pre) (E0 := []) (gf := 82) (lb := #[.pointer (some ⟨w.heap.size + 1 + 1, 0, none⟩)]) 9 rfl (enters_of Tryz.func82 (by kernel_rfl) rfl) rfl (fun _ _ => rfl) (fun b hb => by have := HDd.out b hb; omega)
    (fun V hV => iterp_any D w (w.heap.size + 1 + 1) t _ V (fun b hb => (hV.block b (by have := HDd.out b hb; omega)).trans (b03.block b (HDd.out b hb))) (fun b hb => by have := HDd.out b hb; have := hV.size; omega) ((hV.block _ (by omega)).trans t3) HAa.out)
    (RIx w) (fun _ _ _ => False) (RIx.abide w) (fun _ _ _ _ _ _ h => h.elim) hRI (fun E pre V h r hr => by obtain ⟨_, h⟩ := h; exact (h.low r hr).2)
    (fun p sl a' V => ∃ k pa pc, sl = .slice pa p.args.length pc ∧ a' = { tmps := #[tval t (.slice a t.args.length c), .pointer (some ⟨w.heap.size, 0, none⟩), .slice none 0 0, .pointer (some ⟨w.heap.size + 1, 0, none⟩), .pointer (some ⟨k, 0, none⟩), undef, undef, .agg #[.int .i64 t.v, .string t.fn, .slice a t.args.length c], .func (.func 82) #[] #[.pointer (some ⟨w.heap.size + 1 + 1, 0, none⟩)], tval p sl, undef, undef, undef, undef, undef, undef, undef, undef, undef, undef, undef, undef, undef, undef, undef, undef, undef, undef, undef, undef, undef, undef, undef, undef, undef, undef, undef, undef, undef, undef, undef, undef, undef, undef, undef], defers := [] } ∧ V.heap[k]? = some (.cells #[.int .i64 p.v, .string p.fn, sl] 32 (0, 0)))
    (fun p sl a' V l r o h hl => by
      obtain ⟨k, pa, pc, e1, e2, e3⟩ := h
      exact ⟨k, pa, pc, e1, e2, (World.putObj_heap_other (fun e => by rw [e, hl] at e3; cases e3)).trans e3⟩)
    ?assign ?body ?done ?stop
  case assign =>
    intro l p sl V K hok hK
    obtain ⟨pa, pc, rfl⟩ := hok.slice
    gi_wp2
    exact hK _ _ (below_box _ _) ⟨_, pa, pc, rfl, rfl, (MapKept.heap_alloc _ _).1⟩
  case body =>
    rintro l E pre p sl a' V ⟨v, hi⟩ hl hw hok ⟨rest, hrest⟩ ⟨k, pa, pc, rfl, rfl, hk⟩
    have hcs : pre.length < 4000 := by
      have h1 := congrArg List.length hrest
      have h2 := HL.out
      simp at h1
      omega
    obtain ⟨ka, kb, rfl⟩ := rowB_form hi.row
    obtain ⟨Vd, hVd⟩ : ∃ X, V.drew = X := ⟨_, rfl⟩
    have bd : Below V.heap.size V Vd := by rw [← hVd]; exact (Below.refl _ V).drew
    have hd : RI w E (.slice ka pre.length kb) pre Vd := hi.grow bd
    have hkl : k < V.heap.size := (Array.getElem?_eq_some_iff.1 hk).1
    have hkd := (bd.block k hkl).trans hk
    obtain ⟨x0, x1, x2⟩ : Vd.cell? ⟨k, 0, none⟩ = some (.int .i64 p.v) ∧ Vd.cell? ⟨k, 1, none⟩ = some (.string p.fn) ∧ Vd.cell? ⟨k, 2, none⟩ = some (.slice pa p.args.length pc) := ⟨cell_store (vs := [_, _, _]) hkd rfl, cell_store (vs := [_, _, _]) hkd rfl, cell_store (vs := [_, _, _]) hkd rfl⟩
    have d3 := hd.b1.cell
    obtain ⟨n, hn⟩ : ∃ n, pre.length = n := ⟨_, rfl⟩
    have HS : Hid (∀ Z, Calls Tryz.prog 55 #[tval p (.slice pa p.args.length pc)] Z fun e w' => e = .returned (.agg #[.string p.fn, .int .i64 (p.args.length : Nat)]) ∧ Below Z.heap.size Z w') := fun Z => symbolOf_any p pa pc Z
    have HC : Hid (∀ Z, Below Vd.heap.size Vd Z → Z.cell? ⟨w.heap.size + 1, 0, none⟩ = some (.slice ka n kb) ∧ (Z.alloc (.cells #[.string p.fn, .int .i64 (p.args.length : Nat), .int .i64 0] 120)).cell? ⟨w.heap.size + 1, 0, none⟩ = some (.slice ka n kb)) := fun Z hZ => by
      rw [← hn]
      exact ⟨(hd.grow hZ).b1.cell, ((hd.grow hZ).grow (below_box Z _)).b1.cell⟩
    have HR : Hid (∀ Z, Below Vd.heap.size Vd Z → (Z.alloc (.cells #[.string p.fn, .int .i64 (p.args.length : Nat), .int .i64 0] 120)).ownsRow (w.heap.size + 3) 120 3 (.slice ka n kb) n (flS pre) ∧ w.heap.size + 3 ≤ (Z.alloc (.cells #[.string p.fn, .int .i64 (p.args.length : Nat), .int .i64 0] 120)).heap.size) := fun Z hZ => by
      have h3 := (hd.grow hZ).grow (below_box Z (.cells #[.string p.fn, .int .i64 (p.args.length : Nat), .int .i64 0] 120))
      have h4 := h3.row
      rw [hn] at h4
      exact ⟨h4, h3.size⟩
    have HI : Hid (RI w E (.slice ka pre.length kb) pre V ∧ RI w E (.slice ka pre.length kb) pre Vd) := ⟨hi, hd⟩
    have fin : ∀ W2, Below Vd.heap.size Vd W2 → ∀ v' w3, w3.ownsRow (w.heap.size + 3) 120 3 v' (n + 1) (flS pre ++ [.string p.fn, .int .i64 (p.args.length : Nat), .int .i64 0]) → (W2.alloc (.cells #[.string p.fn, .int .i64 (p.args.length : Nat), .int .i64 0] 120)).grownBy w3 (Value.slice ka n kb).ownBlock → (v'.ownBlock = (Value.slice ka n kb).ownBlock ∨ v'.ownBlock = some (W2.alloc (.cells #[.string p.fn, .int .i64 (p.args.length : Nat), .int .i64 0] 120)).heap.size) →
        (w3.cell? ⟨w.heap.size + 1, 0, none⟩ = some (.slice ka n kb) ∧ w3.frozen? ⟨w.heap.size + 1, 0, none⟩ = false) ∧ Hid (KeptD D E V (w3.setCell ⟨w.heap.size + 1, 0, none⟩ v') ∧ RIx w E (pre ++ [p]) (w3.setCell ⟨w.heap.size + 1, 0, none⟩ v')) := by
      intro W2 hb2 v' w3 hown hg hat
      have hbb : Below V.heap.size V (W2.alloc (.cells #[.string p.fn, .int .i64 (p.args.length : Nat), .int .i64 0] 120)) := (bd.trans (hb2.mono bd.size)).trans ((below_box W2 _).mono (Nat.le_trans bd.size hb2.size))
      have h3 := HI.out.1.grow hbb
      rw [← hn] at hown hg hat ⊢
      obtain ⟨hcf, hD1, hE1, hs1, h4⟩ := h3.push p v' w3 hown hg hat
      refine ⟨hcf, ⟨Nat.le_trans hbb.size hs1, fun b hb => (hD1 b (HDd.out b hb)).trans (hbb.block b (by have := HDd.out b hb; have := HI.out.1.size; omega)), fun r hr => (hE1 r hr).trans (hbb.block r (HI.out.1.low r hr).2)⟩, _, h4⟩
    rw [hn] at d3 hcs
    clear hi hd hrest hok hw bd hk hkd hkl hn
    gi_wp2
    refine wpIn_region_any (by kernel_rfl) ?_
    try (change wpAnyIn _ _ _ _ _ _ _ _ _ (World.drew _))
    rw [hVd]
    refine wpAnyIn_ready (rs := [0, 1]) (by kernel_rfl) (by simp) ?_
    refine AllReadyIn.cons rfl (fun K hK => ?_) ?_
    · skip
      go_simp
      refine hK _ _ ?_
      clear hK K
      refine wpAnyIn_ready (rs := [1]) (by kernel_rfl) (by simp) ?_
      refine AllReadyIn.cons rfl (fun K hK => ?_) AllReadyIn.nil
      go_simp
      refine hK _ _ ?_
      clear hK K
      refine wpAnyIn_ready (rs := [2]) (by kernel_rfl) (by simp) ?_
      refine AllReadyIn.cons rfl (fun K hK => ?_) AllReadyIn.nil
      go_simp
      refine ⟨trivial, (CallsIn.inRound l (callsIn_wide.2 (HS.out _))).mono ?_⟩
      rintro e W2 ⟨rfl, hb2⟩
      obtain ⟨k1, k2⟩ := HC.out W2 hb2
      refine hK _ _ ?_
      clear hK K
      refine wpAnyIn_ready (rs := [3]) (by kernel_rfl) (by simp) ?_
      refine AllReadyIn.cons rfl (fun K hK => ?_) AllReadyIn.nil
      go_simp
      refine hK _ _ ?_
      clear hK K
      refine wpAnyIn_ready (rs := [4]) (by kernel_rfl) (by simp) ?_
      refine AllReadyIn.cons rfl (fun K hK => ?_) AllReadyIn.nil
      go_simp
      refine hK _ _ ?_
      clear hK K
      refine wpAnyIn_ready (rs := [5]) (by kernel_rfl) (by simp) ?_
      refine AllReadyIn.cons rfl (fun K hK => ?_) AllReadyIn.nil
      refine stepIn_append_at _ rfl _ _ 89 rfl (w.heap.size + 3) 120 i0 _ 3 32 Tryz.underlying89 hi0 hz0 hz1 hz2 rfl (by decide) _ _ _ rfl (HR.out W2 hb2).1 ⟨W2.heap.size, 0, none⟩ 1 1 [.string p.fn, .int .i64 (p.args.length : Nat), .int .i64 0] rfl rfl (lit3r _ _ _ _) one3r (by unfold maxLen; omega) (by omega) (HR.out W2 hb2).2 ?_
      intro v2 w3 hown hg hat
      obtain ⟨⟨f1, f2⟩, HF⟩ := fin W2 hb2 v2 w3 hown hg hat
      obtain ⟨a2, cap2, rfl⟩ := rowB_form hown
      clear hown hg hat k1 k2
      refine hK _ _ ?_
      clear hK K
      refine wpAnyIn_ready (rs := [6]) (by kernel_rfl) (by simp) ?_
      refine AllReadyIn.cons rfl (fun K hK => ?_) AllReadyIn.nil
      go_simp
      refine hK _ _ ?_
      clear hK K
      refine wpAnyIn_done (by kernel_rfl) ?_ _
      first | exact HF.out | (gi_wp2; exact HF.out)
    refine AllReadyIn.cons rfl (fun K hK => ?_) AllReadyIn.nil
    go_simp
    refine hK _ _ ?_
    clear hK K
    refine wpAnyIn_ready (rs := [0, 2]) (by kernel_rfl) (by simp) ?_
    refine AllReadyIn.cons rfl (fun K hK => ?_) ?_
    · skip
      go_simp
      refine hK _ _ ?_
      clear hK K
      refine wpAnyIn_ready (rs := [2]) (by kernel_rfl) (by simp) ?_
      refine AllReadyIn.cons rfl (fun K hK => ?_) AllReadyIn.nil
      go_simp
      refine ⟨trivial, (CallsIn.inRound l (callsIn_wide.2 (HS.out _))).mono ?_⟩
      rintro e W2 ⟨rfl, hb2⟩
      obtain ⟨k1, k2⟩ := HC.out W2 hb2
      refine hK _ _ ?_
      clear hK K
      refine wpAnyIn_ready (rs := [3]) (by kernel_rfl) (by simp) ?_
      refine AllReadyIn.cons rfl (fun K hK => ?_) AllReadyIn.nil
      go_simp
      refine hK _ _ ?_
      clear hK K
      refine wpAnyIn_ready (rs := [4]) (by kernel_rfl) (by simp) ?_
      refine AllReadyIn.cons rfl (fun K hK => ?_) AllReadyIn.nil
      go_simp
      refine hK _ _ ?_
      clear hK K
      refine wpAnyIn_ready (rs := [5]) (by kernel_rfl) (by simp) ?_
      refine AllReadyIn.cons rfl (fun K hK => ?_) AllReadyIn.nil
      refine stepIn_append_at _ rfl _ _ 89 rfl (w.heap.size + 3) 120 i0 _ 3 32 Tryz.underlying89 hi0 hz0 hz1 hz2 rfl (by decide) _ _ _ rfl (HR.out W2 hb2).1 ⟨W2.heap.size, 0, none⟩ 1 1 [.string p.fn, .int .i64 (p.args.length : Nat), .int .i64 0] rfl rfl (lit3r _ _ _ _) one3r (by unfold maxLen; omega) (by omega) (HR.out W2 hb2).2 ?_
      intro v2 w3 hown hg hat
      obtain ⟨⟨f1, f2⟩, HF⟩ := fin W2 hb2 v2 w3 hown hg hat
      obtain ⟨a2, cap2, rfl⟩ := rowB_form hown
      clear hown hg hat k1 k2
      refine hK _ _ ?_
      clear hK K
      refine wpAnyIn_ready (rs := [6]) (by kernel_rfl) (by simp) ?_
      refine AllReadyIn.cons rfl (fun K hK => ?_) AllReadyIn.nil
      go_simp
      refine hK _ _ ?_
      clear hK K
      refine wpAnyIn_done (by kernel_rfl) ?_ _
      first | exact HF.out | (gi_wp2; exact HF.out)
    refine AllReadyIn.cons rfl (fun K hK => ?_) AllReadyIn.nil
    go_simp
    refine ⟨trivial, (CallsIn.inRound l (callsIn_wide.2 (HS.out _))).mono ?_⟩
    rintro e W2 ⟨rfl, hb2⟩
    obtain ⟨k1, k2⟩ := HC.out W2 hb2
    refine hK _ _ ?_
    clear hK K
    refine wpAnyIn_ready (rs := [0, 3]) (by kernel_rfl) (by simp) ?_
    refine AllReadyIn.cons rfl (fun K hK => ?_) ?_
    · skip
      go_simp
      refine hK _ _ ?_
      clear hK K
      refine wpAnyIn_ready (rs := [3]) (by kernel_rfl) (by simp) ?_
      refine AllReadyIn.cons rfl (fun K hK => ?_) AllReadyIn.nil
      go_simp
      refine hK _ _ ?_
      clear hK K
      refine wpAnyIn_ready (rs := [4]) (by kernel_rfl) (by simp) ?_
      refine AllReadyIn.cons rfl (fun K hK => ?_) AllReadyIn.nil
      go_simp
      refine hK _ _ ?_
      clear hK K
      refine wpAnyIn_ready (rs := [5]) (by kernel_rfl) (by simp) ?_
      refine AllReadyIn.cons rfl (fun K hK => ?_) AllReadyIn.nil
      refine stepIn_append_at _ rfl _ _ 89 rfl (w.heap.size + 3) 120 i0 _ 3 32 Tryz.underlying89 hi0 hz0 hz1 hz2 rfl (by decide) _ _ _ rfl (HR.out W2 hb2).1 ⟨W2.heap.size, 0, none⟩ 1 1 [.string p.fn, .int .i64 (p.args.length : Nat), .int .i64 0] rfl rfl (lit3r _ _ _ _) one3r (by unfold maxLen; omega) (by omega) (HR.out W2 hb2).2 ?_
      intro v2 w3 hown hg hat
      obtain ⟨⟨f1, f2⟩, HF⟩ := fin W2 hb2 v2 w3 hown hg hat
      obtain ⟨a2, cap2, rfl⟩ := rowB_form hown
      clear hown hg hat k1 k2
      refine hK _ _ ?_
      clear hK K
      refine wpAnyIn_ready (rs := [6]) (by kernel_rfl) (by simp) ?_
      refine AllReadyIn.cons rfl (fun K hK => ?_) AllReadyIn.nil
      go_simp
      refine hK _ _ ?_
      clear hK K
      refine wpAnyIn_done (by kernel_rfl) ?_ _
      first | exact HF.out | (gi_wp2; exact HF.out)
    refine AllReadyIn.cons rfl (fun K hK => ?_) AllReadyIn.nil
    go_simp
    refine hK _ _ ?_
    clear hK K
    refine wpAnyIn_ready (rs := [0, 4]) (by kernel_rfl) (by simp) ?_
    refine AllReadyIn.cons rfl (fun K hK => ?_) ?_
    · skip
      go_simp
      refine hK _ _ ?_
      clear hK K
      refine wpAnyIn_ready (rs := [4]) (by kernel_rfl) (by simp) ?_
      refine AllReadyIn.cons rfl (fun K hK => ?_) AllReadyIn.nil
      go_simp
      refine hK _ _ ?_
      clear hK K
      refine wpAnyIn_ready (rs := [5]) (by kernel_rfl) (by simp) ?_
      refine AllReadyIn.cons rfl (fun K hK => ?_) AllReadyIn.nil
      refine stepIn_append_at _ rfl _ _ 89 rfl (w.heap.size + 3) 120 i0 _ 3 32 Tryz.underlying89 hi0 hz0 hz1 hz2 rfl (by decide) _ _ _ rfl (HR.out W2 hb2).1 ⟨W2.heap.size, 0, none⟩ 1 1 [.string p.fn, .int .i64 (p.args.length : Nat), .int .i64 0] rfl rfl (lit3r _ _ _ _) one3r (by unfold maxLen; omega) (by omega) (HR.out W2 hb2).2 ?_
      intro v2 w3 hown hg hat
      obtain ⟨⟨f1, f2⟩, HF⟩ := fin W2 hb2 v2 w3 hown hg hat
      obtain ⟨a2, cap2, rfl⟩ := rowB_form hown
      clear hown hg hat k1 k2
      refine hK _ _ ?_
      clear hK K
      refine wpAnyIn_ready (rs := [6]) (by kernel_rfl) (by simp) ?_
      refine AllReadyIn.cons rfl (fun K hK => ?_) AllReadyIn.nil
      go_simp
      refine hK _ _ ?_
      clear hK K
      refine wpAnyIn_done (by kernel_rfl) ?_ _
      first | exact HF.out | (gi_wp2; exact HF.out)
    refine AllReadyIn.cons rfl (fun K hK => ?_) AllReadyIn.nil
    go_simp
    refine hK _ _ ?_
    clear hK K
    refine wpAnyIn_ready (rs := [0]) (by kernel_rfl) (by simp) ?_
    refine AllReadyIn.cons rfl (fun K hK => ?_) AllReadyIn.nil
    go_simp
    refine hK _ _ ?_
    clear hK K
    refine wpAnyIn_ready (rs := [5]) (by kernel_rfl) (by simp) ?_
    refine AllReadyIn.cons rfl (fun K hK => ?_) AllReadyIn.nil
    refine stepIn_append_at _ rfl _ _ 89 rfl (w.heap.size + 3) 120 i0 _ 3 32 Tryz.underlying89 hi0 hz0 hz1 hz2 rfl (by decide) _ _ _ rfl (HR.out W2 hb2).1 ⟨W2.heap.size, 0, none⟩ 1 1 [.string p.fn, .int .i64 (p.args.length : Nat), .int .i64 0] rfl rfl (lit3r _ _ _ _) one3r (by unfold maxLen; omega) (by omega) (HR.out W2 hb2).2 ?_
    intro v2 w3 hown hg hat
    obtain ⟨⟨f1, f2⟩, HF⟩ := fin W2 hb2 v2 w3 hown hg hat
    obtain ⟨a2, cap2, rfl⟩ := rowB_form hown
    clear hown hg hat k1 k2
    refine hK _ _ ?_
    clear hK K
    refine wpAnyIn_ready (rs := [6]) (by kernel_rfl) (by simp) ?_
    refine AllReadyIn.cons rfl (fun K hK => ?_) AllReadyIn.nil
    go_simp
    refine hK _ _ ?_
    clear hK K
    refine wpAnyIn_done (by kernel_rfl) ?_ _
    first | exact HF.out | (gi_wp2; exact HF.out)
  case done =>
    rintro Dd E V hDd ⟨v, hi⟩ hDE hK
    obtain ⟨g, rc, rfl, hrc, hg3, hgl, hgE, hF⟩ := Fil.start hi
    have hLl := HL.out
    have hDg : Dd ≠ g := fun e => hgE (e ▸ hDE)
    have hs3 := HB3.out.2
    obtain ⟨L, hL⟩ : ∃ L, t.pre = L := ⟨_, rfl⟩
    have hdrop : ∀ i (h : i < L.length), ∃ rest, L.drop i = (L[i]).pre ++ rest := by subst hL; exact pre_drop t
    have hpost : ∀ Z, Fil V Z g L 0 → RouP t w (.returned (.slice (some ⟨g, 0, none⟩) L.length rc)) (Z.putObj Dd (.deferred none)) := fun Z hZ => by
      subst hL
      refine ⟨g, rc, rfl, RouteAt.keep (W := Z) ⟨Nat.lt_of_lt_of_le hgl hZ.only.size, fun i hi' => ?_⟩ (by simp) (World.putObj_heap_other hDg.symm), hrc, by omega, ?_⟩
      · obtain ⟨q0, q1, _, q3⟩ := hZ.cells i hi'
        exact ⟨q0, q1, q3 (Nat.zero_le _)⟩
      · refine hi.bel.trans ⟨hZ.only.os, hZ.only.tape, hZ.only.output, by simpa using hZ.only.size, fun k hk => (World.putObj_heap_other (by omega)).trans (hZ.only.block k (by have := hi.size; omega) (by simp; omega))⟩
    have HP : Hid (∀ Z, Fil V Z g L 0 → RouP t w (.returned (.slice (some ⟨g, 0, none⟩) L.length rc)) (Z.putObj Dd (.deferred none))) := hpost
    have HBx : Hid (∀ Z, Only [g] V Z → Z.cell? ⟨w.heap.size + 1, 0, none⟩ = some (.slice (some ⟨g, 0, none⟩) L.length rc) ∧ Z.heap[Dd]? = some (.deferred (some []))) := fun Z hZ => by
      subst hL
      have hsz := hi.size
      exact ⟨Boxed.cell ((hZ.block _ (by omega) (by simp; omega)).trans hi.b1), (hZ.block Dd (hi.low Dd hDE).2 (by simpa using hDg)).trans hK⟩
    have c1 := (HBx.out V (Only.refl _ _)).1
    rw [hL] at hF hrc hLl
    have HF := hid hF
    have HDr := hid hdrop
    clear hi hF hpost hdrop hK hgE hRI t3 b03 hL HAa HDd HL
    gi_wp2
    gi_loopw [5] (fun i wr => ∃ (k : Nat) (z : Int), k ≤ L.length ∧ i = .int .i64 z ∧ Hid (z = (k : Int) - 1) ∧ Hid (Fil V wr g L k)) (fun i _ => (intOf i + 1).toNat)
    case atStart => exact ⟨L.length, _, Nat.le_refl _, rfl, by show _ = _; go_num, HF.out⟩
    case round =>
      obtain ⟨k, z, hk, rfl, hz, hf⟩ := hrel
      obtain ⟨wo, hwo⟩ : ∃ X, X = wr := ⟨_, rfl⟩
      subst hwo
      obtain ⟨cb, cD⟩ := HBx.out wo hf.out.only
      cases k with
      | zero =>
        have hz' : z = -1 := by have := hz.out; simpa using this
        subst hz'
        gi_wp2
        refine ⟨by simp, .inl ⟨_, _, rfl, run_takeDeferred cD, ?_⟩⟩
        refine ⟨_, results_tmp rfl _ _ _, ?_⟩
        exact HP.out wo hf.out
      | succ j =>
        have hz' : z = (j : Int) := by have := hz.out; push_cast at this; omega
        subst hz'
        have hj : j < L.length := by omega
        obtain ⟨q0, q1, ⟨zq, q2⟩, _⟩ := hf.out.cells j hj
        have hge : decide ((0 : Int) ≤ (j : Int)) = true := by simp
        obtain ⟨p, hp⟩ : ∃ p, L[j] = p := ⟨_, rfl⟩
        obtain ⟨rest, hdr⟩ := HDr.out j hj
        rw [hp] at q0 q1 hdr
        have HJ : Hid (L.drop j = p.pre ++ rest ∧ L[j] = p) := ⟨hdr, hp⟩
        have hpl : p.args.length ≤ 4000 := by
          have h1 := congrArg List.length hdr
          have h2 := fsize_ge p.args
          rw [List.length_drop, List.length_append, fsize_all] at h1
          omega
        have hfz := hf.out.froz (j * 3 + 2)
        clear hdr hp
        gi_wp2
        gi_loopw [6, 31] (fun b q wr => ∃ (m : Nat) (B : Nat), m ≤ p.args.length ∧ b = .int .i64 (B : Nat) ∧ q = .int .i64 (m : Nat) ∧ Hid (j + 1 + fsize (p.args.take m) = B) ∧ wr = wo) (fun _ q _ => p.args.length - (intOf q).toNat)
        case atStart => exact ⟨0, j + 1, Nat.zero_le _, by go_num, rfl, rfl, rfl⟩
        case round =>
          obtain ⟨m, B, hm, rfl, rfl, hB, hw⟩ := hrel
          subst hw
          by_cases hlt : m < p.args.length
          · obtain ⟨hBl, hBe⟩ := args_at HJ.out.1 hlt
            have hBj : j + 1 ≤ B := by have := hB.out; omega
            obtain ⟨B', hB'⟩ : ∃ B', B + (p.args[m]).pre.length = B' := ⟨_, rfl⟩
            have HB2 : Hid (j + 1 + fsize (p.args.take (m + 1)) = B') := by show _ = _; rw [fsize_take hlt, ← hB', ← hB.out]; omega
            have hcell : wr.cell? ⟨g, B * 3 + 2, none⟩ = some (.int .i64 (B' : Nat)) ∧ B < L.length := by
              have h0 := hB.out
              subst h0
              obtain ⟨_, _, _, r3⟩ := hf.out.cells _ hBl
              refine ⟨?_, hBl⟩
              rw [r3 hBj, hBe, hB']
            obtain ⟨hc2, hBL⟩ := hcell
            clear hBe hBl hB'
            gi_wp2
            refine ⟨⟨m + 1, B', by omega, rfl, by go_num, HB2, trivial⟩, by simp [intOf]; omega⟩
          · have hBB : B = j + (L[j]).pre.length := by
              rw [HJ.out.2, fsize_all, ← hB.out, List.take_of_length_le (by omega)]
              omega
            have hst := hf.out.step hj
            rw [← hBB] at hst
            have HST := hid hst
            clear hst hBB
            gi_wp2
            refine ⟨⟨j, _, by omega, rfl, by show _ = _; go_num, HST⟩, ?_⟩
            simp only [intOf]
            go_num
  case stop =>
    rintro Dd E pre V _ h
    exact h.elim

end Go.Proofs.YtijihmncbaoklaaGreat

/-
  Generals: what its loops keep.
-/
namespace Go.Proofs.YtijihmncbaoklaaGreat
open Go.RowKit Go.Maps Go.Shelf

theorem ids_inj {es : List Kpt} (h : (es.map (·.1)).Nodup) {a b : Kpt} (ha : a ∈ es) (hb : b ∈ es) (e : a.1 = b.1) : a = b := by
  induction es with
  | nil => cases ha
  | cons x r ih =>
    rw [List.map_cons, List.nodup_cons] at h
    rcases List.mem_cons.1 ha with h1 | h1
    · rcases List.mem_cons.1 hb with h2 | h2
      · rw [h1, h2]
      · exact (h.1 (List.mem_map.2 ⟨b, h2, by rw [← e, h1]⟩)).elim
    · rcases List.mem_cons.1 hb with h2 | h2
      · exact (h.1 (List.mem_map.2 ⟨a, h1, by rw [e, h2]⟩)).elim
      · exact ih h.2 h1 h2

/-- A hit in memory: of a kept term that is more general, with its binds; the blocks from n0 to n1 hold them. -/
def HitAt (w0 : World) (es : List Kpt) (t : T) (E : List Nat) (v : Value) (h : HE) (W : World) : Prop :=
  ∃ e ∈ es, e.1 = h.1 ∧ ∃ τ ks, mres e.2.1 t = some τ ∧ RiseT τ ks ∧ ∃ n0 n1, w0.heap.size ≤ n0 ∧ n1 ≤ W.heap.size ∧ (∀ r ∈ E, ¬ (n0 ≤ r ∧ r < n1)) ∧ (∀ g, v.ownBlock = some g → ¬ (n0 ≤ g ∧ g < n1)) ∧ BIn n0 n1 W h.val (listB τ ks)

/-- While hits are collected: S tells which kept terms were looked at. -/
structure HIs (w0 : World) (Bh : Nat) (es : List Kpt) (t : T) (E : List Nat) (S : Kpt → Prop) (v : Value) (hs : List HE) (W : World) : Prop where
  bx : Boxed W Bh 44 v
  row : W.ownsRow w0.heap.size 57 2 v hs.length (flH hs)
  only : Only [Bh] w0 W
  low : ∀ r ∈ E, w0.heap.size ≤ r ∧ r < W.heap.size
  bh : Bh < w0.heap.size
  mine : ∀ g, v.ownBlock = some g → g ∉ E
  hit : ∀ h ∈ hs, HitAt w0 es t E v h W
  ids : ∀ z, z ∈ hs.map (·.1) ↔ ∃ e ∈ es, e.1 = z ∧ S e ∧ mres e.2.1 t ≠ none
  nd : (hs.map (·.1)).Nodup

section
variable {w0 : World} {Bh : Nat} {es : List Kpt} {t : T} {E : List Nat} {S : Kpt → Prop} {v : Value} {hs : List HE} {W W' : World}

theorem HIs.start (hb : Boxed w0 Bh 44 (.slice none 0 0)) (hS : ∀ e ∈ es, ¬ S e) : HIs w0 Bh es t [] S (.slice none 0 0) [] w0 :=
  ⟨hb, World.ownsRow_nil _ _ _ _, Only.refl _ _, by simp, hb.lt, by simp [Value.ownBlock], by simp, fun z => ⟨fun h => by simp at h, fun ⟨e, he, _, hs, _⟩ => absurd hs (hS e he)⟩, by simp⟩

theorem HIs.kept (h : HIs w0 Bh es t E S v hs W) {E' : List Nat} {row : Option Nat} (hg : W.grownBy W' row) (hr : ∀ r, row = some r → r ∈ E) (hE : ∀ r ∈ E', r ∈ E ∨ (W.heap.size ≤ r ∧ r < W'.heap.size)) : HIs w0 Bh es t E' S v hs W' := by
  have hs := h.only.size
  have hgs := hg.size
  have hbh := h.bh
  have blk : ∀ k, k < w0.heap.size → W'.heap[k]? = W.heap[k]? := fun k hk => hg.block k (by omega) (fun e => by have := (h.low k (hr k e.symm)).1; omega)
  refine ⟨(blk _ hbh).trans h.bx, row6_keep h.row (fun g hgv => hg.block g (h.row.lt g hgv).2 (fun e => h.mine g hgv (hr g e.symm))), ⟨hg.os.trans h.only.os, hg.tape.trans h.only.tape, hg.output.trans h.only.output, by omega, fun k hk hn => (blk k hk).trans (h.only.block k hk hn)⟩, fun r hr' => ?_, hbh, fun g hgv hge => ?_, fun x hx => ?_, h.ids, h.nd⟩
  · rcases hE r hr' with h' | h'
    · exact ⟨(h.low r h').1, Nat.lt_of_lt_of_le (h.low r h').2 hg.size⟩
    · exact ⟨by omega, h'.2⟩
  · have hlt := (h.row.lt g hgv).2
    rcases hE g hge with h' | h'
    · exact h.mine g hgv h'
    · omega
  · obtain ⟨e, he, h1, τ, ks, h2, h3, n0, n1, a1, a2, a3, a4, a5⟩ := h.hit x hx
    refine ⟨e, he, h1, τ, ks, h2, h3, n0, n1, a1, by omega, fun r hr' hn => ?_, a4, a5.keep (fun k k1 k2 => hg.block k (by omega) (fun e' => a3 k (hr k e'.symm) ⟨k1, k2⟩))⟩
    rcases hE r hr' with h' | h'
    · exact a3 r h' hn
    · omega

theorem HIs.grow (h : HIs w0 Bh es t E S v hs W) (hb : Below W.heap.size W W') : HIs w0 Bh es t E S v hs W' :=
  h.kept (row := none) ⟨hb.os, hb.tape, hb.output, hb.size, fun k hk _ => hb.block k hk⟩ (fun _ e => by cases e) (fun _ hr => .inl hr)

theorem HIs.less (h : HIs w0 Bh es t E S v hs W) {E' : List Nat} (hE : ∀ r ∈ E', r ∈ E) : HIs w0 Bh es t E' S v hs W :=
  h.kept (row := none) ⟨rfl, rfl, rfl, Nat.le_refl _, fun _ _ _ => rfl⟩ (fun _ e => by cases e) (fun r hr => .inl (hE r hr))

/-- A kept term that is not more general. -/
theorem HIs.skip (h : HIs w0 Bh es t E S v hs W) {S' : Kpt → Prop} (hS : ∀ e ∈ es, mres e.2.1 t ≠ none → (S' e ↔ S e)) : HIs w0 Bh es t E S' v hs W :=
  { h with ids := fun z => (h.ids z).trans ⟨fun ⟨e, he, h1, h2, h3⟩ => ⟨e, he, h1, (hS e he h3).2 h2, h3⟩, fun ⟨e, he, h1, h2, h3⟩ => ⟨e, he, h1, (hS e he h3).1 h2, h3⟩⟩ }

/-- A hit more: Match laid its binds behind W, then came the append and the store. -/
theorem HIs.push (h : HIs w0 Bh es t E S v hs W) {Wm : World} (hbm : Below W.heap.size W Wm) (e0 : Kpt) (he0 : e0 ∈ es) (hids : (es.map (·.1)).Nodup) (hno : ¬ S e0) {S' : Kpt → Prop} (hS : ∀ e ∈ es, (S' e ↔ S e ∨ e = e0))
    {τ : Ta} {ks : List Int} (hτ : mres e0.2.1 t = some τ) (hrise : RiseT τ ks) {x : HE} (hx : x.1 = e0.1) (hB : BIn W.heap.size Wm.heap.size Wm x.val (listB τ ks))
    (v' : Value) (w1 : World) (hown : w1.ownsRow w0.heap.size 57 2 v' (hs.length + 1) (flH hs ++ encH x)) (hg : (Wm.alloc (.cells #[.int .i64 x.1, x.val] 57)).grownBy w1 v.ownBlock) (hat : v'.ownBlock = v.ownBlock ∨ v'.ownBlock = some (Wm.alloc (.cells #[.int .i64 x.1, x.val] 57)).heap.size) :
    (w1.cell? ⟨Bh, 0, none⟩ = some v ∧ w1.frozen? ⟨Bh, 0, none⟩ = false) ∧ HIs w0 Bh es t E S' v' (hs ++ [x]) (w1.setCell ⟨Bh, 0, none⟩ v') := by
  have hs0 := h.only.size
  have hbh := h.bh
  have hba := below_box Wm (.cells #[.int .i64 x.1, x.val] 57)
  have hm : HIs w0 Bh es t E S v hs (Wm.alloc (.cells #[.int .i64 x.1, x.val] 57)) := (h.grow hbm).grow hba
  have hgs := hg.size
  have hms := hbm.size
  have hsz : (Wm.alloc (.cells #[.int .i64 x.1, x.val] 57)).heap.size = Wm.heap.size + 1 := by simp
  have vge : ∀ g, v.ownBlock = some g → w0.heap.size ≤ g ∧ g < W.heap.size := fun g hgv => h.row.lt g hgv
  have blk : ∀ k, k < Wm.heap.size + 1 → v.ownBlock ≠ some k → w1.heap[k]? = (Wm.alloc (.cells #[.int .i64 x.1, x.val] 57)).heap[k]? := fun k hk hne => hg.block k (by omega) (fun e => hne e.symm)
  have low4 : ∀ k, k < w0.heap.size → w1.heap[k]? = (Wm.alloc (.cells #[.int .i64 x.1, x.val] 57)).heap[k]? := fun k hk => blk k (by omega) (fun e => by have := (vge k e).1; omega)
  have p3 : Boxed w1 Bh 44 v := (low4 _ hbh).trans hm.bx
  have ho : ∀ k, k ≠ Bh → (w1.setCell ⟨Bh, 0, none⟩ v').heap[k]? = w1.heap[k]? := fun k hk => Below.heap_setCell _ _ _ k hk
  have hss : (w1.setCell ⟨Bh, 0, none⟩ v').heap.size = w1.heap.size := by simp
  have hvn : ∀ g, v'.ownBlock = some g → v.ownBlock = some g ∨ g = Wm.heap.size + 1 := fun g hgv => by
    rcases hat with e | e
    · exact .inl (e ▸ hgv)
    · rw [e, hsz] at hgv; exact .inr (Option.some.inj hgv).symm
  have hnew : x.1 ∉ hs.map (·.1) := fun hm' => by
    obtain ⟨e, he, h1, h2, _⟩ := (h.ids x.1).1 hm'
    have : e = e0 := by
      have h3 : e.1 = e0.1 := h1.trans hx
      exact ids_inj hids he he0 h3
    exact hno (this ▸ h2)
  refine ⟨⟨p3.cell, p3.frozen⟩, p3.set v', ?_, ?_, fun r hr => ?_, hbh, fun g hgv hge => ?_, fun y hy => ?_, fun z => ?_, ?_⟩
  · rw [flH_snoc, List.length_append]
    exact row6_keep hown (fun g hgv => ho g (by have := (hown.lt g hgv).1; omega))
  · refine ⟨hg.os.trans hm.only.os, hg.tape.trans hm.only.tape, hg.output.trans hm.only.output, by omega, fun k hk hn => ?_⟩
    exact (ho k (by simpa using hn)).trans ((low4 k hk).trans (hm.only.block k hk hn))
  · have := h.low r hr
    exact ⟨this.1, by omega⟩
  · rcases hvn g hgv with e | e
    · exact h.mine g e hge
    · have := (h.low g hge).2; omega
  · rcases List.mem_append.1 hy with hy | hy
    · obtain ⟨e, he, h1, τ', ks', h2, h3, n0, n1, a1, a2, a3, a4, a5⟩ := h.hit y hy
      refine ⟨e, he, h1, τ', ks', h2, h3, n0, n1, a1, by omega, a3, fun g hgv hn => ?_, a5.keep (fun k k1 k2 => ?_)⟩
      · rcases hvn g hgv with e' | e'
        · exact a4 g e' hn
        · omega
      · rw [ho k (by omega), blk k (by omega) (fun e' => a4 k e' ⟨k1, k2⟩), Below.heap_alloc _ _ _ (by omega)]
        exact hbm.block k (by omega)
    · obtain rfl := List.mem_singleton.1 hy
      refine ⟨e0, he0, hx.symm, τ, ks, hτ, hrise, W.heap.size, Wm.heap.size, hs0, by omega, fun r hr hn => by have := (h.low r hr).2; omega, fun g hgv hn => ?_, hB.keep (fun k k1 k2 => ?_)⟩
      · rcases hvn g hgv with e' | e'
        · have := (vge g e').2; omega
        · omega
      · rw [ho k (by omega), blk k (by omega) (fun e' => by have := (vge k e').2; omega), Below.heap_alloc _ _ _ (by omega)]
  · rw [List.map_append, List.mem_append, h.ids]
    constructor
    · rintro (⟨e, he, h1, h2, h3⟩ | hz)
      · exact ⟨e, he, h1, (hS e he).2 (.inl h2), h3⟩
      · have : z = x.1 := by simpa using hz
        exact ⟨e0, he0, by rw [this, hx], (hS e0 he0).2 (.inr rfl), by rw [hτ]; simp⟩
    · rintro ⟨e, he, h1, h2, h3⟩
      rcases (hS e he).1 h2 with h2 | rfl
      · exact .inl ⟨e, he, h1, h2, h3⟩
      · right; simp [hx, h1]
  · rw [List.map_append, List.nodup_append]
    refine ⟨h.nd, by simp, fun a ha b hb e => ?_⟩
    have : b = x.1 := by simpa using hb
    exact hnew (this ▸ e ▸ ha)
end

/-- Between two ends. -/
def HIx (w0 : World) (Bh : Nat) (es : List Kpt) (t : T) (E : List Nat) (pre : List Path) (W : World) : Prop := ∃ v hs, HIs w0 Bh es t E (fun e => e.2.1.path ∈ pre) v hs W
theorem HIx.abide {w0 : World} {Bh : Nat} {es : List Kpt} {t : T} : Abide (HIx w0 Bh es t) := by
  rintro E E' s W W' row ⟨v, hs, h⟩ hg hr hE
  exact ⟨v, hs, h.kept hg hr hE⟩

end Go.Proofs.YtijihmncbaoklaaGreat

/-
  A region that draws its order inside a round of a range over a function is walked as one outside it, where it has no defer.
-/
namespace Go.Proofs.YtijihmncbaoklaaGreat
open Go.RowKit Go.Shelf

def noDefer (ops : Array Oper) : Bool := ops.all fun o => match o.op with | .defer _ => false | _ => true

theorem noDefer_spec {ops : Array Oper} (h : noDefer ops = true) {i : Nat} {o : Oper} (hi : ops[i]? = some o) : ∀ c, o.op ≠ .defer c := by
  intro c hc
  unfold noDefer at h
  rw [Array.all_eq_true] at h
  obtain ⟨hl, he⟩ := Array.getElem?_eq_some_iff.1 hi
  have := h i hl
  rw [he, hc] at this
  cases this

theorem wpOpIn_round {F : Fence} {l n : Nat} {P : Program} {ops : Array Oper} {Q : Exit → Act → World → Prop} {i : Nat} {K : Act → World → Prop} {a : Act} {w : World} (hnd : noDefer ops = true) (h : wpOpIn F n P ops Q i K a w) : wpOpIn (F.inRound l) n P ops Q i K a w := by
  unfold wpOpIn at *
  cases hi : ops[i]? with
  | none => rw [hi] at h; exact h
  | some o =>
    rw [hi] at h
    simp only at h ⊢
    split
    · rename_i hw
      rw [if_pos hw] at h
      unfold Oper.wpIn at *
      have e1 := Oper.semAt_plain F a.eval o (noDefer_spec hnd hi)
      have e2 := Oper.semAt_plain (F.inRound l) a.eval o (noDefer_spec hnd hi)
      rw [e1] at h
      rw [e2]
      exact h
    · rename_i hw
      rw [if_neg hw] at h
      exact h

theorem wpAnyIn_round {F : Fence} {l n : Nat} {P : Program} {md : Region.Mode} {ops : Array Oper} {Q : Exit → Act → World → Prop} (hnd : noDefer ops = true) : ∀ (fuel : Nat) (listed : Array Bool) (a : Act) (w : World), wpAnyIn F n P md ops Q fuel listed a w → wpAnyIn (F.inRound l) n P md ops Q fuel listed a w
  | 0, _, _, _, h => h
  | fuel + 1, _, _, _, h => ⟨h.1, fun i hi => wpOpIn_mono (fun _ _ h' => wpAnyIn_round hnd fuel _ _ _ h') (wpOpIn_round hnd (h.2 i hi))⟩

end Go.Proofs.YtijihmncbaoklaaGreat

/-
  Generals.
-/
namespace Go.Proofs.YtijihmncbaoklaaGreat
open Go.RowKit Go.Maps Go.Shelf

attribute [local go_sem] Oper.semAt_some


theorem Dsc.keep {W W' : World} {x : Nat} {es : List Kpt} {P : List Path} {y : Lay} {B : List Nat} {M : Nat} (h : Dsc W x es P y B M) (hb : Below W.heap.size W W') : Dsc W' x es P y B M := by
  have hxl : x < W.heap.size := (Array.getElem?_eq_some_iff.1 h.tre.box).1
  exact { h with
    tre := ⟨h.tre.tri.keep (fun r hr => hb.block r (h.tre.blt r hr)), fun r hr => Nat.lt_of_lt_of_le (h.tre.blt r hr) hb.size, (hb.block x hxl).trans h.tre.box, h.tre.xB, h.tre.zer⟩
    mp := h.mp.same (hb.block M h.mp.lt)
    ags := fun e he => (h.ags e he).keep hb.size (fun k hk hl => ⟨hk, hb.block k hl⟩) }

theorem argsAt_P {W : World} {sl : Value} {l : List T} (h : ArgsAt W sl l) : ArgsP (fun b => b < W.heap.size) W sl l := by
  induction h with
  | mk a c l s hc hm at0 sub ih =>
    refine .mk a c l s hc hm (fun h0 => ?_) ih
    obtain ⟨b, o, hlt, rfl, hcell⟩ := at0 h0
    exact ⟨b, o, hlt, hlt, rfl, hcell⟩

/-- The sort of hits, at every length. -/
def SortOk : Prop := ∀ (l : List HE) (v : Value) (base : Nat) (W : World), W.ownsRow base 57 2 v l.length (flH l) → l.length ≤ 100000 → Calls Tryz.prog 37 #[v, .func (.func 38) #[] #[]] W (SrtP l v base W)

/-- What Generals answers. -/
def GenP (es : List Kpt) (P : List Path) (t : T) (w : World) (e : Ending) (W : World) : Prop :=
  ∃ v hs, e = .returned v ∧ W.ownsRow w.heap.size 57 2 v hs.length (flH hs) ∧ SortedH hs ∧ Below w.heap.size w W ∧ (∀ h ∈ hs, ∃ e ∈ es, e.1 = h.1 ∧ ∃ τ ks, mres e.2.1 t = some τ ∧ RiseT τ ks ∧ BindsAt W h.val (listB τ ks)) ∧
    (∀ z, z ∈ hs.map (·.1) ↔ ∃ e ∈ es, e.1 = z ∧ e.2.1.path ∈ ends (· ∈ P) [] [t] ∧ mres e.2.1 t ≠ none) ∧ (hs.map (·.1)).Nodup

theorem Tryz.info57 : (Tryz.prog.info? 57).map (fun i => (i.zero, i.size, i.bytes)) = some (some (.agg #[.int .i64 0, .slice none 0 0]), 2, 32) := by kernel_rfl
theorem lit2h (w : World) (x y : Value) : ∀ j u, [x, y][j]? = some u → (w.alloc (.cells #[x, y] 57)).cell? ((⟨w.heap.size, 0, none⟩ : Addr).add j) = some u := by
  intro j u hj
  rw [Addr.add_mid, Nat.zero_add, cell_of_row _ _ _ _ 57 (0, 0) (MapKept.heap_alloc w _).1]
  simpa using hj
theorem one2h {a : Int} {b : Option Addr} {n c : Nat} : ∀ u ∈ [Value.int .i64 a, .slice b n c], u.oneCell' = true := by simp [Value.oneCell']
theorem numM_some {l : List Int} {x : Value} (h : numM l x ≠ none) : ∃ s, x = .int .i64 s ∧ s ∈ l := by
  unfold numM at h
  split at h
  · rename_i z
    refine ⟨z, rfl, ?_⟩
    by_cases hz : z ∈ l
    · exact hz
    · rw [if_neg hz] at h; exact absurd rfl h
  · exact absurd rfl h
theorem nodup_len : ∀ (l m : List Int), l.Nodup → (∀ x ∈ l, x ∈ m) → l.length ≤ m.length
  | [], m, _, _ => Nat.zero_le _
  | a :: r, m, h, hs => by
    rw [List.nodup_cons] at h
    have ha := hs a (by simp)
    have := nodup_len r (m.erase a) h.2 (fun x hx => (List.mem_erase_of_ne (fun (e : x = a) => h.1 (e ▸ hx))).2 (hs x (by simp [hx])))
    rw [List.length_erase_of_mem ha] at this
    have := List.length_pos_of_mem ha
    simp only [List.length_cons]
    omega

theorem row_base {W : World} {b b' : Nat} {e : TypeId} {k : Nat} {v : Value} {n : Nat} {xs : List Value} (hb : b' ≤ b) (h : W.ownsRow b e k v n xs) : W.ownsRow b' e k v n xs := by
  refine ⟨h.1, ?_⟩
  rcases h.2 with h2 | ⟨g, cap, cur, h1, h2, r⟩
  · exact .inl h2
  · exact .inr ⟨g, cap, cur, h1, Nat.le_trans hb h2, r⟩

set_option maxRecDepth 100000 in
set_option maxHeartbeats 8000000 in
theorem generals_any {x : Nat} {es : List Kpt} {P : List Path} {y : Lay} {B : List Nat} {M : Nat} {w : World} (h : Dsc w x es P y B M) (hne : es ≠ []) (he : es.length ≤ 200) (t : T) (sl : Value) (ha : ArgsAt w sl t.args) (hr : t.rightW = 0) (hsz : t.size ≤ 1048576)
    (hsort : SortOk) :
    Calls Tryz.prog 17 #[.pointer (some ⟨x, 0, none⟩), tval t sl] w (GenP es P t w) := by
  refine (callsIn_wide (n := 9)).1 ?_
  obtain ⟨hsh, hnn⟩ := right_zero hr hsz
  have hpl : t.pre.length ≤ 4000 := by rw [pre_nn]; omega
  obtain ⟨a, c, rfl, hc, hm⟩ := ha.slice
  have hxl : x < w.heap.size := (Array.getElem?_eq_some_iff.1 h.tre.box).1
  obtain ⟨rp, hrp⟩ : ∃ r, y.na [] = r := ⟨_, rfl⟩
  obtain ⟨W2, hW2⟩ : ∃ X, (w.alloc (.cells #[.pointer (some ⟨x, 0, none⟩)] 24)).alloc (tbox t (.slice a t.args.length c)) = X := ⟨_, rfl⟩
  have b2 : Below w.heap.size w W2 := by rw [← hW2]; exact below_box2 _ _ _
  have s2 : W2.heap.size = w.heap.size + 1 + 1 := by rw [← hW2]; simp
  have v2 : W2.heap[w.heap.size]? = some (.cells #[.pointer (some ⟨x, 0, none⟩)] 24 (0, 0)) := by
    rw [← hW2, Below.heap_alloc _ _ _ (by simp)]
    exact (MapKept.heap_alloc _ _).1
  have t2 : W2.heap[w.heap.size + 1]? = some (.cells #[.int .i64 t.v, .string t.fn, .slice a t.args.length c] 32 (0, 0)) := by
    have := (MapKept.heap_alloc (w.alloc (.cells #[.pointer (some ⟨x, 0, none⟩)] 24)) (tbox t (.slice a t.args.length c))).1
    rw [World.size_alloc] at this
    rw [← hW2]; exact this
  have HW : ∀ Z, Below w.heap.size w Z → Dsc Z x es P y B M := fun Z hZ => h.keep hZ
  have hlen := len_dsc (HW W2 b2)
  have hrt := right_at t (.slice a t.args.length c) w W2 b2 ha hsz
  rw [hr] at hrt
  have hl0 : ((es.length : Int) == 0) = false := by
    rw [beq_eq_false_iff_ne]
    intro e
    exact hne (List.length_eq_zero_iff.1 (by omega))
  have x0 : W2.cell? ⟨w.heap.size, 0, none⟩ = some (.pointer (some ⟨x, 0, none⟩)) := cell_store (vs := [_]) v2 rfl
  obtain ⟨y0, y1, y2⟩ : W2.cell? ⟨w.heap.size + 1, 0, none⟩ = some (.int .i64 t.v) ∧ W2.cell? ⟨w.heap.size + 1, 1, none⟩ = some (.string t.fn) ∧ W2.cell? ⟨w.heap.size + 1, 2, none⟩ = some (.slice a t.args.length c) := ⟨cell_store (vs := [_, _, _]) t2 rfl, cell_store (vs := [_, _, _]) t2 rfl, cell_store (vs := [_, _, _]) t2 rfl⟩
  have H0 : Hid (Dsc w x es P y B M ∧ es.length ≤ 200 ∧ ArgsAt w (.slice a t.args.length c) t.args ∧ t.rightW = 0 ∧ t.size ≤ 1048576 ∧ t.pre.length ≤ 4000 ∧ t.shape = true ∧ es ≠ [] ∧ y.na [] = rp ∧ SortOk) := ⟨h, he, ha, hr, hsz, hpl, hsh, hne, hrp, hsort⟩
  have HB2 : Hid (Below w.heap.size w W2 ∧ W2.heap.size = w.heap.size + 1 + 1 ∧ W2.heap[w.heap.size]? = some (.cells #[.pointer (some ⟨x, 0, none⟩)] 24 (0, 0)) ∧ W2.heap[w.heap.size + 1]? = some (.cells #[.int .i64 t.v, .string t.fn, .slice a t.args.length c] 32 (0, 0)) ∧ x < w.heap.size) := ⟨b2, s2, v2, t2, hxl⟩
  have HWh := hid HW
  clear v2 t2 h hne he ha hr hsz hpl hsh hrp HW b2 hsort
  refine callsIn_of_wp_marks Tryz.func17 rfl trivial ?_ rfl
  simp only [Tryz.ntmps17, List.size_toArray, List.length_cons, List.length_nil, Nat.reduceAdd, Nat.reduceSub, Array.replicate_succ, Array.replicate_zero, List.push_toArray, List.append_toArray, List.nil_append, List.cons_append]
  gi_upto_region 1 with fail
  try rw [hW2]
  gi_wp2_with fail
  refine ⟨trivial, (callsIn_wide.2 hlen).mono ?_⟩
  rintro e w' ⟨rfl, hw'⟩
  rw [hw']
  clear hw'
  gi_wp2_with fail
  refine ⟨trivial, (callsIn_wide.2 hrt).mono ?_⟩
  rintro e W3 ⟨rfl, hb3⟩
  obtain ⟨W4, hW4⟩ : ∃ X, W3.alloc (.cells #[.slice none 0 0] 44) = X := ⟨_, rfl⟩
  have b24 : Below W2.heap.size W2 W4 := hb3.trans (by rw [← hW4]; exact (below_box W3 _).mono hb3.size)
  have h4 : W4.heap[W3.heap.size]? = some (.cells #[.slice none 0 0] 44 (0, 0)) := by rw [← hW4]; exact (MapKept.heap_alloc _ _).1
  have s4 : W4.heap.size = W3.heap.size + 1 := by rw [← hW4]; simp
  obtain ⟨Bh, hBh⟩ : ∃ X, W3.heap.size = X := ⟨_, rfl⟩
  rw [hBh] at h4 s4
  obtain ⟨Wd, hWd⟩ : ∃ X, W4.drew = X := ⟨_, rfl⟩
  have b4d : Below W4.heap.size W4 Wd := by rw [← hWd]; exact (Below.refl _ W4).drew
  have b2d : Below W2.heap.size W2 Wd := b24.trans (b4d.mono b24.size)
  have b0d : Below w.heap.size w Wd := HB2.out.1.trans (b2d.mono HB2.out.1.size)
  have hxl := HB2.out.2.2.2.2
  have sBh : w.heap.size + 1 + 1 ≤ Bh := by have := hb3.size; omega
  have HCd : Hid (∀ Z, Below Wd.heap.size Wd Z → Z.cell? ⟨w.heap.size, 0, none⟩ = some (.pointer (some ⟨x, 0, none⟩)) ∧ Z.cell? ⟨x, 0, none⟩ = some (.pointer (some ⟨rp, 0, none⟩)) ∧ Z.cell? ⟨w.heap.size + 1, 0, none⟩ = some (.int .i64 t.v) ∧ Z.cell? ⟨w.heap.size + 1, 1, none⟩ = some (.string t.fn) ∧ Z.cell? ⟨w.heap.size + 1, 2, none⟩ = some (.slice a t.args.length c)) := fun Z hZ => by
    have bZ : Below W2.heap.size W2 Z := b2d.trans (hZ.mono b2d.size)
    have bx := (HWh.out Z (b0d.trans (hZ.mono b0d.size))).tre.box
    rw [H0.out.2.2.2.2.2.2.2.2.1] at bx
    exact ⟨kc bZ (by omega) x0, cell_store (vs := [_, _, _]) bx rfl, kc bZ (by omega) y0, kc bZ (by omega) y1, kc bZ (by omega) y2⟩
  obtain ⟨d0, d1, d2, d3, d4⟩ := HCd.out Wd (Below.refl _ _)
  have HC5 : Hid (∀ Z, Below Wd.heap.size Wd Z → Z.cell? ⟨w.heap.size, 0, none⟩ = some (.pointer (some ⟨x, 0, none⟩)) ∧ Z.cell? ⟨x, 0, none⟩ = some (.pointer (some ⟨rp, 0, none⟩))) := fun Z hZ => ⟨(HCd.out Z hZ).1, (HCd.out Z hZ).2.1⟩
  have HRo : Hid (∀ Z : World, Z = Wd → Calls Tryz.prog 35 #[tval t (.slice a t.args.length c)] Z (RouP t Z)) := fun Z hZ => by
    subst hZ
    exact routeOf_any (fun b => b < w.heap.size) t _ Z ((argsAt_P H0.out.2.2.1).keep b0d.size (fun k hk hl => ⟨hk, b0d.block k hk⟩)) (fun b hb => Nat.lt_of_lt_of_le hb b0d.size) H0.out.2.2.2.2.2.1
  have HRo : Hid (∀ u : Unit, Calls Tryz.prog 35 #[tval t (.slice a t.args.length c)] Wd (RouP t Wd)) := fun _ => HRo.out Wd rfl
  have HWs : Hid (Below W2.heap.size W2 Wd ∧ Below w.heap.size w Wd ∧ Wd.heap[Bh]? = some (.cells #[.slice none 0 0] 44 (0, 0)) ∧ Bh < Wd.heap.size) := ⟨b2d, b0d, (b4d.block Bh (by omega)).trans h4, by have := b4d.size; omega⟩
  clear hlen hrt x0 y0 y1 y2 hW2 b24 h4 b4d b2d b0d hb3
  gi_upto_region 4 with fail
  try rw [hBh]
  try rw [hW4]
  gi_cut [25] from 19 (fun cf wx => ∃ W5 g rc, cf = .func (.func 57) #[] #[.pointer (some ⟨W5.heap.size + 1, 0, none⟩), .pointer (some ⟨W5.heap.size, 0, none⟩)] ∧ wx = (W5.alloc (.cells #[.pointer (some ⟨rp, 0, none⟩)] 60)).alloc (.cells #[.slice (some ⟨g, 0, none⟩) t.pre.length rc] 89) ∧ RouteAt W5 g t.pre ∧ t.pre.length ≤ rc ∧ Wd.heap.size ≤ g ∧ Below Wd.heap.size Wd W5)
  case first =>
    refine wpIn_region_any (by kernel_rfl) ?_
    try (change wpAnyIn _ _ _ _ _ _ _ _ _ (World.drew _))
    rw [hWd]
    refine wpAnyIn_ready (rs := [0, 4]) (by kernel_rfl) (by simp) ?_
    refine AllReadyIn.cons rfl (fun K hK => ?_) ?_
    · go_simp
      refine hK _ _ ?_
      clear hK K
      try simp only [Act.put, List.setIfInBounds_toArray, List.set_cons_zero, List.set_cons_succ]
      refine wpAnyIn_ready (rs := [1, 4]) (by kernel_rfl) (by simp) ?_
      refine AllReadyIn.cons rfl (fun K hK => ?_) ?_
      · go_simp
        refine hK _ _ ?_
        clear hK K
        try simp only [Act.put, List.setIfInBounds_toArray, List.set_cons_zero, List.set_cons_succ]
        refine wpAnyIn_ready (rs := [2, 4]) (by kernel_rfl) (by simp) ?_
        refine AllReadyIn.cons rfl (fun K hK => ?_) ?_
        · go_simp
          refine hK _ _ ?_
          clear hK K
          try simp only [Act.put, List.setIfInBounds_toArray, List.set_cons_zero, List.set_cons_succ]
          refine wpAnyIn_ready (rs := [3, 4]) (by kernel_rfl) (by simp) ?_
          refine AllReadyIn.cons rfl (fun K hK => ?_) ?_
          · go_simp
            refine hK _ _ ?_
            clear hK K
            try simp only [Act.put, List.setIfInBounds_toArray, List.set_cons_zero, List.set_cons_succ]
            refine wpAnyIn_ready (rs := [4]) (by kernel_rfl) (by simp) ?_
            refine AllReadyIn.cons rfl (fun K hK => ?_) AllReadyIn.nil
            go_simp
            refine hK _ _ ?_
            clear hK K
            try simp only [Act.put, List.setIfInBounds_toArray, List.set_cons_zero, List.set_cons_succ]
            refine wpAnyIn_ready (rs := [5]) (by kernel_rfl) (by simp) ?_
            refine AllReadyIn.cons rfl (fun K hK => ?_) AllReadyIn.nil
            go_simp
            refine ⟨trivial, (callsIn_wide.2 (HRo.out ())).mono ?_⟩
            rintro e W5 ⟨g, rc, rfl, hro, hrc, hg0, hb5⟩
            obtain ⟨v0, v1⟩ := HC5.out W5 hb5
            refine hK _ _ ?_
            clear hK K
            try simp only [Act.put, List.setIfInBounds_toArray, List.set_cons_zero, List.set_cons_succ]
            refine wpAnyIn_ready (rs := [6]) (by kernel_rfl) (by simp) ?_
            refine AllReadyIn.cons rfl (fun K hK => ?_) AllReadyIn.nil
            go_simp
            refine ⟨trivial, (callsIn_wide.2 (dends_any (some ⟨rp, 0, none⟩) (some ⟨g, 0, none⟩) t.pre.length rc W5)).mono ?_⟩
            rintro e W6 ⟨rfl, rfl⟩
            refine hK _ _ ?_
            clear hK K
            try simp only [Act.put, List.setIfInBounds_toArray, List.set_cons_zero, List.set_cons_succ]
            refine wpAnyIn_done (by kernel_rfl) ?_ _
            gi_wp2
            gi_meet
            exact ⟨W5, g, rc, rfl, rfl, hro, hrc, hg0, hb5⟩
          refine AllReadyIn.cons rfl (fun K hK => ?_) AllReadyIn.nil
          go_simp
          refine hK _ _ ?_
          clear hK K
          try simp only [Act.put, List.setIfInBounds_toArray, List.set_cons_zero, List.set_cons_succ]
          refine wpAnyIn_ready (rs := [3, 5]) (by kernel_rfl) (by simp) ?_
          refine AllReadyIn.cons rfl (fun K hK => ?_) ?_
          · go_simp
            refine hK _ _ ?_
            clear hK K
            try simp only [Act.put, List.setIfInBounds_toArray, List.set_cons_zero, List.set_cons_succ]
            refine wpAnyIn_ready (rs := [5]) (by kernel_rfl) (by simp) ?_
            refine AllReadyIn.cons rfl (fun K hK => ?_) AllReadyIn.nil
            go_simp
            refine ⟨trivial, (callsIn_wide.2 (HRo.out ())).mono ?_⟩
            rintro e W5 ⟨g, rc, rfl, hro, hrc, hg0, hb5⟩
            obtain ⟨v0, v1⟩ := HC5.out W5 hb5
            refine hK _ _ ?_
            clear hK K
            try simp only [Act.put, List.setIfInBounds_toArray, List.set_cons_zero, List.set_cons_succ]
            refine wpAnyIn_ready (rs := [6]) (by kernel_rfl) (by simp) ?_
            refine AllReadyIn.cons rfl (fun K hK => ?_) AllReadyIn.nil
            go_simp
            refine ⟨trivial, (callsIn_wide.2 (dends_any (some ⟨rp, 0, none⟩) (some ⟨g, 0, none⟩) t.pre.length rc W5)).mono ?_⟩
            rintro e W6 ⟨rfl, rfl⟩
            refine hK _ _ ?_
            clear hK K
            try simp only [Act.put, List.setIfInBounds_toArray, List.set_cons_zero, List.set_cons_succ]
            refine wpAnyIn_done (by kernel_rfl) ?_ _
            gi_wp2
            gi_meet
            exact ⟨W5, g, rc, rfl, rfl, hro, hrc, hg0, hb5⟩
          refine AllReadyIn.cons rfl (fun K hK => ?_) AllReadyIn.nil
          go_simp
          refine ⟨trivial, (callsIn_wide.2 (HRo.out ())).mono ?_⟩
          rintro e W5 ⟨g, rc, rfl, hro, hrc, hg0, hb5⟩
          obtain ⟨v0, v1⟩ := HC5.out W5 hb5
          refine hK _ _ ?_
          clear hK K
          try simp only [Act.put, List.setIfInBounds_toArray, List.set_cons_zero, List.set_cons_succ]
          refine wpAnyIn_ready (rs := [3]) (by kernel_rfl) (by simp) ?_
          refine AllReadyIn.cons rfl (fun K hK => ?_) AllReadyIn.nil
          go_simp
          refine hK _ _ ?_
          clear hK K
          try simp only [Act.put, List.setIfInBounds_toArray, List.set_cons_zero, List.set_cons_succ]
          refine wpAnyIn_ready (rs := [6]) (by kernel_rfl) (by simp) ?_
          refine AllReadyIn.cons rfl (fun K hK => ?_) AllReadyIn.nil
          go_simp
          refine ⟨trivial, (callsIn_wide.2 (dends_any (some ⟨rp, 0, none⟩) (some ⟨g, 0, none⟩) t.pre.length rc W5)).mono ?_⟩
          rintro e W6 ⟨rfl, rfl⟩
          refine hK _ _ ?_
          clear hK K
          try simp only [Act.put, List.setIfInBounds_toArray, List.set_cons_zero, List.set_cons_succ]
          refine wpAnyIn_done (by kernel_rfl) ?_ _
          gi_wp2
          gi_meet
          exact ⟨W5, g, rc, rfl, rfl, hro, hrc, hg0, hb5⟩
        refine AllReadyIn.cons rfl (fun K hK => ?_) AllReadyIn.nil
        go_simp
        refine hK _ _ ?_
        clear hK K
        try simp only [Act.put, List.setIfInBounds_toArray, List.set_cons_zero, List.set_cons_succ]
        refine wpAnyIn_ready (rs := [2, 5]) (by kernel_rfl) (by simp) ?_
        refine AllReadyIn.cons rfl (fun K hK => ?_) ?_
        · go_simp
          refine hK _ _ ?_
          clear hK K
          try simp only [Act.put, List.setIfInBounds_toArray, List.set_cons_zero, List.set_cons_succ]
          refine wpAnyIn_ready (rs := [3, 5]) (by kernel_rfl) (by simp) ?_
          refine AllReadyIn.cons rfl (fun K hK => ?_) ?_
          · go_simp
            refine hK _ _ ?_
            clear hK K
            try simp only [Act.put, List.setIfInBounds_toArray, List.set_cons_zero, List.set_cons_succ]
            refine wpAnyIn_ready (rs := [5]) (by kernel_rfl) (by simp) ?_
            refine AllReadyIn.cons rfl (fun K hK => ?_) AllReadyIn.nil
            go_simp
            refine ⟨trivial, (callsIn_wide.2 (HRo.out ())).mono ?_⟩
            rintro e W5 ⟨g, rc, rfl, hro, hrc, hg0, hb5⟩
            obtain ⟨v0, v1⟩ := HC5.out W5 hb5
            refine hK _ _ ?_
            clear hK K
            try simp only [Act.put, List.setIfInBounds_toArray, List.set_cons_zero, List.set_cons_succ]
            refine wpAnyIn_ready (rs := [6]) (by kernel_rfl) (by simp) ?_
            refine AllReadyIn.cons rfl (fun K hK => ?_) AllReadyIn.nil
            go_simp
            refine ⟨trivial, (callsIn_wide.2 (dends_any (some ⟨rp, 0, none⟩) (some ⟨g, 0, none⟩) t.pre.length rc W5)).mono ?_⟩
            rintro e W6 ⟨rfl, rfl⟩
            refine hK _ _ ?_
            clear hK K
            try simp only [Act.put, List.setIfInBounds_toArray, List.set_cons_zero, List.set_cons_succ]
            refine wpAnyIn_done (by kernel_rfl) ?_ _
            gi_wp2
            gi_meet
            exact ⟨W5, g, rc, rfl, rfl, hro, hrc, hg0, hb5⟩
          refine AllReadyIn.cons rfl (fun K hK => ?_) AllReadyIn.nil
          go_simp
          refine ⟨trivial, (callsIn_wide.2 (HRo.out ())).mono ?_⟩
          rintro e W5 ⟨g, rc, rfl, hro, hrc, hg0, hb5⟩
          obtain ⟨v0, v1⟩ := HC5.out W5 hb5
          refine hK _ _ ?_
          clear hK K
          try simp only [Act.put, List.setIfInBounds_toArray, List.set_cons_zero, List.set_cons_succ]
          refine wpAnyIn_ready (rs := [3]) (by kernel_rfl) (by simp) ?_
          refine AllReadyIn.cons rfl (fun K hK => ?_) AllReadyIn.nil
          go_simp
          refine hK _ _ ?_
          clear hK K
          try simp only [Act.put, List.setIfInBounds_toArray, List.set_cons_zero, List.set_cons_succ]
          refine wpAnyIn_ready (rs := [6]) (by kernel_rfl) (by simp) ?_
          refine AllReadyIn.cons rfl (fun K hK => ?_) AllReadyIn.nil
          go_simp
          refine ⟨trivial, (callsIn_wide.2 (dends_any (some ⟨rp, 0, none⟩) (some ⟨g, 0, none⟩) t.pre.length rc W5)).mono ?_⟩
          rintro e W6 ⟨rfl, rfl⟩
          refine hK _ _ ?_
          clear hK K
          try simp only [Act.put, List.setIfInBounds_toArray, List.set_cons_zero, List.set_cons_succ]
          refine wpAnyIn_done (by kernel_rfl) ?_ _
          gi_wp2
          gi_meet
          exact ⟨W5, g, rc, rfl, rfl, hro, hrc, hg0, hb5⟩
        refine AllReadyIn.cons rfl (fun K hK => ?_) AllReadyIn.nil
        go_simp
        refine ⟨trivial, (callsIn_wide.2 (HRo.out ())).mono ?_⟩
        rintro e W5 ⟨g, rc, rfl, hro, hrc, hg0, hb5⟩
        obtain ⟨v0, v1⟩ := HC5.out W5 hb5
        refine hK _ _ ?_
        clear hK K
        try simp only [Act.put, List.setIfInBounds_toArray, List.set_cons_zero, List.set_cons_succ]
        refine wpAnyIn_ready (rs := [2]) (by kernel_rfl) (by simp) ?_
        refine AllReadyIn.cons rfl (fun K hK => ?_) AllReadyIn.nil
        go_simp
        refine hK _ _ ?_
        clear hK K
        try simp only [Act.put, List.setIfInBounds_toArray, List.set_cons_zero, List.set_cons_succ]
        refine wpAnyIn_ready (rs := [3]) (by kernel_rfl) (by simp) ?_
        refine AllReadyIn.cons rfl (fun K hK => ?_) AllReadyIn.nil
        go_simp
        refine hK _ _ ?_
        clear hK K
        try simp only [Act.put, List.setIfInBounds_toArray, List.set_cons_zero, List.set_cons_succ]
        refine wpAnyIn_ready (rs := [6]) (by kernel_rfl) (by simp) ?_
        refine AllReadyIn.cons rfl (fun K hK => ?_) AllReadyIn.nil
        go_simp
        refine ⟨trivial, (callsIn_wide.2 (dends_any (some ⟨rp, 0, none⟩) (some ⟨g, 0, none⟩) t.pre.length rc W5)).mono ?_⟩
        rintro e W6 ⟨rfl, rfl⟩
        refine hK _ _ ?_
        clear hK K
        try simp only [Act.put, List.setIfInBounds_toArray, List.set_cons_zero, List.set_cons_succ]
        refine wpAnyIn_done (by kernel_rfl) ?_ _
        gi_wp2
        gi_meet
        exact ⟨W5, g, rc, rfl, rfl, hro, hrc, hg0, hb5⟩
      refine AllReadyIn.cons rfl (fun K hK => ?_) AllReadyIn.nil
      go_simp
      refine hK _ _ ?_
      clear hK K
      try simp only [Act.put, List.setIfInBounds_toArray, List.set_cons_zero, List.set_cons_succ]
      refine wpAnyIn_ready (rs := [1, 5]) (by kernel_rfl) (by simp) ?_
      refine AllReadyIn.cons rfl (fun K hK => ?_) ?_
      · go_simp
        refine hK _ _ ?_
        clear hK K
        try simp only [Act.put, List.setIfInBounds_toArray, List.set_cons_zero, List.set_cons_succ]
        refine wpAnyIn_ready (rs := [2, 5]) (by kernel_rfl) (by simp) ?_
        refine AllReadyIn.cons rfl (fun K hK => ?_) ?_
        · go_simp
          refine hK _ _ ?_
          clear hK K
          try simp only [Act.put, List.setIfInBounds_toArray, List.set_cons_zero, List.set_cons_succ]
          refine wpAnyIn_ready (rs := [3, 5]) (by kernel_rfl) (by simp) ?_
          refine AllReadyIn.cons rfl (fun K hK => ?_) ?_
          · go_simp
            refine hK _ _ ?_
            clear hK K
            try simp only [Act.put, List.setIfInBounds_toArray, List.set_cons_zero, List.set_cons_succ]
            refine wpAnyIn_ready (rs := [5]) (by kernel_rfl) (by simp) ?_
            refine AllReadyIn.cons rfl (fun K hK => ?_) AllReadyIn.nil
            go_simp
            refine ⟨trivial, (callsIn_wide.2 (HRo.out ())).mono ?_⟩
            rintro e W5 ⟨g, rc, rfl, hro, hrc, hg0, hb5⟩
            obtain ⟨v0, v1⟩ := HC5.out W5 hb5
            refine hK _ _ ?_
            clear hK K
            try simp only [Act.put, List.setIfInBounds_toArray, List.set_cons_zero, List.set_cons_succ]
            refine wpAnyIn_ready (rs := [6]) (by kernel_rfl) (by simp) ?_
            refine AllReadyIn.cons rfl (fun K hK => ?_) AllReadyIn.nil
            go_simp
            refine ⟨trivial, (callsIn_wide.2 (dends_any (some ⟨rp, 0, none⟩) (some ⟨g, 0, none⟩) t.pre.length rc W5)).mono ?_⟩
            rintro e W6 ⟨rfl, rfl⟩
            refine hK _ _ ?_
            clear hK K
            try simp only [Act.put, List.setIfInBounds_toArray, List.set_cons_zero, List.set_cons_succ]
            refine wpAnyIn_done (by kernel_rfl) ?_ _
            gi_wp2
            gi_meet
            exact ⟨W5, g, rc, rfl, rfl, hro, hrc, hg0, hb5⟩
          refine AllReadyIn.cons rfl (fun K hK => ?_) AllReadyIn.nil
          go_simp
          refine ⟨trivial, (callsIn_wide.2 (HRo.out ())).mono ?_⟩
          rintro e W5 ⟨g, rc, rfl, hro, hrc, hg0, hb5⟩
          obtain ⟨v0, v1⟩ := HC5.out W5 hb5
          refine hK _ _ ?_
          clear hK K
          try simp only [Act.put, List.setIfInBounds_toArray, List.set_cons_zero, List.set_cons_succ]
          refine wpAnyIn_ready (rs := [3]) (by kernel_rfl) (by simp) ?_
          refine AllReadyIn.cons rfl (fun K hK => ?_) AllReadyIn.nil
          go_simp
          refine hK _ _ ?_
          clear hK K
          try simp only [Act.put, List.setIfInBounds_toArray, List.set_cons_zero, List.set_cons_succ]
          refine wpAnyIn_ready (rs := [6]) (by kernel_rfl) (by simp) ?_
          refine AllReadyIn.cons rfl (fun K hK => ?_) AllReadyIn.nil
          go_simp
          refine ⟨trivial, (callsIn_wide.2 (dends_any (some ⟨rp, 0, none⟩) (some ⟨g, 0, none⟩) t.pre.length rc W5)).mono ?_⟩
          rintro e W6 ⟨rfl, rfl⟩
          refine hK _ _ ?_
          clear hK K
          try simp only [Act.put, List.setIfInBounds_toArray, List.set_cons_zero, List.set_cons_succ]
          refine wpAnyIn_done (by kernel_rfl) ?_ _
          gi_wp2
          gi_meet
          exact ⟨W5, g, rc, rfl, rfl, hro, hrc, hg0, hb5⟩
        refine AllReadyIn.cons rfl (fun K hK => ?_) AllReadyIn.nil
        go_simp
        refine ⟨trivial, (callsIn_wide.2 (HRo.out ())).mono ?_⟩
        rintro e W5 ⟨g, rc, rfl, hro, hrc, hg0, hb5⟩
        obtain ⟨v0, v1⟩ := HC5.out W5 hb5
        refine hK _ _ ?_
        clear hK K
        try simp only [Act.put, List.setIfInBounds_toArray, List.set_cons_zero, List.set_cons_succ]
        refine wpAnyIn_ready (rs := [2]) (by kernel_rfl) (by simp) ?_
        refine AllReadyIn.cons rfl (fun K hK => ?_) AllReadyIn.nil
        go_simp
        refine hK _ _ ?_
        clear hK K
        try simp only [Act.put, List.setIfInBounds_toArray, List.set_cons_zero, List.set_cons_succ]
        refine wpAnyIn_ready (rs := [3]) (by kernel_rfl) (by simp) ?_
        refine AllReadyIn.cons rfl (fun K hK => ?_) AllReadyIn.nil
        go_simp
        refine hK _ _ ?_
        clear hK K
        try simp only [Act.put, List.setIfInBounds_toArray, List.set_cons_zero, List.set_cons_succ]
        refine wpAnyIn_ready (rs := [6]) (by kernel_rfl) (by simp) ?_
        refine AllReadyIn.cons rfl (fun K hK => ?_) AllReadyIn.nil
        go_simp
        refine ⟨trivial, (callsIn_wide.2 (dends_any (some ⟨rp, 0, none⟩) (some ⟨g, 0, none⟩) t.pre.length rc W5)).mono ?_⟩
        rintro e W6 ⟨rfl, rfl⟩
        refine hK _ _ ?_
        clear hK K
        try simp only [Act.put, List.setIfInBounds_toArray, List.set_cons_zero, List.set_cons_succ]
        refine wpAnyIn_done (by kernel_rfl) ?_ _
        gi_wp2
        gi_meet
        exact ⟨W5, g, rc, rfl, rfl, hro, hrc, hg0, hb5⟩
      refine AllReadyIn.cons rfl (fun K hK => ?_) AllReadyIn.nil
      go_simp
      refine ⟨trivial, (callsIn_wide.2 (HRo.out ())).mono ?_⟩
      rintro e W5 ⟨g, rc, rfl, hro, hrc, hg0, hb5⟩
      obtain ⟨v0, v1⟩ := HC5.out W5 hb5
      refine hK _ _ ?_
      clear hK K
      try simp only [Act.put, List.setIfInBounds_toArray, List.set_cons_zero, List.set_cons_succ]
      refine wpAnyIn_ready (rs := [1]) (by kernel_rfl) (by simp) ?_
      refine AllReadyIn.cons rfl (fun K hK => ?_) AllReadyIn.nil
      go_simp
      refine hK _ _ ?_
      clear hK K
      try simp only [Act.put, List.setIfInBounds_toArray, List.set_cons_zero, List.set_cons_succ]
      refine wpAnyIn_ready (rs := [2]) (by kernel_rfl) (by simp) ?_
      refine AllReadyIn.cons rfl (fun K hK => ?_) AllReadyIn.nil
      go_simp
      refine hK _ _ ?_
      clear hK K
      try simp only [Act.put, List.setIfInBounds_toArray, List.set_cons_zero, List.set_cons_succ]
      refine wpAnyIn_ready (rs := [3]) (by kernel_rfl) (by simp) ?_
      refine AllReadyIn.cons rfl (fun K hK => ?_) AllReadyIn.nil
      go_simp
      refine hK _ _ ?_
      clear hK K
      try simp only [Act.put, List.setIfInBounds_toArray, List.set_cons_zero, List.set_cons_succ]
      refine wpAnyIn_ready (rs := [6]) (by kernel_rfl) (by simp) ?_
      refine AllReadyIn.cons rfl (fun K hK => ?_) AllReadyIn.nil
      go_simp
      refine ⟨trivial, (callsIn_wide.2 (dends_any (some ⟨rp, 0, none⟩) (some ⟨g, 0, none⟩) t.pre.length rc W5)).mono ?_⟩
      rintro e W6 ⟨rfl, rfl⟩
      refine hK _ _ ?_
      clear hK K
      try simp only [Act.put, List.setIfInBounds_toArray, List.set_cons_zero, List.set_cons_succ]
      refine wpAnyIn_done (by kernel_rfl) ?_ _
      gi_wp2
      gi_meet
      exact ⟨W5, g, rc, rfl, rfl, hro, hrc, hg0, hb5⟩
    refine AllReadyIn.cons rfl (fun K hK => ?_) AllReadyIn.nil
    go_simp
    refine hK _ _ ?_
    clear hK K
    try simp only [Act.put, List.setIfInBounds_toArray, List.set_cons_zero, List.set_cons_succ]
    refine wpAnyIn_ready (rs := [0, 5]) (by kernel_rfl) (by simp) ?_
    refine AllReadyIn.cons rfl (fun K hK => ?_) ?_
    · go_simp
      refine hK _ _ ?_
      clear hK K
      try simp only [Act.put, List.setIfInBounds_toArray, List.set_cons_zero, List.set_cons_succ]
      refine wpAnyIn_ready (rs := [1, 5]) (by kernel_rfl) (by simp) ?_
      refine AllReadyIn.cons rfl (fun K hK => ?_) ?_
      · go_simp
        refine hK _ _ ?_
        clear hK K
        try simp only [Act.put, List.setIfInBounds_toArray, List.set_cons_zero, List.set_cons_succ]
        refine wpAnyIn_ready (rs := [2, 5]) (by kernel_rfl) (by simp) ?_
        refine AllReadyIn.cons rfl (fun K hK => ?_) ?_
        · go_simp
          refine hK _ _ ?_
          clear hK K
          try simp only [Act.put, List.setIfInBounds_toArray, List.set_cons_zero, List.set_cons_succ]
          refine wpAnyIn_ready (rs := [3, 5]) (by kernel_rfl) (by simp) ?_
          refine AllReadyIn.cons rfl (fun K hK => ?_) ?_
          · go_simp
            refine hK _ _ ?_
            clear hK K
            try simp only [Act.put, List.setIfInBounds_toArray, List.set_cons_zero, List.set_cons_succ]
            refine wpAnyIn_ready (rs := [5]) (by kernel_rfl) (by simp) ?_
            refine AllReadyIn.cons rfl (fun K hK => ?_) AllReadyIn.nil
            go_simp
            refine ⟨trivial, (callsIn_wide.2 (HRo.out ())).mono ?_⟩
            rintro e W5 ⟨g, rc, rfl, hro, hrc, hg0, hb5⟩
            obtain ⟨v0, v1⟩ := HC5.out W5 hb5
            refine hK _ _ ?_
            clear hK K
            try simp only [Act.put, List.setIfInBounds_toArray, List.set_cons_zero, List.set_cons_succ]
            refine wpAnyIn_ready (rs := [6]) (by kernel_rfl) (by simp) ?_
            refine AllReadyIn.cons rfl (fun K hK => ?_) AllReadyIn.nil
            go_simp
            refine ⟨trivial, (callsIn_wide.2 (dends_any (some ⟨rp, 0, none⟩) (some ⟨g, 0, none⟩) t.pre.length rc W5)).mono ?_⟩
            rintro e W6 ⟨rfl, rfl⟩
            refine hK _ _ ?_
            clear hK K
            try simp only [Act.put, List.setIfInBounds_toArray, List.set_cons_zero, List.set_cons_succ]
            refine wpAnyIn_done (by kernel_rfl) ?_ _
            gi_wp2
            gi_meet
            exact ⟨W5, g, rc, rfl, rfl, hro, hrc, hg0, hb5⟩
          refine AllReadyIn.cons rfl (fun K hK => ?_) AllReadyIn.nil
          go_simp
          refine ⟨trivial, (callsIn_wide.2 (HRo.out ())).mono ?_⟩
          rintro e W5 ⟨g, rc, rfl, hro, hrc, hg0, hb5⟩
          obtain ⟨v0, v1⟩ := HC5.out W5 hb5
          refine hK _ _ ?_
          clear hK K
          try simp only [Act.put, List.setIfInBounds_toArray, List.set_cons_zero, List.set_cons_succ]
          refine wpAnyIn_ready (rs := [3]) (by kernel_rfl) (by simp) ?_
          refine AllReadyIn.cons rfl (fun K hK => ?_) AllReadyIn.nil
          go_simp
          refine hK _ _ ?_
          clear hK K
          try simp only [Act.put, List.setIfInBounds_toArray, List.set_cons_zero, List.set_cons_succ]
          refine wpAnyIn_ready (rs := [6]) (by kernel_rfl) (by simp) ?_
          refine AllReadyIn.cons rfl (fun K hK => ?_) AllReadyIn.nil
          go_simp
          refine ⟨trivial, (callsIn_wide.2 (dends_any (some ⟨rp, 0, none⟩) (some ⟨g, 0, none⟩) t.pre.length rc W5)).mono ?_⟩
          rintro e W6 ⟨rfl, rfl⟩
          refine hK _ _ ?_
          clear hK K
          try simp only [Act.put, List.setIfInBounds_toArray, List.set_cons_zero, List.set_cons_succ]
          refine wpAnyIn_done (by kernel_rfl) ?_ _
          gi_wp2
          gi_meet
          exact ⟨W5, g, rc, rfl, rfl, hro, hrc, hg0, hb5⟩
        refine AllReadyIn.cons rfl (fun K hK => ?_) AllReadyIn.nil
        go_simp
        refine ⟨trivial, (callsIn_wide.2 (HRo.out ())).mono ?_⟩
        rintro e W5 ⟨g, rc, rfl, hro, hrc, hg0, hb5⟩
        obtain ⟨v0, v1⟩ := HC5.out W5 hb5
        refine hK _ _ ?_
        clear hK K
        try simp only [Act.put, List.setIfInBounds_toArray, List.set_cons_zero, List.set_cons_succ]
        refine wpAnyIn_ready (rs := [2]) (by kernel_rfl) (by simp) ?_
        refine AllReadyIn.cons rfl (fun K hK => ?_) AllReadyIn.nil
        go_simp
        refine hK _ _ ?_
        clear hK K
        try simp only [Act.put, List.setIfInBounds_toArray, List.set_cons_zero, List.set_cons_succ]
        refine wpAnyIn_ready (rs := [3]) (by kernel_rfl) (by simp) ?_
        refine AllReadyIn.cons rfl (fun K hK => ?_) AllReadyIn.nil
        go_simp
        refine hK _ _ ?_
        clear hK K
        try simp only [Act.put, List.setIfInBounds_toArray, List.set_cons_zero, List.set_cons_succ]
        refine wpAnyIn_ready (rs := [6]) (by kernel_rfl) (by simp) ?_
        refine AllReadyIn.cons rfl (fun K hK => ?_) AllReadyIn.nil
        go_simp
        refine ⟨trivial, (callsIn_wide.2 (dends_any (some ⟨rp, 0, none⟩) (some ⟨g, 0, none⟩) t.pre.length rc W5)).mono ?_⟩
        rintro e W6 ⟨rfl, rfl⟩
        refine hK _ _ ?_
        clear hK K
        try simp only [Act.put, List.setIfInBounds_toArray, List.set_cons_zero, List.set_cons_succ]
        refine wpAnyIn_done (by kernel_rfl) ?_ _
        gi_wp2
        gi_meet
        exact ⟨W5, g, rc, rfl, rfl, hro, hrc, hg0, hb5⟩
      refine AllReadyIn.cons rfl (fun K hK => ?_) AllReadyIn.nil
      go_simp
      refine ⟨trivial, (callsIn_wide.2 (HRo.out ())).mono ?_⟩
      rintro e W5 ⟨g, rc, rfl, hro, hrc, hg0, hb5⟩
      obtain ⟨v0, v1⟩ := HC5.out W5 hb5
      refine hK _ _ ?_
      clear hK K
      try simp only [Act.put, List.setIfInBounds_toArray, List.set_cons_zero, List.set_cons_succ]
      refine wpAnyIn_ready (rs := [1]) (by kernel_rfl) (by simp) ?_
      refine AllReadyIn.cons rfl (fun K hK => ?_) AllReadyIn.nil
      go_simp
      refine hK _ _ ?_
      clear hK K
      try simp only [Act.put, List.setIfInBounds_toArray, List.set_cons_zero, List.set_cons_succ]
      refine wpAnyIn_ready (rs := [2]) (by kernel_rfl) (by simp) ?_
      refine AllReadyIn.cons rfl (fun K hK => ?_) AllReadyIn.nil
      go_simp
      refine hK _ _ ?_
      clear hK K
      try simp only [Act.put, List.setIfInBounds_toArray, List.set_cons_zero, List.set_cons_succ]
      refine wpAnyIn_ready (rs := [3]) (by kernel_rfl) (by simp) ?_
      refine AllReadyIn.cons rfl (fun K hK => ?_) AllReadyIn.nil
      go_simp
      refine hK _ _ ?_
      clear hK K
      try simp only [Act.put, List.setIfInBounds_toArray, List.set_cons_zero, List.set_cons_succ]
      refine wpAnyIn_ready (rs := [6]) (by kernel_rfl) (by simp) ?_
      refine AllReadyIn.cons rfl (fun K hK => ?_) AllReadyIn.nil
      go_simp
      refine ⟨trivial, (callsIn_wide.2 (dends_any (some ⟨rp, 0, none⟩) (some ⟨g, 0, none⟩) t.pre.length rc W5)).mono ?_⟩
      rintro e W6 ⟨rfl, rfl⟩
      refine hK _ _ ?_
      clear hK K
      try simp only [Act.put, List.setIfInBounds_toArray, List.set_cons_zero, List.set_cons_succ]
      refine wpAnyIn_done (by kernel_rfl) ?_ _
      gi_wp2
      gi_meet
      exact ⟨W5, g, rc, rfl, rfl, hro, hrc, hg0, hb5⟩
    refine AllReadyIn.cons rfl (fun K hK => ?_) AllReadyIn.nil
    go_simp
    refine ⟨trivial, (callsIn_wide.2 (HRo.out ())).mono ?_⟩
    rintro e W5 ⟨g, rc, rfl, hro, hrc, hg0, hb5⟩
    obtain ⟨v0, v1⟩ := HC5.out W5 hb5
    refine hK _ _ ?_
    clear hK K
    try simp only [Act.put, List.setIfInBounds_toArray, List.set_cons_zero, List.set_cons_succ]
    refine wpAnyIn_ready (rs := [0]) (by kernel_rfl) (by simp) ?_
    refine AllReadyIn.cons rfl (fun K hK => ?_) AllReadyIn.nil
    go_simp
    refine hK _ _ ?_
    clear hK K
    try simp only [Act.put, List.setIfInBounds_toArray, List.set_cons_zero, List.set_cons_succ]
    refine wpAnyIn_ready (rs := [1]) (by kernel_rfl) (by simp) ?_
    refine AllReadyIn.cons rfl (fun K hK => ?_) AllReadyIn.nil
    go_simp
    refine hK _ _ ?_
    clear hK K
    try simp only [Act.put, List.setIfInBounds_toArray, List.set_cons_zero, List.set_cons_succ]
    refine wpAnyIn_ready (rs := [2]) (by kernel_rfl) (by simp) ?_
    refine AllReadyIn.cons rfl (fun K hK => ?_) AllReadyIn.nil
    go_simp
    refine hK _ _ ?_
    clear hK K
    try simp only [Act.put, List.setIfInBounds_toArray, List.set_cons_zero, List.set_cons_succ]
    refine wpAnyIn_ready (rs := [3]) (by kernel_rfl) (by simp) ?_
    refine AllReadyIn.cons rfl (fun K hK => ?_) AllReadyIn.nil
    go_simp
    refine hK _ _ ?_
    clear hK K
    try simp only [Act.put, List.setIfInBounds_toArray, List.set_cons_zero, List.set_cons_succ]
    refine wpAnyIn_ready (rs := [6]) (by kernel_rfl) (by simp) ?_
    refine AllReadyIn.cons rfl (fun K hK => ?_) AllReadyIn.nil
    go_simp
    refine ⟨trivial, (callsIn_wide.2 (dends_any (some ⟨rp, 0, none⟩) (some ⟨g, 0, none⟩) t.pre.length rc W5)).mono ?_⟩
    rintro e W6 ⟨rfl, rfl⟩
    refine hK _ _ ?_
    clear hK K
    try simp only [Act.put, List.setIfInBounds_toArray, List.set_cons_zero, List.set_cons_succ]
    refine wpAnyIn_done (by kernel_rfl) ?_ _
    gi_wp2
    gi_meet
    exact ⟨W5, g, rc, rfl, rfl, hro, hrc, hg0, hb5⟩
  case rest =>
    obtain ⟨W5, g, rc, rfl, hwx, hro, hrc, hg0, hb5⟩ := hcut
    obtain ⟨hD0, he2, ha0, hr0, hsz0, hpl0, hsh0, hne0, hrp0, hsrt⟩ := H0.out
    obtain ⟨bd2, bd0, hbx0, hBl⟩ := HWs.out
    have b56 : Below W5.heap.size W5 wc := by rw [hwx]; exact below_box2 _ _ _
    have s6 : wc.heap.size = W5.heap.size + 1 + 1 := by rw [hwx]; simp
    have nb : wc.heap[W5.heap.size]? = some (.cells #[.pointer (some ⟨rp, 0, none⟩)] 60 (0, 0)) := by
      rw [hwx, Below.heap_alloc _ _ _ (by simp)]
      exact (MapKept.heap_alloc _ _).1
    have rb : wc.heap[W5.heap.size + 1]? = some (.cells #[.slice (some ⟨g, 0, none⟩) t.pre.length rc] 89 (0, 0)) := by
      have := (MapKept.heap_alloc (W5.alloc (.cells #[.pointer (some ⟨rp, 0, none⟩)] 60)) (.cells #[.slice (some ⟨g, 0, none⟩) t.pre.length rc] 89)).1
      rw [World.size_alloc] at this
      rw [hwx]; exact this
    have bdc : Below Wd.heap.size Wd wc := hb5.trans (b56.mono hb5.size)
    have b0c : Below w.heap.size w wc := bd0.trans (bdc.mono bd0.size)
    have hDc := HWh.out wc b0c
    have hgl : g < W5.heap.size := hro.1
    have hs5 := hb5.size
    have hG : GeS (fun b => b < wc.heap.size ∧ b ≠ Bh) wc P (numsOf es) y B (W5.heap.size + 1) g rc t.pre :=
      { tri := hDc.tre.tri, inB := fun r hr => ⟨hDc.tre.blt r hr, fun e => by have := hD0.tre.blt r hr; omega⟩, inR := ⟨by omega, by omega⟩, inG := ⟨by omega, by omega⟩, box := rb, rou := hro.keep b56.size (b56.block g hgl), oks := sub_shape t hsh0, len := ⟨by omega, hrc⟩ }
    have hbxc : Boxed wc Bh 44 (.slice none 0 0) := (bdc.block Bh hBl).trans hbx0
    have hI0 : HIx wc Bh es t [] [] wc := ⟨_, [], HIs.start hbxc (by simp)⟩
    have hP0 := hDc.tre.tri.root
    have hnb : wc.heap[W5.heap.size]? = some (.cells #[.pointer (some ⟨y.na [], 0, none⟩)] 60 (0, 0)) := by rw [hrp0]; exact nb
    have HG := hid hG
    have HQ : Hid (Dsc wc x es P y B M ∧ Below w.heap.size w wc ∧ w.heap.size + 1 + 1 ≤ Bh ∧ Bh < wc.heap.size ∧ wc.heap[w.heap.size]? = some (.cells #[.pointer (some ⟨x, 0, none⟩)] 24 (0, 0)) ∧ wc.heap[w.heap.size + 1]? = some (.cells #[.int .i64 t.v, .string t.fn, .slice a t.args.length c] 32 (0, 0))) :=
      ⟨hDc, b0c, sBh, by omega, (bdc.block _ (by omega)).trans ((bd2.block _ (by omega)).trans HB2.out.2.2.1), (bdc.block _ (by omega)).trans ((bd2.block _ (by omega)).trans HB2.out.2.2.2.1)⟩
    clear hwx hro hrc hg0 hb5 hD0 bd2 bd0 hbx0 b56 nb rb bdc hDc d0 d1 d2 d3 d4 hG hbxc hgl HC5 HRo HWs HCd
    gi_wp2
    refine range_g (iv := pvn y.na) (Ok := fun p (_ : Unit) => p ∈ P) (D := fun b => b < wc.heap.size ∧ b ≠ Bh) (nv := 1) (w0 := wc) (all := ends (· ∈ P) [] [t]) (E0 := []) (gf := 57) (lb := #[.pointer (some ⟨W5.heap.size + 1, 0, none⟩), .pointer (some ⟨W5.heap.size, 0, none⟩)]) 9 rfl (enters_of Tryz.func57 (by kernel_rfl) rfl) rfl (fun _ _ => rfl) (fun b hb => hb.1)
      (fun V hV => iterg_any HG.out W5.heap.size V (fun b hb => hV.block b hb.1) (fun b hb => Nat.lt_of_lt_of_le hb.1 hV.size) hP0 ((hV.block _ (by omega)).trans hnb))
      (HIx wc Bh es t) (fun _ _ _ => False) HIx.abide (fun _ _ _ _ _ _ h => h.elim) hI0 (fun E pre V h r hr => by obtain ⟨_, _, h⟩ := h; exact (h.low r hr).2)
      (fun p _ a' V => a' = { tmps := #[.pointer (some ⟨x, 0, none⟩), tval t (.slice a t.args.length c), .pointer (some ⟨w.heap.size, 0, none⟩), .pointer (some ⟨w.heap.size + 1, 0, none⟩), .slice none 0 0, .pointer (some ⟨Bh, 0, none⟩), .pointer (some ⟨y.na p, 0, none⟩), undef, undef, undef, undef, .pointer (some ⟨x, 0, none⟩), .int .i64 (es.length : Nat), .bool false, .bool false, .agg #[.int .i64 t.v, .string t.fn, .slice a t.args.length c], .int .i64 0, .bool false, .bool false, u19, u20, u21, u22, u23, u24, .func (.func 57) #[] #[.pointer (some ⟨W5.heap.size + 1, 0, none⟩), .pointer (some ⟨W5.heap.size, 0, none⟩)], .pointer (some ⟨y.na p, 0, none⟩), u27, u28, u29, u30, u31, u32, u33, u34, u35, u36, u37, u38, u39, u40, u41, u42, u43, u44, u45, u46, u47, u48, u49, u50, u51, u52, u53, u54, u55, u56, u57, u58], defers := [] })
      (fun p _ a' V l r o h _ => h)
      ?assign ?body ?done ?stop
    case assign =>
      intro l p _ V K hok hK
      gi_wp2
      exact hK _ _ (Below.refl _ _) rfl
    case body =>
      rintro l E pre p _ a' V ⟨v, hs, hi⟩ hl hw hok ⟨rest, hrest⟩ rfl
      obtain ⟨hDc, b0c, hB0, hB1, hx6, ht6⟩ := HQ.out
      have hTV : Trie V P (numsOf es) y B := hDc.tre.tri.keep (fun b hb => hw b (HG.out.inB b hb))
      have c4 : V.cell? ⟨y.na p, 4, none⟩ = some (.map (y.ua p)) := cell_store (vs := [_, _, _, _, _]) (hTV.cells p hok) rfl
      have hnums := hTV.nums p hok
      have hpn : p ∉ pre := fun hm => by
        have := ends_nodup (P := (· ∈ P)) (fsize [t]) [] [t] (Nat.le_refl _)
        rw [← hrest, List.nodup_append] at this
        exact this.2.2 p hm p (by simp) rfl
      have hVl := hi.only.size
      cases hua : y.ua p with
      | none =>
        rw [hua] at hnums c4
        have hnil : numsOf es p = [] := hnums
        have hrn := run_range_nilMap (P := Tryz.prog) V 77 3 114 Tryz.underlying77
        have hnx := run_next_nilMap (P := Tryz.prog) V 0 0 0 #[]
        have HE : Hid (KeptD (fun b => b < wc.heap.size ∧ b ≠ Bh) E V (V.alloc (.mapIter none 0 #[] 0)) ∧ HIx wc Bh es t E (pre ++ [p]) (V.alloc (.mapIter none 0 #[] 0))) := by
          have hb := below_box V (.mapIter none 0 #[] 0)
          refine ⟨⟨hb.size, fun b hb' => hb.block b (by omega), fun r hr => hb.block r (hi.low r hr).2⟩, v, hs, (hi.grow hb).skip (fun e he _ => ?_)⟩
          constructor
          · intro h1
            rcases List.mem_append.1 h1 with h1 | h1
            · exact h1
            · have h2 : e.1 ∈ numsOf es p := numsOf_mem.2 ⟨e, he, by simpa using h1, rfl⟩
              rw [hnil] at h2
              cases h2
          · intro h1
            exact List.mem_append_left _ h1
        clear hnums hTV hDc b0c hx6 ht6 hrest hw hi hnil
        gi_wp2
        gi_loopw [7, 8, 9, 10] (fun _ _ _ _ wr => wr = V.alloc (.mapIter none 0 #[] 0)) (fun _ _ _ _ _ => 0)
        case atStart => rfl
        case round =>
          subst hrel
          gi_wp2
          exact HE.out
      | some b =>
        rw [hua] at hnums c4
        have hbB : b ∈ B := (hTV.own p hok).2.2 b hua
        obtain ⟨Dm, hown, hDs, hRel⟩ : MapIs V 3 b (numM (numsOf es p)) (numsOf es p).length := hnums
        obtain ⟨nl, hnl⟩ : ∃ nl, (numsOf es p).length = nl := ⟨_, rfl⟩
        rw [hnl] at hown hDs
        obtain ⟨σ, hσ⟩ : ∃ σ : Sg, σ = fun z => if z ∈ numsOf es p then some (t, .slice none 0 0) else none := ⟨_, rfl⟩
        have hσm : ∀ z, σ z ≠ none ↔ z ∈ numsOf es p := fun z => by rw [hσ]; simp
        have hstart : ColS σ (Maps.has Dm) [] := ⟨List.nodup_nil, fun _ h => (by cases h), fun s hs kl hk => by
          have := (hRel (.int .i64 s) kl hk).1 (.agg #[]) (by simp [numM, (hσm s).1 hs])
          simp [this.1]⟩
        have HV : Hid (HIs wc Bh es t E (fun e => e.2.1.path ∈ pre) v hs V ∧ SameD (fun b => b < wc.heap.size ∧ b ≠ Bh) wc V ∧ b ∈ B ∧ (∀ z, σ z ≠ none ↔ z ∈ numsOf es p) ∧ p ∉ pre ∧ wc.heap.size ≤ V.heap.size) := ⟨hi, hw, hbB, hσm, hpn, hVl⟩
        have HRl := hid hRel
        have HSt := hid hstart
        clear hTV hDc b0c hx6 ht6 hrest hw hi hbB hσm hσ hpn hnl hRel hstart
        gi_wp2_with (first
          | (gi_at_range; refine wpListIn_range_own _ rfl _ 77 rfl 3 114 keyed3 Tryz.underlying77 _ b nl _ rfl hown ?_; intro w1 hrg0 hg0 hs0)
          | gi_in)
        go_frame
        gi_loopw [7, 8, 9, 10] (fun _ _ _ _ wr => ∃ (left : Lit → Bool) (cnt : Nat) (ss : List Int) (v : Value) (hs : List HE), wr.ranges Tryz.prog 3 Rid b V.heap.size nl Dm left cnt ∧ ss.length + cnt ≤ nl ∧ Hid (ColS σ left ss) ∧ Hid (HIs wc Bh es t (V.heap.size :: E) (fun e => e.2.1.path ∈ pre ∨ (e.2.1.path = p ∧ e.1 ∈ ss)) v hs wr ∧ V.heap.size ≤ wr.heap.size ∧ ∀ q ∈ E, wr.heap[q]? = V.heap[q]?)) (fun _ _ _ _ wr => wr.rangeLeft b V.heap.size)
        case atStart =>
          refine ⟨_, _, [], v, hs, hrg0, by simp [hDs], HSt.out, ((HV.out.1.kept hg0 (fun r e => by cases e) (fun r hr => ?_)).skip (fun e he _ => by simp)), hg0.size, fun q hq => hg0.block q (HV.out.1.low q hq).2 (fun e => by cases e)⟩
          rcases List.mem_cons.1 hr with rfl | hr
          · exact .inr ⟨Nat.le_refl _, by omega⟩
          · exact .inl hr
        case round =>
          obtain ⟨left, cnt, ss, v, hs, hrg, hcs, HC, HI⟩ := hrel
          gi_wp2_with (first
            | (gi_at_next; refine wpListIn_next_ranges (α := Value) (β := Value) _ rfl _ rfl 3 keyed3 Rid id id (fun key kl hk => ⟨key, rfl⟩) (fun v _ _ => ⟨v, rfl⟩) b V.heap.size nl _ _ _ rfl hrg ?_ ?_)
            | gi_in)
          · intro hc0 hl0
            gi_wp2
            have hall := HC.out.all (fun z hz => by obtain ⟨e, he, _, rfl⟩ := numsOf_mem.1 ((HV.out.2.2.2.1 z).1 hz); exact H0.out.1.fit e he) hl0
            refine ⟨⟨HI.out.2.1, fun q hq => (HI.out.1.only.block q hq.1 (by simpa using hq.2)).trans (HV.out.2.1 q hq).symm, HI.out.2.2⟩, v, hs, (HI.out.1.less (fun r hr => List.mem_cons_of_mem _ hr)).skip (fun e he _ => ?_)⟩
            rw [List.mem_append]
            constructor
            · rintro (h1 | h1)
              · exact .inl h1
              · have h1 : e.2.1.path = p := by simpa using h1
                exact .inr ⟨h1, (hall.2 _).2 ((HV.out.2.2.2.1 _).2 (numsOf_mem.2 ⟨e, he, h1, rfl⟩))⟩
            · rintro (h1 | h1)
              · exact .inl h1
              · right; simp [h1.1]
          · intro xk xc kl yd yp w2 cnt2 hkx hlk hv hat hrg2 hlt hg2 hs2 hen
            have hhas := Maps.has_true_of_atKey hat
            obtain ⟨s, rfl, hsS⟩ : ∃ s, xk = .int .i64 s ∧ s ∈ numsOf es p := numM_some fun e => by
              have := (HRl.out xk kl hkx).2 e
              rw [hhas] at this
              cases this
            obtain ⟨e0, he0, hpe, hes⟩ := numsOf_mem.1 hsS
            obtain ⟨hD0, he2, ha0, hr0, hsz0, hpl0, hsh0, hne0, hrp0, hsrt⟩ := H0.out
            obtain ⟨hDc, b0c, hB0, hB1, hx6, ht6⟩ := HQ.out
            have hI2 := HI.out.1.kept hg2 (fun r e => by cases e; simp) (fun _ h => .inl h)
            have hrV : V.heap.size < w2.heap.size := by have := (HI.out.1.low V.heap.size (by simp)).2; omega
            obtain ⟨Vd, hVd⟩ : ∃ X, w2.drew = X := ⟨_, rfl⟩
            have bd : Below w2.heap.size w2 Vd := by rw [← hVd]; exact (Below.refl _ w2).drew
            have hId := hI2.grow bd
            have sD : ∀ q, q < wc.heap.size → q ≠ Bh → Vd.heap[q]? = wc.heap[q]? := fun q h1 h2 => hId.only.block q h1 (by simpa using h2)
            have s0 : ∀ q, q < w.heap.size → Vd.heap[q]? = w.heap[q]? := fun q h1 => (sD q (by have := b0c.size; omega) (by omega)).trans (b0c.block q h1)
            have hcw := b0c.size
            have hVdw : w.heap.size ≤ Vd.heap.size := Nat.le_trans hcw hId.only.size
            have hxl := HB2.out.2.2.2.2
            have dx : Vd.cell? ⟨w.heap.size, 0, none⟩ = some (.pointer (some ⟨x, 0, none⟩)) := cell_store (vs := [_]) ((sD _ (by omega) (by omega)).trans hx6) rfl
            have dt := (sD (w.heap.size + 1) (by omega) (by omega)).trans ht6
            obtain ⟨dt0, dt1, dt2⟩ : Vd.cell? ⟨w.heap.size + 1, 0, none⟩ = some (.int .i64 t.v) ∧ Vd.cell? ⟨w.heap.size + 1, 1, none⟩ = some (.string t.fn) ∧ Vd.cell? ⟨w.heap.size + 1, 2, none⟩ = some (.slice a t.args.length c) := ⟨cell_store (vs := [_, _, _]) dt rfl, cell_store (vs := [_, _, _]) dt rfl, cell_store (vs := [_, _, _]) dt rfl⟩
            have dm : Vd.cell? ⟨x, 1, none⟩ = some (.map (some M)) := cell_store (vs := [_, _, _]) ((s0 x hxl).trans hD0.tre.box) rfl
            have hfit0 := hD0.fit e0 he0
            obtain ⟨ea, ec, hea⟩ := (hD0.ags e0 he0).slice
            have hlk0 : (Instr.lookup 61 (.map (some M)) (.int .i64 s) false).run Tryz.prog Vd = .ok (.agg #[.int .i64 e0.2.1.v, .string e0.2.1.fn, .slice ea e0.2.1.args.length ec, .pointer (some ⟨y.na e0.2.1.path, 0, none⟩)]) Vd := by
              have h1 := ((hD0.mp.same (s0 M hD0.mp.lt)).look keyed3 Tryz.underlying61 (zero49 Vd) (key3 (hes ▸ hfit0))).1 (entV y.na e0) (by rw [← hes]; exact tmM_some hD0.ids he0)
              unfold entV at h1
              rw [hea] at h1
              exact h1.2
            have hfld : ∀ Z : World, (Instr.field 67 (.agg #[.int .i64 e0.2.1.v, .string e0.2.1.fn, .slice ea e0.2.1.args.length ec, .pointer (some ⟨y.na e0.2.1.path, 0, none⟩)]) 0).run Tryz.prog Z = .ok (.agg #[.int .i64 e0.2.1.v, .string e0.2.1.fn, .slice ea e0.2.1.args.length ec]) Z := fun Z => by kernel_rfl
            have hA0 : ArgsAt Vd (.slice ea e0.2.1.args.length ec) e0.2.1.args := by
              have h1 := hD0.ags e0 he0
              rw [hea] at h1
              exact (h1.keep (P' := fun _ => True) hVdw (fun k _ hl => ⟨trivial, s0 k hl⟩)).args
            have hAt : ArgsAt Vd (.slice a t.args.length c) t.args := ((argsAt_P ha0).keep (P' := fun _ => True) hVdw (fun k _ hl => ⟨trivial, s0 k hl⟩)).args
            have HMa : Hid (Calls Tryz.prog 36 #[tval e0.2.1 (.slice ea e0.2.1.args.length ec), tval t (.slice a t.args.length c)] Vd fun e W => MatchIs Vd.heap.size e0.2.1 t e W ∧ Below Vd.heap.size Vd W) := match_any _ _ _ _ Vd hA0 hAt (hD0.rgt e0 he0).2 hsz0
            have HMc : Hid (∀ e W, MatchIs Vd.heap.size e0.2.1 t e W → ∃ bv bo, e = .returned (.tuple #[bv, .bool bo, .int .i64 0]) ∧ ((bo = false ∧ mres e0.2.1 t = none) ∨ (bo = true ∧ ∃ τ ks ba bn bc, mres e0.2.1 t = some τ ∧ bv = .slice ba bn bc ∧ RiseT τ ks ∧ BIn Vd.heap.size W.heap.size W bv (listB τ ks)))) := fun e W hM => by
              rcases hM with ⟨h1, _⟩ | ⟨_, h2, h3⟩ | ⟨_, τ, v, ks, h1, h2, h3, h4⟩
              · exact absurd ⟨(hD0.rgt e0 he0).1, hr0⟩ h1
              · exact ⟨_, _, h3, .inl ⟨rfl, h2⟩⟩
              · obtain ⟨ba, bc, hb, _⟩ := h4.at (Nat.le_refl _)
                exact ⟨_, _, h2, .inr ⟨rfl, τ, ks, ba, _, bc, h1, hb, h3, h4⟩⟩
            have hsn : s ∉ ss := fun hm => by rw [(HC.out.left s ((HV.out.2.2.2.1 s).2 hsS) kl hkx).1 hm] at hlk; cases hlk
            have HC2 : Hid (ColS σ (fun z => left z && !z.sameKey kl) (ss ++ [s])) := HC.out.step ((HV.out.2.2.2.1 s).2 hsS) hkx hlk
            have HZ : Hid (∀ Z : World, Z.heap[V.heap.size]? = w2.heap[V.heap.size]? → (∀ q, q < wc.heap.size → q ≠ Bh → Z.heap[q]? = wc.heap[q]?) → Z.ranges Tryz.prog 3 Rid b V.heap.size nl Dm (fun z => left z && !z.sameKey kl) cnt2) := fun Z h1 h2 => by
              have hbD := HG.out.inB b HV.out.2.2.1
              exact ranges_same hrg2 ((h2 b hbD.1 hbD.2).trans (hI2.only.block b hbD.1 (by simpa using hbD.2)).symm) h1
            have hSe : ¬ (e0.2.1.path ∈ pre ∨ (e0.2.1.path = p ∧ e0.1 ∈ ss)) := by
              rintro (h1 | h1)
              · rw [hpe] at h1; exact HV.out.2.2.2.2.1 h1
              · rw [hes] at h1; exact hsn h1.2
            have hSs : ∀ e ∈ es, ((e.2.1.path ∈ pre ∨ (e.2.1.path = p ∧ e.1 ∈ ss ++ [s])) ↔ (e.2.1.path ∈ pre ∨ (e.2.1.path = p ∧ e.1 ∈ ss)) ∨ e = e0) := fun e he => by
              constructor
              · rintro (h1 | ⟨h1, h2⟩)
                · exact .inl (.inl h1)
                · rcases List.mem_append.1 h2 with h2 | h2
                  · exact .inl (.inr ⟨h1, h2⟩)
                  · exact .inr (ids_inj hD0.ids he he0 (by rw [hes]; simpa using h2))
              · rintro ((h1 | ⟨h1, h2⟩) | rfl)
                · exact .inl h1
                · exact .inr ⟨h1, List.mem_append_left _ h2⟩
                · exact .inr ⟨hpe, by rw [hes]; simp⟩
            have HNo : Hid (∀ Wm, Below Vd.heap.size Vd Wm → mres e0.2.1 t = none → Wm.ranges Tryz.prog 3 Rid b V.heap.size nl Dm (fun z => left z && !z.sameKey kl) cnt2 ∧ Hid (HIs wc Bh es t (V.heap.size :: E) (fun e => e.2.1.path ∈ pre ∨ (e.2.1.path = p ∧ e.1 ∈ ss ++ [s])) v hs Wm ∧ V.heap.size ≤ Wm.heap.size ∧ ∀ q ∈ E, Wm.heap[q]? = V.heap[q]?)) := fun Wm hbm hno => by
              have b2m : Below w2.heap.size w2 Wm := bd.trans (hbm.mono bd.size)
              have hIm := hId.grow hbm
              refine ⟨HZ.out Wm (b2m.block _ hrV) (fun q h1 h2 => hIm.only.block q h1 (by simpa using h2)), hIm.skip (fun e he hme => ?_), Nat.le_trans (Nat.le_of_lt hrV) b2m.size, fun q hq => ?_⟩
              · rw [hSs e he]
                constructor
                · rintro (h1 | rfl)
                  · exact h1
                  · exact absurd hno hme
                · exact .inl
              · have hql : q < wr.heap.size := (HI.out.1.low q (by simp [hq])).2
                exact (b2m.block q (by omega)).trans ((hg2.block q hql (fun e => by have := HV.out.1.low q hq; cases e; omega)).trans (HI.out.2.2 q hq))
            obtain ⟨va, vc, hva⟩ := rowB_form hId.row
            obtain ⟨hl9, hhl⟩ : ∃ n, hs.length = n := ⟨_, rfl⟩
            have hhb : hl9 ≤ 200 := by
              rw [← hhl]
              have h1 := nodup_len (hs.map (·.1)) (es.map (·.1)) hId.nd (fun z hz => by obtain ⟨e, he, h1, _⟩ := (hId.ids z).1 hz; exact List.mem_map.2 ⟨e, he, h1⟩)
              simp only [List.length_map] at h1
              omega
            have HFin : Hid (∀ Wm, Below Vd.heap.size Vd Wm → ∀ τ ks ba bn bc, mres e0.2.1 t = some τ → RiseT τ ks → BIn Vd.heap.size Wm.heap.size Wm (.slice ba bn bc) (listB τ ks) →
                (Wm.cell? ⟨Bh, 0, none⟩ = some (.slice va hl9 vc)) ∧ ((Wm.alloc (.cells #[.int .i64 s, .slice ba bn bc] 57)).ownsRow wc.heap.size 57 2 (.slice va hl9 vc) hl9 (flH hs) ∧ wc.heap.size ≤ (Wm.alloc (.cells #[.int .i64 s, .slice ba bn bc] 57)).heap.size) ∧
                ∀ v' w3, w3.ownsRow wc.heap.size 57 2 v' (hl9 + 1) (flH hs ++ [.int .i64 s, .slice ba bn bc]) → (Wm.alloc (.cells #[.int .i64 s, .slice ba bn bc] 57)).grownBy w3 (Value.slice va hl9 vc).ownBlock → (v'.ownBlock = (Value.slice va hl9 vc).ownBlock ∨ v'.ownBlock = some (Wm.alloc (.cells #[.int .i64 s, .slice ba bn bc] 57)).heap.size) →
                  (w3.cell? ⟨Bh, 0, none⟩ = some (.slice va hl9 vc) ∧ w3.frozen? ⟨Bh, 0, none⟩ = false) ∧ ((w3.setCell ⟨Bh, 0, none⟩ v').ranges Tryz.prog 3 Rid b V.heap.size nl Dm (fun z => left z && !z.sameKey kl) cnt2 ∧ Hid (HIs wc Bh es t (V.heap.size :: E) (fun e => e.2.1.path ∈ pre ∨ (e.2.1.path = p ∧ e.1 ∈ ss ++ [s])) v' (hs ++ [(s, ba, bn, bc)]) (w3.setCell ⟨Bh, 0, none⟩ v') ∧ V.heap.size ≤ (w3.setCell ⟨Bh, 0, none⟩ v').heap.size ∧ ∀ q ∈ E, (w3.setCell ⟨Bh, 0, none⟩ v').heap[q]? = V.heap[q]?))) := by
              intro Wm hbm τ ks ba bn bc hτ hri hBI
              rw [← hhl, ← hva]
              have hIm := hId.grow hbm
              have hIa := hIm.grow (below_box Wm (.cells #[.int .i64 s, .slice ba bn bc] 57))
              refine ⟨hIm.bx.cell, ⟨hIa.row, hIa.only.size⟩, fun v' w3 hown' hg' hat' => ?_⟩
              obtain ⟨hcf, hIn⟩ := hId.push hbm e0 he0 hD0.ids hSe hSs hτ hri (x := (s, ba, bn, bc)) hes.symm hBI v' w3 hown' hg' hat'
              have hblk : ∀ q, q < w2.heap.size → q ≠ Bh → v.ownBlock ≠ some q → (w3.setCell ⟨Bh, 0, none⟩ v').heap[q]? = w2.heap[q]? := fun q h1 h2 h3 => by
                have e1 : (w3.setCell ⟨Bh, 0, none⟩ v').heap[q]? = w3.heap[q]? := Below.heap_setCell _ _ _ q h2
                have hq1 : q < Wm.heap.size := Nat.lt_of_lt_of_le h1 (Nat.le_trans bd.size hbm.size)
                rw [e1, hg'.block q (by simp; omega) (fun e => h3 e.symm), Below.heap_alloc _ _ _ hq1]
                exact (hbm.block q (Nat.lt_of_lt_of_le h1 bd.size)).trans (bd.block q h1)
              have hmn : ∀ q ∈ V.heap.size :: E, v.ownBlock ≠ some q := fun q hq e => hId.mine q e hq
              have hVw := HV.out.2.2.2.2.2
              refine ⟨hcf, HZ.out _ (hblk _ hrV (by omega) (hmn _ (by simp))) (fun q h1 h2 => hIn.only.block q h1 (by simpa using h2)), hIn, ?_, fun q hq => ?_⟩
              · have := hIn.low V.heap.size (by simp); omega
              · have hql : q < wr.heap.size := (HI.out.1.low q (by simp [hq])).2
                have hq0 := HV.out.1.low q hq
                exact (hblk q (by omega) (by omega) (hmn q (by simp [hq]))).trans ((hg2.block q hql (fun e => by cases e; omega)).trans (HI.out.2.2 q hq))
            have hle := hrg.left_eq
            have hcs2 : (ss ++ [s]).length + cnt2 ≤ nl := by simp; omega
            obtain ⟨i0, hi0, hz0, hz1, hz2⟩ := info_parts Tryz.info57
            have HHf := hid hfld
            clear hhas hsS hpe hes hD0 he2 ha0 hr0 hsz0 hpl0 hsh0 hne0 hrp0 hsrt hDc b0c hx6 ht6 hI2 bd hId sD s0 hcw hVdw dt hfit0 hea hA0 hAt hsn hSe hSs hva hhl hrg2 hrg hg2 hkx hlk hv hat hxl hB0 hB1 hfld
            gi_upto_region 9 with fail
            refine wpIn_region_any (by kernel_rfl) ?_
            refine wpAnyIn_round (by kernel_rfl) _ _ _ _ ?_
            try (change wpAnyIn _ _ _ _ _ _ _ _ _ (World.drew _))
            rw [hVd]
            refine wpAnyIn_take (i := 4) (v := .int .i64 s) rfl rfl (by kernel_rfl) (by kernel_rfl) (by kernel_rfl) (fun _ _ _ h => h) ⟨Or.inl ⟨by rfl, fun Z => by go_simp⟩, fun _ => rfl⟩ ?_
            try simp only [Act.put, List.setIfInBounds_toArray]
            refine wpAnyIn_ready (rs := [0, 7]) (by kernel_rfl) (by simp) ?_
            refine AllReadyIn.cons rfl (fun K hK => ?_) ?_
            · go_simp
              refine hK _ _ ?_
              clear hK K
              try simp only [Act.put, List.setIfInBounds_toArray, List.set_cons_zero, List.set_cons_succ]
              refine wpAnyIn_take (i := 1) (v := .pointer (some ⟨x, 0, none⟩)) rfl rfl (by kernel_rfl) (by kernel_rfl) (by kernel_rfl) (fun _ _ _ h => h) ⟨Or.inl ⟨by rfl, fun Z => by go_simp⟩, fun _ => rfl⟩ ?_
              try simp only [Act.put, List.setIfInBounds_toArray]
              refine wpAnyIn_take (i := 2) (v := .pointer (some ⟨x, 1, none⟩)) rfl rfl (by kernel_rfl) (by kernel_rfl) (by kernel_rfl) (fun _ _ _ h => h) ⟨Or.inl ⟨by rfl, fun Z => by go_simp⟩, fun _ => rfl⟩ ?_
              try simp only [Act.put]
              refine wpAnyIn_ready (rs := [3, 7]) (by kernel_rfl) (by simp) ?_
              refine AllReadyIn.cons rfl (fun K hK => ?_) ?_
              · go_simp
                refine hK _ _ ?_
                clear hK K
                try simp only [Act.put, List.setIfInBounds_toArray, List.set_cons_zero, List.set_cons_succ]
                refine wpAnyIn_ready (rs := [5, 7]) (by kernel_rfl) (by simp) ?_
                refine AllReadyIn.cons rfl (fun K hK => ?_) ?_
                · go_simp
                  refine hK _ _ ?_
                  clear hK K
                  try simp only [Act.put, List.setIfInBounds_toArray, List.set_cons_zero, List.set_cons_succ]
                  refine wpAnyIn_take (i := 6) (v := .agg #[.int .i64 e0.2.1.v, .string e0.2.1.fn, .slice ea e0.2.1.args.length ec]) rfl rfl (by kernel_rfl) (by kernel_rfl) (by kernel_rfl) (fun _ _ _ h => h) ⟨Or.inl ⟨by rfl, fun Z => by first | (have hf := HHf.out Z; go_simp; done) | (go_simp; rw [HHf.out Z]; rfl) | (go_simp; simp [HHf.out Z])⟩, fun _ => rfl⟩ ?_
                  try simp only [Act.put, List.setIfInBounds_toArray]
                  refine wpAnyIn_ready (rs := [7]) (by kernel_rfl) (by simp) ?_
                  refine AllReadyIn.cons rfl (fun K hK => ?_) AllReadyIn.nil
                  go_simp
                  refine hK _ _ ?_
                  clear hK K
                  try simp only [Act.put, List.setIfInBounds_toArray, List.set_cons_zero, List.set_cons_succ]
                  refine wpAnyIn_ready (rs := [8]) (by kernel_rfl) (by simp) ?_
                  refine AllReadyIn.cons rfl (fun K hK => ?_) AllReadyIn.nil
                  go_simp
                  refine ⟨trivial, (callsIn_wide.2 HMa.out).mono ?_⟩
                  rintro e Wm ⟨hMi, hbm⟩
                  obtain ⟨bv, bo, rfl, HMr⟩ := HMc.out e Wm hMi
                  clear hMi
                  refine hK _ _ ?_
                  clear hK K
                  try simp only [Act.put, List.setIfInBounds_toArray, List.set_cons_zero, List.set_cons_succ]
                  refine wpAnyIn_take (i := 9) (v := .tuple #[bv, .bool bo, .int .i64 0]) rfl rfl (by kernel_rfl) (by kernel_rfl) (by kernel_rfl) (fun _ _ _ h => h) ⟨Or.inl ⟨by rfl, fun Z => by go_simp⟩, fun _ => rfl⟩ ?_
                  try simp only [Act.put, List.setIfInBounds_toArray]
                  refine wpAnyIn_take (i := 10) (v := bv) rfl rfl (by kernel_rfl) (by kernel_rfl) (by kernel_rfl) (fun _ _ _ h => h) ⟨Or.inl ⟨by rfl, fun Z => by go_simp⟩, fun _ => rfl⟩ ?_
                  try simp only [Act.put]
                  refine wpAnyIn_take (i := 11) (v := .bool bo) rfl rfl (by kernel_rfl) (by kernel_rfl) (by kernel_rfl) (fun _ _ _ h => h) ⟨Or.inl ⟨by rfl, fun Z => by go_simp⟩, fun _ => rfl⟩ ?_
                  try simp only [Act.put]
                  refine wpAnyIn_take (i := 12) (v := .int .i64 0) rfl rfl (by kernel_rfl) (by kernel_rfl) (by kernel_rfl) (fun _ _ _ h => h) ⟨Or.inl ⟨by rfl, fun Z => by go_simp⟩, fun _ => rfl⟩ ?_
                  try simp only [Act.put]
                  refine wpAnyIn_take (i := 13) (v := bv) rfl rfl (by kernel_rfl) (by kernel_rfl) (by kernel_rfl) (fun _ _ _ h => h) ⟨Or.inl ⟨by rfl, fun Z => by go_simp⟩, fun _ => rfl⟩ ?_
                  try simp only [Act.put]
                  refine wpAnyIn_take (i := 14) (v := .bool bo) rfl rfl (by kernel_rfl) (by kernel_rfl) (by kernel_rfl) (fun _ _ _ h => h) ⟨Or.inl ⟨by rfl, fun Z => by go_simp⟩, fun _ => rfl⟩ ?_
                  try simp only [Act.put]
                  refine wpAnyIn_take (i := 15) (v := .int .i64 0) rfl rfl (by kernel_rfl) (by kernel_rfl) (by kernel_rfl) (fun _ _ _ h => h) ⟨Or.inl ⟨by rfl, fun Z => by go_simp⟩, fun _ => rfl⟩ ?_
                  try simp only [Act.put]
                  refine wpAnyIn_done (by kernel_rfl) ?_ _
                  rcases HMr with ⟨rfl, hno⟩ | ⟨rfl, τ, ks, ba, bn, bc, hτ, rfl, hri, hBI⟩
                  · obtain ⟨hrgN, HIN⟩ := HNo.out Wm hbm hno
                    gi_wp2
                    go_roundw
                    case rel => exact ⟨_, cnt2, ss ++ [s], v, hs, hrgN, hcs2, HC2, HIN⟩
                    case measure => rw [hrgN.left_eq, hle]; exact hlt
                  · obtain ⟨hbc, HRw, hfin⟩ := HFin.out Wm hbm τ ks ba bn bc hτ hri hBI
                    clear hri hBI hτ
                    gi_wp2_with (first
                      | (gi_at_builtin; refine wpListIn_append_own_at _ rfl _ _ 44 rfl wc.heap.size 57 i0 _ 2 32 Tryz.underlying44 hi0 hz0 hz1 hz2 rfl (by decide) _ _ _ rfl HRw.1 ⟨Wm.heap.size, 0, none⟩ 1 1 [.int .i64 s, .slice ba bn bc] rfl rfl (lit2h _ _ _) one2h (by unfold maxLen; omega) (by omega) HRw.2 ?_; intro v' w3 hown' hg' _ hat'; obtain ⟨⟨f1, f2⟩, hrgY, HIY⟩ := hfin v' w3 hown' hg' hat'; obtain ⟨a', cap', rfl⟩ := rowB_form hown'; clear hown' hg' hat' hfin HRw))
                    go_roundw
                    case rel => exact ⟨_, cnt2, ss ++ [s], _, _, hrgY, hcs2, HC2, HIY⟩
                    case measure => rw [hrgY.left_eq, hle]; exact hlt
                refine AllReadyIn.cons rfl (fun K hK => ?_) AllReadyIn.nil
                go_simp
                refine hK _ _ ?_
                clear hK K
                try simp only [Act.put, List.setIfInBounds_toArray, List.set_cons_zero, List.set_cons_succ]
                refine wpAnyIn_ready (rs := [5]) (by kernel_rfl) (by simp) ?_
                refine AllReadyIn.cons rfl (fun K hK => ?_) AllReadyIn.nil
                go_simp
                refine hK _ _ ?_
                clear hK K
                try simp only [Act.put, List.setIfInBounds_toArray, List.set_cons_zero, List.set_cons_succ]
                refine wpAnyIn_take (i := 6) (v := .agg #[.int .i64 e0.2.1.v, .string e0.2.1.fn, .slice ea e0.2.1.args.length ec]) rfl rfl (by kernel_rfl) (by kernel_rfl) (by kernel_rfl) (fun _ _ _ h => h) ⟨Or.inl ⟨by rfl, fun Z => by first | (have hf := HHf.out Z; go_simp; done) | (go_simp; rw [HHf.out Z]; rfl) | (go_simp; simp [HHf.out Z])⟩, fun _ => rfl⟩ ?_
                try simp only [Act.put, List.setIfInBounds_toArray]
                refine wpAnyIn_ready (rs := [8]) (by kernel_rfl) (by simp) ?_
                refine AllReadyIn.cons rfl (fun K hK => ?_) AllReadyIn.nil
                go_simp
                refine ⟨trivial, (callsIn_wide.2 HMa.out).mono ?_⟩
                rintro e Wm ⟨hMi, hbm⟩
                obtain ⟨bv, bo, rfl, HMr⟩ := HMc.out e Wm hMi
                clear hMi
                refine hK _ _ ?_
                clear hK K
                try simp only [Act.put, List.setIfInBounds_toArray, List.set_cons_zero, List.set_cons_succ]
                refine wpAnyIn_take (i := 9) (v := .tuple #[bv, .bool bo, .int .i64 0]) rfl rfl (by kernel_rfl) (by kernel_rfl) (by kernel_rfl) (fun _ _ _ h => h) ⟨Or.inl ⟨by rfl, fun Z => by go_simp⟩, fun _ => rfl⟩ ?_
                try simp only [Act.put, List.setIfInBounds_toArray]
                refine wpAnyIn_take (i := 10) (v := bv) rfl rfl (by kernel_rfl) (by kernel_rfl) (by kernel_rfl) (fun _ _ _ h => h) ⟨Or.inl ⟨by rfl, fun Z => by go_simp⟩, fun _ => rfl⟩ ?_
                try simp only [Act.put]
                refine wpAnyIn_take (i := 11) (v := .bool bo) rfl rfl (by kernel_rfl) (by kernel_rfl) (by kernel_rfl) (fun _ _ _ h => h) ⟨Or.inl ⟨by rfl, fun Z => by go_simp⟩, fun _ => rfl⟩ ?_
                try simp only [Act.put]
                refine wpAnyIn_take (i := 12) (v := .int .i64 0) rfl rfl (by kernel_rfl) (by kernel_rfl) (by kernel_rfl) (fun _ _ _ h => h) ⟨Or.inl ⟨by rfl, fun Z => by go_simp⟩, fun _ => rfl⟩ ?_
                try simp only [Act.put]
                refine wpAnyIn_take (i := 13) (v := bv) rfl rfl (by kernel_rfl) (by kernel_rfl) (by kernel_rfl) (fun _ _ _ h => h) ⟨Or.inl ⟨by rfl, fun Z => by go_simp⟩, fun _ => rfl⟩ ?_
                try simp only [Act.put]
                refine wpAnyIn_take (i := 14) (v := .bool bo) rfl rfl (by kernel_rfl) (by kernel_rfl) (by kernel_rfl) (fun _ _ _ h => h) ⟨Or.inl ⟨by rfl, fun Z => by go_simp⟩, fun _ => rfl⟩ ?_
                try simp only [Act.put]
                refine wpAnyIn_take (i := 15) (v := .int .i64 0) rfl rfl (by kernel_rfl) (by kernel_rfl) (by kernel_rfl) (fun _ _ _ h => h) ⟨Or.inl ⟨by rfl, fun Z => by go_simp⟩, fun _ => rfl⟩ ?_
                try simp only [Act.put]
                refine wpAnyIn_done (by kernel_rfl) ?_ _
                rcases HMr with ⟨rfl, hno⟩ | ⟨rfl, τ, ks, ba, bn, bc, hτ, rfl, hri, hBI⟩
                · obtain ⟨hrgN, HIN⟩ := HNo.out Wm hbm hno
                  gi_wp2
                  go_roundw
                  case rel => exact ⟨_, cnt2, ss ++ [s], v, hs, hrgN, hcs2, HC2, HIN⟩
                  case measure => rw [hrgN.left_eq, hle]; exact hlt
                · obtain ⟨hbc, HRw, hfin⟩ := HFin.out Wm hbm τ ks ba bn bc hτ hri hBI
                  clear hri hBI hτ
                  gi_wp2_with (first
                    | (gi_at_builtin; refine wpListIn_append_own_at _ rfl _ _ 44 rfl wc.heap.size 57 i0 _ 2 32 Tryz.underlying44 hi0 hz0 hz1 hz2 rfl (by decide) _ _ _ rfl HRw.1 ⟨Wm.heap.size, 0, none⟩ 1 1 [.int .i64 s, .slice ba bn bc] rfl rfl (lit2h _ _ _) one2h (by unfold maxLen; omega) (by omega) HRw.2 ?_; intro v' w3 hown' hg' _ hat'; obtain ⟨⟨f1, f2⟩, hrgY, HIY⟩ := hfin v' w3 hown' hg' hat'; obtain ⟨a', cap', rfl⟩ := rowB_form hown'; clear hown' hg' hat' hfin HRw))
                  go_roundw
                  case rel => exact ⟨_, cnt2, ss ++ [s], _, _, hrgY, hcs2, HC2, HIY⟩
                  case measure => rw [hrgY.left_eq, hle]; exact hlt
              refine AllReadyIn.cons rfl (fun K hK => ?_) AllReadyIn.nil
              go_simp
              refine hK _ _ ?_
              clear hK K
              try simp only [Act.put, List.setIfInBounds_toArray, List.set_cons_zero, List.set_cons_succ]
              refine wpAnyIn_ready (rs := [3]) (by kernel_rfl) (by simp) ?_
              refine AllReadyIn.cons rfl (fun K hK => ?_) AllReadyIn.nil
              go_simp
              refine hK _ _ ?_
              clear hK K
              try simp only [Act.put, List.setIfInBounds_toArray, List.set_cons_zero, List.set_cons_succ]
              refine wpAnyIn_ready (rs := [5]) (by kernel_rfl) (by simp) ?_
              refine AllReadyIn.cons rfl (fun K hK => ?_) AllReadyIn.nil
              go_simp
              refine hK _ _ ?_
              clear hK K
              try simp only [Act.put, List.setIfInBounds_toArray, List.set_cons_zero, List.set_cons_succ]
              refine wpAnyIn_take (i := 6) (v := .agg #[.int .i64 e0.2.1.v, .string e0.2.1.fn, .slice ea e0.2.1.args.length ec]) rfl rfl (by kernel_rfl) (by kernel_rfl) (by kernel_rfl) (fun _ _ _ h => h) ⟨Or.inl ⟨by rfl, fun Z => by first | (have hf := HHf.out Z; go_simp; done) | (go_simp; rw [HHf.out Z]; rfl) | (go_simp; simp [HHf.out Z])⟩, fun _ => rfl⟩ ?_
              try simp only [Act.put, List.setIfInBounds_toArray]
              refine wpAnyIn_ready (rs := [8]) (by kernel_rfl) (by simp) ?_
              refine AllReadyIn.cons rfl (fun K hK => ?_) AllReadyIn.nil
              go_simp
              refine ⟨trivial, (callsIn_wide.2 HMa.out).mono ?_⟩
              rintro e Wm ⟨hMi, hbm⟩
              obtain ⟨bv, bo, rfl, HMr⟩ := HMc.out e Wm hMi
              clear hMi
              refine hK _ _ ?_
              clear hK K
              try simp only [Act.put, List.setIfInBounds_toArray, List.set_cons_zero, List.set_cons_succ]
              refine wpAnyIn_take (i := 9) (v := .tuple #[bv, .bool bo, .int .i64 0]) rfl rfl (by kernel_rfl) (by kernel_rfl) (by kernel_rfl) (fun _ _ _ h => h) ⟨Or.inl ⟨by rfl, fun Z => by go_simp⟩, fun _ => rfl⟩ ?_
              try simp only [Act.put, List.setIfInBounds_toArray]
              refine wpAnyIn_take (i := 10) (v := bv) rfl rfl (by kernel_rfl) (by kernel_rfl) (by kernel_rfl) (fun _ _ _ h => h) ⟨Or.inl ⟨by rfl, fun Z => by go_simp⟩, fun _ => rfl⟩ ?_
              try simp only [Act.put]
              refine wpAnyIn_take (i := 11) (v := .bool bo) rfl rfl (by kernel_rfl) (by kernel_rfl) (by kernel_rfl) (fun _ _ _ h => h) ⟨Or.inl ⟨by rfl, fun Z => by go_simp⟩, fun _ => rfl⟩ ?_
              try simp only [Act.put]
              refine wpAnyIn_take (i := 12) (v := .int .i64 0) rfl rfl (by kernel_rfl) (by kernel_rfl) (by kernel_rfl) (fun _ _ _ h => h) ⟨Or.inl ⟨by rfl, fun Z => by go_simp⟩, fun _ => rfl⟩ ?_
              try simp only [Act.put]
              refine wpAnyIn_take (i := 13) (v := bv) rfl rfl (by kernel_rfl) (by kernel_rfl) (by kernel_rfl) (fun _ _ _ h => h) ⟨Or.inl ⟨by rfl, fun Z => by go_simp⟩, fun _ => rfl⟩ ?_
              try simp only [Act.put]
              refine wpAnyIn_take (i := 14) (v := .bool bo) rfl rfl (by kernel_rfl) (by kernel_rfl) (by kernel_rfl) (fun _ _ _ h => h) ⟨Or.inl ⟨by rfl, fun Z => by go_simp⟩, fun _ => rfl⟩ ?_
              try simp only [Act.put]
              refine wpAnyIn_take (i := 15) (v := .int .i64 0) rfl rfl (by kernel_rfl) (by kernel_rfl) (by kernel_rfl) (fun _ _ _ h => h) ⟨Or.inl ⟨by rfl, fun Z => by go_simp⟩, fun _ => rfl⟩ ?_
              try simp only [Act.put]
              refine wpAnyIn_done (by kernel_rfl) ?_ _
              rcases HMr with ⟨rfl, hno⟩ | ⟨rfl, τ, ks, ba, bn, bc, hτ, rfl, hri, hBI⟩
              · obtain ⟨hrgN, HIN⟩ := HNo.out Wm hbm hno
                gi_wp2
                go_roundw
                case rel => exact ⟨_, cnt2, ss ++ [s], v, hs, hrgN, hcs2, HC2, HIN⟩
                case measure => rw [hrgN.left_eq, hle]; exact hlt
              · obtain ⟨hbc, HRw, hfin⟩ := HFin.out Wm hbm τ ks ba bn bc hτ hri hBI
                clear hri hBI hτ
                gi_wp2_with (first
                  | (gi_at_builtin; refine wpListIn_append_own_at _ rfl _ _ 44 rfl wc.heap.size 57 i0 _ 2 32 Tryz.underlying44 hi0 hz0 hz1 hz2 rfl (by decide) _ _ _ rfl HRw.1 ⟨Wm.heap.size, 0, none⟩ 1 1 [.int .i64 s, .slice ba bn bc] rfl rfl (lit2h _ _ _) one2h (by unfold maxLen; omega) (by omega) HRw.2 ?_; intro v' w3 hown' hg' _ hat'; obtain ⟨⟨f1, f2⟩, hrgY, HIY⟩ := hfin v' w3 hown' hg' hat'; obtain ⟨a', cap', rfl⟩ := rowB_form hown'; clear hown' hg' hat' hfin HRw))
                go_roundw
                case rel => exact ⟨_, cnt2, ss ++ [s], _, _, hrgY, hcs2, HC2, HIY⟩
                case measure => rw [hrgY.left_eq, hle]; exact hlt
            refine AllReadyIn.cons rfl (fun K hK => ?_) AllReadyIn.nil
            go_simp
            refine hK _ _ ?_
            clear hK K
            try simp only [Act.put, List.setIfInBounds_toArray, List.set_cons_zero, List.set_cons_succ]
            refine wpAnyIn_ready (rs := [0]) (by kernel_rfl) (by simp) ?_
            refine AllReadyIn.cons rfl (fun K hK => ?_) AllReadyIn.nil
            go_simp
            refine hK _ _ ?_
            clear hK K
            try simp only [Act.put, List.setIfInBounds_toArray, List.set_cons_zero, List.set_cons_succ]
            refine wpAnyIn_take (i := 1) (v := .pointer (some ⟨x, 0, none⟩)) rfl rfl (by kernel_rfl) (by kernel_rfl) (by kernel_rfl) (fun _ _ _ h => h) ⟨Or.inl ⟨by rfl, fun Z => by go_simp⟩, fun _ => rfl⟩ ?_
            try simp only [Act.put, List.setIfInBounds_toArray]
            refine wpAnyIn_take (i := 2) (v := .pointer (some ⟨x, 1, none⟩)) rfl rfl (by kernel_rfl) (by kernel_rfl) (by kernel_rfl) (fun _ _ _ h => h) ⟨Or.inl ⟨by rfl, fun Z => by go_simp⟩, fun _ => rfl⟩ ?_
            try simp only [Act.put]
            refine wpAnyIn_ready (rs := [3]) (by kernel_rfl) (by simp) ?_
            refine AllReadyIn.cons rfl (fun K hK => ?_) AllReadyIn.nil
            go_simp
            refine hK _ _ ?_
            clear hK K
            try simp only [Act.put, List.setIfInBounds_toArray, List.set_cons_zero, List.set_cons_succ]
            refine wpAnyIn_ready (rs := [5]) (by kernel_rfl) (by simp) ?_
            refine AllReadyIn.cons rfl (fun K hK => ?_) AllReadyIn.nil
            go_simp
            refine hK _ _ ?_
            clear hK K
            try simp only [Act.put, List.setIfInBounds_toArray, List.set_cons_zero, List.set_cons_succ]
            refine wpAnyIn_take (i := 6) (v := .agg #[.int .i64 e0.2.1.v, .string e0.2.1.fn, .slice ea e0.2.1.args.length ec]) rfl rfl (by kernel_rfl) (by kernel_rfl) (by kernel_rfl) (fun _ _ _ h => h) ⟨Or.inl ⟨by rfl, fun Z => by first | (have hf := HHf.out Z; go_simp; done) | (go_simp; rw [HHf.out Z]; rfl) | (go_simp; simp [HHf.out Z])⟩, fun _ => rfl⟩ ?_
            try simp only [Act.put, List.setIfInBounds_toArray]
            refine wpAnyIn_ready (rs := [8]) (by kernel_rfl) (by simp) ?_
            refine AllReadyIn.cons rfl (fun K hK => ?_) AllReadyIn.nil
            go_simp
            refine ⟨trivial, (callsIn_wide.2 HMa.out).mono ?_⟩
            rintro e Wm ⟨hMi, hbm⟩
            obtain ⟨bv, bo, rfl, HMr⟩ := HMc.out e Wm hMi
            clear hMi
            refine hK _ _ ?_
            clear hK K
            try simp only [Act.put, List.setIfInBounds_toArray, List.set_cons_zero, List.set_cons_succ]
            refine wpAnyIn_take (i := 9) (v := .tuple #[bv, .bool bo, .int .i64 0]) rfl rfl (by kernel_rfl) (by kernel_rfl) (by kernel_rfl) (fun _ _ _ h => h) ⟨Or.inl ⟨by rfl, fun Z => by go_simp⟩, fun _ => rfl⟩ ?_
            try simp only [Act.put, List.setIfInBounds_toArray]
            refine wpAnyIn_take (i := 10) (v := bv) rfl rfl (by kernel_rfl) (by kernel_rfl) (by kernel_rfl) (fun _ _ _ h => h) ⟨Or.inl ⟨by rfl, fun Z => by go_simp⟩, fun _ => rfl⟩ ?_
            try simp only [Act.put]
            refine wpAnyIn_take (i := 11) (v := .bool bo) rfl rfl (by kernel_rfl) (by kernel_rfl) (by kernel_rfl) (fun _ _ _ h => h) ⟨Or.inl ⟨by rfl, fun Z => by go_simp⟩, fun _ => rfl⟩ ?_
            try simp only [Act.put]
            refine wpAnyIn_take (i := 12) (v := .int .i64 0) rfl rfl (by kernel_rfl) (by kernel_rfl) (by kernel_rfl) (fun _ _ _ h => h) ⟨Or.inl ⟨by rfl, fun Z => by go_simp⟩, fun _ => rfl⟩ ?_
            try simp only [Act.put]
            refine wpAnyIn_take (i := 13) (v := bv) rfl rfl (by kernel_rfl) (by kernel_rfl) (by kernel_rfl) (fun _ _ _ h => h) ⟨Or.inl ⟨by rfl, fun Z => by go_simp⟩, fun _ => rfl⟩ ?_
            try simp only [Act.put]
            refine wpAnyIn_take (i := 14) (v := .bool bo) rfl rfl (by kernel_rfl) (by kernel_rfl) (by kernel_rfl) (fun _ _ _ h => h) ⟨Or.inl ⟨by rfl, fun Z => by go_simp⟩, fun _ => rfl⟩ ?_
            try simp only [Act.put]
            refine wpAnyIn_take (i := 15) (v := .int .i64 0) rfl rfl (by kernel_rfl) (by kernel_rfl) (by kernel_rfl) (fun _ _ _ h => h) ⟨Or.inl ⟨by rfl, fun Z => by go_simp⟩, fun _ => rfl⟩ ?_
            try simp only [Act.put]
            refine wpAnyIn_done (by kernel_rfl) ?_ _
            rcases HMr with ⟨rfl, hno⟩ | ⟨rfl, τ, ks, ba, bn, bc, hτ, rfl, hri, hBI⟩
            · obtain ⟨hrgN, HIN⟩ := HNo.out Wm hbm hno
              gi_wp2
              go_roundw
              case rel => exact ⟨_, cnt2, ss ++ [s], v, hs, hrgN, hcs2, HC2, HIN⟩
              case measure => rw [hrgN.left_eq, hle]; exact hlt
            · obtain ⟨hbc, HRw, hfin⟩ := HFin.out Wm hbm τ ks ba bn bc hτ hri hBI
              clear hri hBI hτ
              gi_wp2_with (first
                | (gi_at_builtin; refine wpListIn_append_own_at _ rfl _ _ 44 rfl wc.heap.size 57 i0 _ 2 32 Tryz.underlying44 hi0 hz0 hz1 hz2 rfl (by decide) _ _ _ rfl HRw.1 ⟨Wm.heap.size, 0, none⟩ 1 1 [.int .i64 s, .slice ba bn bc] rfl rfl (lit2h _ _ _) one2h (by unfold maxLen; omega) (by omega) HRw.2 ?_; intro v' w3 hown' hg' _ hat'; obtain ⟨⟨f1, f2⟩, hrgY, HIY⟩ := hfin v' w3 hown' hg' hat'; obtain ⟨a', cap', rfl⟩ := rowB_form hown'; clear hown' hg' hat' hfin HRw))
              go_roundw
              case rel => exact ⟨_, cnt2, ss ++ [s], _, _, hrgY, hcs2, HC2, HIY⟩
              case measure => rw [hrgY.left_eq, hle]; exact hlt
    case done =>
      rintro Dd E V hDd ⟨v, hs, hi⟩ hDE hK
      obtain ⟨hD0, he2, ha0, hr0, hsz0, hpl0, hsh0, hne0, hrp0, hsrt⟩ := H0.out
      obtain ⟨hDc, b0c, hB0, hB1, hx6, ht6⟩ := HQ.out
      have hhb : hs.length ≤ 200 := by
        have h1 := nodup_len (hs.map (·.1)) (es.map (·.1)) hi.nd (fun z hz => by obtain ⟨e, he, h1, _⟩ := (hi.ids z).1 hz; exact List.mem_map.2 ⟨e, he, h1⟩)
        simp only [List.length_map] at h1
        omega
      have hso := hsrt hs v wc.heap.size V hi.row (by omega)
      have cb := hi.bx.cell
      obtain ⟨va, vc, rfl⟩ := rowB_form hi.row
      have HPo : Hid (∀ W7, SrtP hs (.slice va hs.length vc) wc.heap.size V (.returned (.tuple #[])) W7 → W7.cell? ⟨Bh, 0, none⟩ = some (.slice va hs.length vc) ∧ W7.heap[Dd]? = some (.deferred (some [])) ∧ GenP es P t w (.returned (.slice va hs.length vc)) (W7.putObj Dd (.deferred none))) := by
        rintro W7 ⟨_, hs', hperm, hsrt', hrow', hgr⟩
        have hDl := hi.low Dd hDE
        have hcw := b0c.size
        have hvc := hi.only.size
        have hos := hgr.size
        have own1 : ∀ g, (Value.slice va hs.length vc).ownBlock = some g → wc.heap.size ≤ g ∧ g < V.heap.size := fun g hg => hi.row.lt g hg
        have blk : ∀ k, k < V.heap.size → (Value.slice va hs.length vc).ownBlock ≠ some k → W7.heap[k]? = V.heap[k]? := fun k hk hn => hgr.block k hk (fun e => hn e.symm)
        have hDn : (Value.slice va hs.length vc).ownBlock ≠ some Dd := fun e => hi.mine Dd e hDE
        have hpd : ∀ k, k ≠ Dd → (W7.putObj Dd (.deferred none)).heap[k]? = W7.heap[k]? := fun k hk => World.putObj_heap_other hk
        refine ⟨Boxed.cell ((blk Bh (by omega) (fun e => by have := (own1 Bh e).1; omega)).trans hi.bx), (blk Dd hDl.2 hDn).trans hK, _, hs', rfl, ?_, hsrt', ?_, fun h hh => ?_, fun z => ?_, ?_⟩
        · rw [← hperm.length_eq] at hrow' ⊢
          refine row_base hcw (row6_keep hrow' (fun g hg => hpd g (fun e => ?_)))
          rw [hperm.length_eq] at hg
          exact hDn (e ▸ hg)
        · refine b0c.trans ⟨hgr.os.trans hi.only.os, hgr.tape.trans hi.only.tape, hgr.output.trans hi.only.output, by simp; omega, fun k hk => ?_⟩
          rw [hpd k (by omega), blk k (by omega) (fun e => by have := (own1 k e).1; omega)]
          exact hi.only.block k (by omega) (by simp; omega)
        · obtain ⟨e, he, h1, τ, ks, h2, h3, n0, n1, a1, a2, a3, a4, a5⟩ := hi.hit h (hperm.mem_iff.1 hh)
          refine ⟨e, he, h1, τ, ks, h2, h3, a5 _ (by simp; omega) (fun k k1 k2 => ?_)⟩
          rw [hpd k (fun e' => a3 Dd hDE ⟨e' ▸ k1, e' ▸ k2⟩), blk k (by omega) (fun e' => a4 k e' ⟨k1, k2⟩)]
        · rw [← hi.ids z]
          exact (hperm.map _).mem_iff
        · exact (hperm.map _).nodup_iff.2 hi.nd
      clear hi hK hD0 hDc b0c ha0 hx6 ht6 hsrt
      gi_wp2_with fail
      refine ⟨trivial, (callsIn_wide.2 hso).mono ?_⟩
      rintro e W7 hS7
      obtain rfl : e = .returned (.tuple #[]) := hS7.1
      obtain ⟨cb7, cD7, hG7⟩ := HPo.out W7 hS7
      clear hS7
      gi_wp2
      refine ⟨by simp, .inl ⟨_, _, rfl, run_takeDeferred cD7, ?_⟩⟩
      refine ⟨_, results_tmp rfl _ _ _, ?_⟩
      exact hG7
    case stop =>
      rintro Dd E pre V _ h
      exact h.elim

end Go.Proofs.YtijihmncbaoklaaGreat
