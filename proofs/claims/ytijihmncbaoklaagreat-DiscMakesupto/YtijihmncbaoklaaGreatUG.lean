/-
  grow, in a tree that has a root.
-/
import Derived.Test.YtijihmncbaoklaaGreatUF
namespace Go.Proofs.YtijihmncbaoklaaGreat
open Go.RowKit Go.Maps Go.Shelf

attribute [local go_sem] Oper.semAt_some

theorem sub_shape (t : T) : t.shape = true → ∀ u ∈ t.pre, Sym.ok u.sym := by
  induction t using T.ind with
  | _ t ih =>
    intro hs u hu
    rw [T.pre_eq] at hu
    rw [T.shape_eq] at hs
    rcases List.mem_cons.1 hu with rfl | hu
    · by_cases h0 : u.fn.size = 0
      · rw [if_pos h0] at hs
        simp only [Bool.and_eq_true, decide_eq_true_eq] at hs
        refine ⟨by show u.fn.size ≤ 64; omega, ?_⟩
        show u.args.length ≤ 16
        omega
      · rw [if_neg h0] at hs
        simp only [Bool.and_eq_true, decide_eq_true_eq] at hs
        exact ⟨by show u.fn.size ≤ 64; omega, by show u.args.length ≤ 16; omega⟩
    · obtain ⟨a, ha, hu⟩ := List.mem_flatMap.1 hu
      by_cases h0 : t.fn.size = 0
      · rw [if_pos h0] at hs
        simp only [Bool.and_eq_true, decide_eq_true_eq] at hs
        have : t.args = [] := List.length_eq_zero_iff.1 (by omega)
        rw [this] at ha
        cases ha
      · rw [if_neg h0] at hs
        simp only [Bool.and_eq_true, List.all_eq_true] at hs
        exact ih a ha (hs.2 a ha) u hu

theorem frozen_cells {W : World} {b o : Nat} {cs : Array Value} {ty : TypeId} (h : W.heap[b]? = some (.cells cs ty (0, 0))) : W.frozen? ⟨b, o, none⟩ = false := by simp [World.frozen?, h]

/-- A tree that has a root, without its terms. -/
structure Tre (W : World) (x : Nat) (tmv : Value) (P : List Path) (num : Path → List Int) (y : Lay) (B : List Nat) : Prop where
  tri : Trie W P num y B
  blt : ∀ r ∈ B, r < W.heap.size
  box : W.heap[x]? = some (.cells #[.pointer (some ⟨y.na [], 0, none⟩), tmv, .int .i64 (P.length : Nat)] 63 (0, 0))
  xB : x ∉ B
  zer : ∀ q, q ∉ P → num q = []

/-- What grow does. -/
def GrP (x : Nat) (tmv : Value) (P0 : List Path) (num : Path → List Int) (y0 : Lay) (B0 : List Nat) (t : T) (W : World) (e : Ending) (W' : World) : Prop :=
  ∃ P y B, e = .returned (.pointer (some ⟨y.na t.path, 0, none⟩)) ∧ Tre W' x tmv P num y B ∧ (∀ r ∈ B, r ∈ B0 ∨ W.heap.size ≤ r) ∧ (∀ q, q ∈ P ↔ q ∈ P0 ∨ q <+: t.path) ∧ (∀ q ∈ P0, y.na q = y0.na q) ∧ Only (x :: B0) W W' ∧ P.length ≤ P0.length + t.pre.length

set_option maxRecDepth 100000 in
set_option maxHeartbeats 8000000 in
theorem grow_full (D : Nat → Prop) (x : Nat) (tmv : Value) (P0 : List Path) (num : Path → List Int) (y0 : Lay) (B0 : List Nat) (t : T) (sl : Value) (W : World) (h : Tre W x tmv P0 num y0 B0) (ha : ArgsP D W sl t.args) (hD : ∀ b, D b → b < W.heap.size ∧ b ∉ B0 ∧ b ≠ x) (hsh : t.shape = true) (hl : P0.length + t.pre.length ≤ 1000000) :
    Calls Tryz.prog 29 #[.pointer (some ⟨x, 0, none⟩), tval t sl] W (GrP x tmv P0 num y0 B0 t W) := by
  refine (callsIn_wide (n := 9)).1 ?_
  obtain ⟨a, c, rfl, hc, hm⟩ := ha.slice'
  obtain ⟨rp, hrp⟩ : ∃ r, y0.na [] = r := ⟨_, rfl⟩
  have hbx := h.box
  rw [hrp] at hbx
  have hxl : x < W.heap.size := (Array.getElem?_eq_some_iff.1 hbx).1
  obtain ⟨W2, hW2⟩ : ∃ X, (W.alloc (.cells #[.pointer (some ⟨x, 0, none⟩)] 24)).alloc (tbox t (.slice a t.args.length c)) = X := ⟨_, rfl⟩
  have b2 : Below W.heap.size W W2 := by rw [← hW2]; exact below_box2 _ _ _
  have s2 : W2.heap.size = W.heap.size + 1 + 1 := by rw [← hW2]; simp
  have v2 : W2.heap[W.heap.size]? = some (.cells #[.pointer (some ⟨x, 0, none⟩)] 24 (0, 0)) := by
    rw [← hW2, Below.heap_alloc _ _ _ (by simp)]
    exact (MapKept.heap_alloc _ _).1
  have t2 : W2.heap[W.heap.size + 1]? = some (.cells #[.int .i64 t.v, .string t.fn, .slice a t.args.length c] 32 (0, 0)) := by
    have := (MapKept.heap_alloc (W.alloc (.cells #[.pointer (some ⟨x, 0, none⟩)] 24)) (tbox t (.slice a t.args.length c))).1
    rw [World.size_alloc] at this
    rw [← hW2]; exact this
  have x2 : W2.cell? ⟨x, 0, none⟩ = some (.pointer (some ⟨rp, 0, none⟩)) := kc b2 hxl (cell_store (vs := [_, _, _]) hbx rfl)
  have x0 : W2.cell? ⟨W.heap.size, 0, none⟩ = some (.pointer (some ⟨x, 0, none⟩)) := cell_store (vs := [_]) v2 rfl
  obtain ⟨W4, hW4⟩ : ∃ X, (W2.alloc (.cells #[.pointer (some ⟨rp, 0, none⟩)] 60)).alloc (tbox t (.slice a t.args.length c)) = X := ⟨_, rfl⟩
  obtain ⟨W3, hW3⟩ : ∃ X, W2.alloc (.cells #[.pointer (some ⟨rp, 0, none⟩)] 60) = X := ⟨_, rfl⟩
  have b3 : Below W2.heap.size W2 W3 := by rw [← hW3]; exact below_box _ _
  have y0' : W3.cell? ⟨W.heap.size + 1, 0, none⟩ = some (.int .i64 t.v) := kc b3 (by omega) (cell_store (vs := [_, _, _]) t2 rfl)
  have y1' : W3.cell? ⟨W.heap.size + 1, 1, none⟩ = some (.string t.fn) := kc b3 (by omega) (cell_store (vs := [_, _, _]) t2 rfl)
  have y2' : W3.cell? ⟨W.heap.size + 1, 2, none⟩ = some (.slice a t.args.length c) := kc b3 (by omega) (cell_store (vs := [_, _, _]) t2 rfl)
  have b4 : Below W2.heap.size W2 W4 := by rw [← hW4]; exact below_box2 _ _ _
  have s4 : W4.heap.size = W.heap.size + 1 + 1 + 1 + 1 := by rw [← hW4]; simp [s2]
  have n4 : W4.heap[W.heap.size + 1 + 1]? = some (.cells #[.pointer (some ⟨rp, 0, none⟩)] 60 (0, 0)) := by
    rw [← hW4, Below.heap_alloc _ _ _ (by simp [s2]), ← s2]
    exact (MapKept.heap_alloc _ _).1
  have t4 : W4.heap[W.heap.size + 1 + 1 + 1]? = some (.cells [Value.int .i64 t.v, .string t.fn, .slice a t.args.length c].toArray 32 (0, 0)) := by
    have := (MapKept.heap_alloc (W2.alloc (.cells #[.pointer (some ⟨rp, 0, none⟩)] 60)) (tbox t (.slice a t.args.length c))).1
    rw [World.size_alloc, s2] at this
    rw [← hW4]; exact this
  have b04 : Below W.heap.size W W4 := b2.trans (b4.mono b2.size)
  have hGI : GI W4 D x W.heap.size (W.heap.size + 1 + 1) tmv P0 y0 B0 num [] [] W4 :=
    ⟨P0, y0, B0, { tri := h.tri.keep (fun r hr => b04.block r (h.blt r hr)), blt := fun r hr => by have := h.blt r hr; omega, bnw := fun r hr => .inl hr, box := (b04.block x hxl).trans h.box, xv := (b4.block _ (by omega)).trans v2, nv := by rw [List.map_nil, hrp]; exact n4, cur := h.tri.root, mem := fun q => ⟨fun hq => .inl hq, fun hq => by
      rcases hq with hq | hq
      · exact hq
      · rw [List.map_nil, List.prefix_nil] at hq; rw [hq]; exact h.tri.root⟩, old := fun _ _ => rfl, low := ⟨by omega, by omega, by omega, h.xB, fun hm => by have := h.blt _ hm; omega, fun hm => by have := h.blt _ hm; omega, by omega, by omega, by omega⟩, dis := fun b hb => by have := hD b hb; exact ⟨by omega, this.2.1, this.2.2, by omega⟩, els := fun r hr => (by cases hr), only := Only.refl _ _, plen := by simp, zer := h.zer }⟩
  have HX := hid h
  have HAa := hid ha
  have HSh := hid hsh
  have HDd := hid hD
  have HB4 : Hid (Below W.heap.size W W4 ∧ W4.heap.size = W.heap.size + 1 + 1 + 1 + 1) := ⟨b04, s4⟩
  clear b2 v2 t2 b4 n4 hbx h ha hsh hD b3
  refine callsIn_of_wp_marks Tryz.func29 rfl trivial ?_ rfl
  simp only [Tryz.ntmps29, List.size_toArray, List.length_cons, List.length_nil, Nat.reduceAdd, Nat.reduceSub, Array.replicate_succ, Array.replicate_zero, List.push_toArray, List.append_toArray, List.nil_append, List.cons_append]
  have s3 : W3.heap.size = W.heap.size + 1 + 1 + 1 := by rw [← hW3]; simp [s2]
  have hW4' : W3.alloc (tbox t (.slice a t.args.length c)) = W4 := by rw [← hW3]; exact hW4
  gi_wp2_with fail
  refine ⟨trivial, (callsIn_wide.2 (dparts_any t (.slice a t.args.length c) W3)).mono ?_⟩
  rintro e w' ⟨rfl, rfl⟩
  rw [hW4', s3]
  clear hW4' hW4 hW3 hW2 x2 x0 y0' y1' y2' s3 s2
  gi_wp2
  refine range_g (iv := pv1) (Ok := fun p sl => ArgsP D W sl p.args) (D := D) (nv := 1) (w0 := W) (all := t.pre) (E0 := []) (gf := 82) (lb := #[.pointer (some ⟨W.heap.size + 1 + 1 + 1, 0, none⟩)]) 9 rfl (enters_of Tryz.func82 (by kernel_rfl) rfl) rfl (fun _ _ => rfl) (fun b hb => by have := HDd.out b hb; omega)
    (fun V hV => iterp_any D W (W.heap.size + 1 + 1 + 1) t _ V (fun b hb => (hV.block b (by have := HDd.out b hb; omega)).trans (b04.block b (HDd.out b hb).1)) (fun b hb => by have := HDd.out b hb; have := hV.size; omega) ((hV.block _ (by omega)).trans t4) HAa.out)
    (GI W4 D x W.heap.size (W.heap.size + 1 + 1) tmv P0 y0 B0 num) (fun _ _ _ => False) GI.abide (fun _ _ _ _ _ _ h => h.elim) hGI (fun E pre V h r hr => by obtain ⟨_, _, _, h⟩ := h; exact (h.els r hr).2.2)
    (fun p sl a' V => ∃ k pa pc, sl = .slice pa p.args.length pc ∧ a' = { tmps := #[.pointer (some ⟨x, 0, none⟩), tval t (.slice a t.args.length c), .pointer (some ⟨W.heap.size, 0, none⟩), .pointer (some ⟨W.heap.size + 1, 0, none⟩), .pointer none, .pointer (some ⟨W.heap.size + 1 + 1, 0, none⟩), .pointer (some ⟨k, 0, none⟩), undef, undef, .pointer (some ⟨x, 0, none⟩), .pointer (some ⟨x, 0, none⟩), .pointer (some ⟨x, 0, none⟩), .pointer (some ⟨rp, 0, none⟩), .bool false, undef, undef, undef, undef, undef, undef, .pointer (some ⟨x, 0, none⟩), .pointer (some ⟨x, 0, none⟩), .pointer (some ⟨x, 0, none⟩), .pointer (some ⟨rp, 0, none⟩), .agg #[.int .i64 t.v, .string t.fn, .slice a t.args.length c], .func (.func 82) #[] #[.pointer (some ⟨W.heap.size + 1 + 1 + 1, 0, none⟩)], tval p sl, undef, undef, undef, undef, undef, undef, undef, undef, undef, undef, undef, undef, undef, undef, undef, undef, undef], defers := [] } ∧ V.heap[k]? = some (.cells #[.int .i64 p.v, .string p.fn, sl] 32 (0, 0)))
    (fun p sl a' V l r o h hl => by
      obtain ⟨k, pa, pc, e1, e2, e3⟩ := h
      exact ⟨k, pa, pc, e1, e2, (World.putObj_heap_other (fun e => by rw [e, hl] at e3; cases e3)).trans e3⟩)
    ?assign ?body ?done ?stop
  case assign =>
    intro l p sl V K hok hK
    obtain ⟨pa, pc, rfl⟩ := hok.slice
    gi_wp2
    exact hK _ _ (below_box _ _) ⟨_, pa, pc, rfl, rfl, (MapKept.heap_alloc _ _).1⟩
  case body =>
    rintro l E pre p sl a' V ⟨P, y, B, hi⟩ hl' hsame hok hrest ⟨k, pa, pc, rfl, rfl, hk⟩
    obtain ⟨Wd, hWd⟩ : ∃ X, V.drew = X := ⟨_, rfl⟩
    have hd : Below V.heap.size V Wd := by rw [← hWd]; exact (Below.refl _ V).drew
    have c5 : Wd.cell? ⟨W.heap.size + 1 + 1, 0, none⟩ = some (.pointer (some ⟨y.na (pre.map T.sym), 0, none⟩)) := by rw [← hWd]; exact cell_store (vs := [_]) hi.nv rfl
    have hkl : k < V.heap.size := (Array.getElem?_eq_some_iff.1 hk).1
    have d0 : Wd.cell? ⟨k, 0, none⟩ = some (.int .i64 p.v) := kc hd hkl (cell_store (vs := [_, _, _]) hk rfl)
    have d1 : Wd.cell? ⟨k, 1, none⟩ = some (.string p.fn) := kc hd hkl (cell_store (vs := [_, _, _]) hk rfl)
    have d2 : Wd.cell? ⟨k, 2, none⟩ = some (.slice pa p.args.length pc) := kc hd hkl (cell_store (vs := [_, _, _]) hk rfl)
    have hos := hi.only.size
    have hBn : W.heap.size + 1 + 1 < Wd.heap.size := by have := hd.size; have := HB4.out.2; omega
    obtain ⟨rest, hrest⟩ := hrest
    have hpok : Sym.ok p.sym := sub_shape t HSh.out p (by rw [← hrest]; simp)
    have hpl : P.length + 1 ≤ 1000000 := by
      have h1 := hi.plen
      have h2 := congrArg List.length hrest
      simp only [List.length_append, List.length_cons] at h2
      omega
    by_cases hq : pre.map T.sym ++ [p.sym] ∈ P
    · have HRch : Hid (∀ W2, Below Wd.heap.size Wd W2 → Calls Tryz.prog 54 #[.pointer (some ⟨y.na (pre.map T.sym), 0, none⟩), symv p.sym] W2 fun e W3 => e = .returned (.tuple #[.pointer (some ⟨y.na (pre.map T.sym ++ [p.sym]), 0, none⟩), .bool false]) ∧ W3.cell? ⟨W.heap.size + 1 + 1, 0, none⟩ = some (.pointer (some ⟨y.na (pre.map T.sym), 0, none⟩)) ∧ W3.frozen? ⟨W.heap.size + 1 + 1, 0, none⟩ = false ∧ Hid (KeptD D E V (W3.setCell ⟨W.heap.size + 1 + 1, 0, none⟩ (.pointer (some ⟨y.na (pre.map T.sym ++ [p.sym]), 0, none⟩))) ∧ GI W4 D x W.heap.size (W.heap.size + 1 + 1) tmv P0 y0 B0 num E (pre ++ [p]) (W3.setCell ⟨W.heap.size + 1 + 1, 0, none⟩ (.pointer (some ⟨y.na (pre.map T.sym ++ [p.sym]), 0, none⟩))))) := fun W2 hb2 => by
        have b2 : Below V.heap.size V W2 := hd.trans (hb2.mono hd.size)
        refine (reach_old (hi.tri.keep (fun r hr => b2.block r (hi.blt r hr))) hi.cur hq hpok).mono ?_
        rintro e W3 ⟨rfl, hb3⟩
        have b3 : Below V.heap.size V W3 := b2.trans (hb3.mono b2.size)
        have n3 := (b3.block _ (by have := hd.size; have := HB4.out.2; omega)).trans hi.nv
        exact ⟨rfl, cell_store (vs := [_]) n3 rfl, by simp [World.frozen?, n3], hi.step_old p hq b3⟩
      clear hi hsame hok hk hrest hGI hd
      gi_wp2
      refine wpIn_region_any (by kernel_rfl) ?_
      try (change wpAnyIn _ _ _ _ _ _ _ _ _ (World.drew _))
      rw [hWd]
      refine wpAnyIn_ready (rs := [0, 1]) (by kernel_rfl) (by simp) ?_
      refine AllReadyIn.cons rfl (fun K hK => ?_) ?_
      · skip
        go_simp
        refine hK _ _ ?_
        clear hK K
        refine wpAnyIn_ready (rs := [1]) (by kernel_rfl) (by simp) ?_
        refine AllReadyIn.cons rfl (fun K hK => ?_) AllReadyIn.nil
        go_simp
        refine hK _ _ ?_
        clear hK K
        refine wpAnyIn_ready (rs := [2]) (by kernel_rfl) (by simp) ?_
        refine AllReadyIn.cons rfl (fun K hK => ?_) AllReadyIn.nil
        go_simp
        refine ⟨trivial, (CallsIn.inRound l (callsIn_wide.2 (symbolOf_any p pa pc _))).mono ?_⟩
        rintro e W2 ⟨rfl, hb2⟩
        have k5 := kc hb2 hBn c5
        refine hK _ _ ?_
        clear hK K
        refine wpAnyIn_ready (rs := [3]) (by kernel_rfl) (by simp) ?_
        refine AllReadyIn.cons rfl (fun K hK => ?_) AllReadyIn.nil
        go_simp
        refine ⟨trivial, (CallsIn.inRound l (callsIn_wide.2 (HRch.out W2 hb2))).mono ?_⟩
        rintro e W3 ⟨rfl, g1, g2, HF⟩
        clear hb2 k5
        refine hK _ _ ?_
        clear hK K
        refine wpAnyIn_ready (rs := [4]) (by kernel_rfl) (by simp) ?_
        refine AllReadyIn.cons rfl (fun K hK => ?_) AllReadyIn.nil
        go_simp
        refine hK _ _ ?_
        clear hK K
        refine wpAnyIn_ready (rs := [5, 6]) (by kernel_rfl) (by simp) ?_
        refine AllReadyIn.cons rfl (fun K hK => ?_) ?_
        · skip
          go_simp
          refine hK _ _ ?_
          clear hK K
          refine wpAnyIn_ready (rs := [6, 7]) (by kernel_rfl) (by simp) ?_
          refine AllReadyIn.cons rfl (fun K hK => ?_) ?_
          · skip
            go_simp
            refine hK _ _ ?_
            clear hK K
            refine wpAnyIn_ready (rs := [7]) (by kernel_rfl) (by simp) ?_
            refine AllReadyIn.cons rfl (fun K hK => ?_) AllReadyIn.nil
            go_simp
            refine hK _ _ ?_
            clear hK K
            refine wpAnyIn_ready (rs := [8]) (by kernel_rfl) (by simp) ?_
            refine AllReadyIn.cons rfl (fun K hK => ?_) AllReadyIn.nil
            go_simp
            refine hK _ _ ?_
            clear hK K
            refine wpAnyIn_done (by kernel_rfl) ?_ _
            gi_wp2
            exact HF.out
          refine AllReadyIn.cons rfl (fun K hK => ?_) AllReadyIn.nil
          go_simp
          refine hK _ _ ?_
          clear hK K
          refine wpAnyIn_ready (rs := [6]) (by kernel_rfl) (by simp) ?_
          refine AllReadyIn.cons rfl (fun K hK => ?_) AllReadyIn.nil
          go_simp
          refine hK _ _ ?_
          clear hK K
          refine wpAnyIn_ready (rs := [8]) (by kernel_rfl) (by simp) ?_
          refine AllReadyIn.cons rfl (fun K hK => ?_) AllReadyIn.nil
          go_simp
          refine hK _ _ ?_
          clear hK K
          refine wpAnyIn_done (by kernel_rfl) ?_ _
          gi_wp2
          exact HF.out
        refine AllReadyIn.cons rfl (fun K hK => ?_) AllReadyIn.nil
        go_simp
        refine hK _ _ ?_
        clear hK K
        refine wpAnyIn_ready (rs := [5]) (by kernel_rfl) (by simp) ?_
        refine AllReadyIn.cons rfl (fun K hK => ?_) AllReadyIn.nil
        go_simp
        refine hK _ _ ?_
        clear hK K
        refine wpAnyIn_ready (rs := [7]) (by kernel_rfl) (by simp) ?_
        refine AllReadyIn.cons rfl (fun K hK => ?_) AllReadyIn.nil
        go_simp
        refine hK _ _ ?_
        clear hK K
        refine wpAnyIn_ready (rs := [8]) (by kernel_rfl) (by simp) ?_
        refine AllReadyIn.cons rfl (fun K hK => ?_) AllReadyIn.nil
        go_simp
        refine hK _ _ ?_
        clear hK K
        refine wpAnyIn_done (by kernel_rfl) ?_ _
        gi_wp2
        exact HF.out
      refine AllReadyIn.cons rfl (fun K hK => ?_) AllReadyIn.nil
      go_simp
      refine hK _ _ ?_
      clear hK K
      refine wpAnyIn_ready (rs := [0, 2]) (by kernel_rfl) (by simp) ?_
      refine AllReadyIn.cons rfl (fun K hK => ?_) ?_
      · skip
        go_simp
        refine hK _ _ ?_
        clear hK K
        refine wpAnyIn_ready (rs := [2]) (by kernel_rfl) (by simp) ?_
        refine AllReadyIn.cons rfl (fun K hK => ?_) AllReadyIn.nil
        go_simp
        refine ⟨trivial, (CallsIn.inRound l (callsIn_wide.2 (symbolOf_any p pa pc _))).mono ?_⟩
        rintro e W2 ⟨rfl, hb2⟩
        have k5 := kc hb2 hBn c5
        refine hK _ _ ?_
        clear hK K
        refine wpAnyIn_ready (rs := [3]) (by kernel_rfl) (by simp) ?_
        refine AllReadyIn.cons rfl (fun K hK => ?_) AllReadyIn.nil
        go_simp
        refine ⟨trivial, (CallsIn.inRound l (callsIn_wide.2 (HRch.out W2 hb2))).mono ?_⟩
        rintro e W3 ⟨rfl, g1, g2, HF⟩
        clear hb2 k5
        refine hK _ _ ?_
        clear hK K
        refine wpAnyIn_ready (rs := [4]) (by kernel_rfl) (by simp) ?_
        refine AllReadyIn.cons rfl (fun K hK => ?_) AllReadyIn.nil
        go_simp
        refine hK _ _ ?_
        clear hK K
        refine wpAnyIn_ready (rs := [5, 6]) (by kernel_rfl) (by simp) ?_
        refine AllReadyIn.cons rfl (fun K hK => ?_) ?_
        · skip
          go_simp
          refine hK _ _ ?_
          clear hK K
          refine wpAnyIn_ready (rs := [6, 7]) (by kernel_rfl) (by simp) ?_
          refine AllReadyIn.cons rfl (fun K hK => ?_) ?_
          · skip
            go_simp
            refine hK _ _ ?_
            clear hK K
            refine wpAnyIn_ready (rs := [7]) (by kernel_rfl) (by simp) ?_
            refine AllReadyIn.cons rfl (fun K hK => ?_) AllReadyIn.nil
            go_simp
            refine hK _ _ ?_
            clear hK K
            refine wpAnyIn_ready (rs := [8]) (by kernel_rfl) (by simp) ?_
            refine AllReadyIn.cons rfl (fun K hK => ?_) AllReadyIn.nil
            go_simp
            refine hK _ _ ?_
            clear hK K
            refine wpAnyIn_done (by kernel_rfl) ?_ _
            gi_wp2
            exact HF.out
          refine AllReadyIn.cons rfl (fun K hK => ?_) AllReadyIn.nil
          go_simp
          refine hK _ _ ?_
          clear hK K
          refine wpAnyIn_ready (rs := [6]) (by kernel_rfl) (by simp) ?_
          refine AllReadyIn.cons rfl (fun K hK => ?_) AllReadyIn.nil
          go_simp
          refine hK _ _ ?_
          clear hK K
          refine wpAnyIn_ready (rs := [8]) (by kernel_rfl) (by simp) ?_
          refine AllReadyIn.cons rfl (fun K hK => ?_) AllReadyIn.nil
          go_simp
          refine hK _ _ ?_
          clear hK K
          refine wpAnyIn_done (by kernel_rfl) ?_ _
          gi_wp2
          exact HF.out
        refine AllReadyIn.cons rfl (fun K hK => ?_) AllReadyIn.nil
        go_simp
        refine hK _ _ ?_
        clear hK K
        refine wpAnyIn_ready (rs := [5]) (by kernel_rfl) (by simp) ?_
        refine AllReadyIn.cons rfl (fun K hK => ?_) AllReadyIn.nil
        go_simp
        refine hK _ _ ?_
        clear hK K
        refine wpAnyIn_ready (rs := [7]) (by kernel_rfl) (by simp) ?_
        refine AllReadyIn.cons rfl (fun K hK => ?_) AllReadyIn.nil
        go_simp
        refine hK _ _ ?_
        clear hK K
        refine wpAnyIn_ready (rs := [8]) (by kernel_rfl) (by simp) ?_
        refine AllReadyIn.cons rfl (fun K hK => ?_) AllReadyIn.nil
        go_simp
        refine hK _ _ ?_
        clear hK K
        refine wpAnyIn_done (by kernel_rfl) ?_ _
        gi_wp2
        exact HF.out
      refine AllReadyIn.cons rfl (fun K hK => ?_) AllReadyIn.nil
      go_simp
      refine ⟨trivial, (CallsIn.inRound l (callsIn_wide.2 (symbolOf_any p pa pc _))).mono ?_⟩
      rintro e W2 ⟨rfl, hb2⟩
      have k5 := kc hb2 hBn c5
      refine hK _ _ ?_
      clear hK K
      refine wpAnyIn_ready (rs := [0]) (by kernel_rfl) (by simp) ?_
      refine AllReadyIn.cons rfl (fun K hK => ?_) AllReadyIn.nil
      go_simp
      refine hK _ _ ?_
      clear hK K
      refine wpAnyIn_ready (rs := [3]) (by kernel_rfl) (by simp) ?_
      refine AllReadyIn.cons rfl (fun K hK => ?_) AllReadyIn.nil
      go_simp
      refine ⟨trivial, (CallsIn.inRound l (callsIn_wide.2 (HRch.out W2 hb2))).mono ?_⟩
      rintro e W3 ⟨rfl, g1, g2, HF⟩
      clear hb2 k5
      refine hK _ _ ?_
      clear hK K
      refine wpAnyIn_ready (rs := [4]) (by kernel_rfl) (by simp) ?_
      refine AllReadyIn.cons rfl (fun K hK => ?_) AllReadyIn.nil
      go_simp
      refine hK _ _ ?_
      clear hK K
      refine wpAnyIn_ready (rs := [5, 6]) (by kernel_rfl) (by simp) ?_
      refine AllReadyIn.cons rfl (fun K hK => ?_) ?_
      · skip
        go_simp
        refine hK _ _ ?_
        clear hK K
        refine wpAnyIn_ready (rs := [6, 7]) (by kernel_rfl) (by simp) ?_
        refine AllReadyIn.cons rfl (fun K hK => ?_) ?_
        · skip
          go_simp
          refine hK _ _ ?_
          clear hK K
          refine wpAnyIn_ready (rs := [7]) (by kernel_rfl) (by simp) ?_
          refine AllReadyIn.cons rfl (fun K hK => ?_) AllReadyIn.nil
          go_simp
          refine hK _ _ ?_
          clear hK K
          refine wpAnyIn_ready (rs := [8]) (by kernel_rfl) (by simp) ?_
          refine AllReadyIn.cons rfl (fun K hK => ?_) AllReadyIn.nil
          go_simp
          refine hK _ _ ?_
          clear hK K
          refine wpAnyIn_done (by kernel_rfl) ?_ _
          gi_wp2
          exact HF.out
        refine AllReadyIn.cons rfl (fun K hK => ?_) AllReadyIn.nil
        go_simp
        refine hK _ _ ?_
        clear hK K
        refine wpAnyIn_ready (rs := [6]) (by kernel_rfl) (by simp) ?_
        refine AllReadyIn.cons rfl (fun K hK => ?_) AllReadyIn.nil
        go_simp
        refine hK _ _ ?_
        clear hK K
        refine wpAnyIn_ready (rs := [8]) (by kernel_rfl) (by simp) ?_
        refine AllReadyIn.cons rfl (fun K hK => ?_) AllReadyIn.nil
        go_simp
        refine hK _ _ ?_
        clear hK K
        refine wpAnyIn_done (by kernel_rfl) ?_ _
        gi_wp2
        exact HF.out
      refine AllReadyIn.cons rfl (fun K hK => ?_) AllReadyIn.nil
      go_simp
      refine hK _ _ ?_
      clear hK K
      refine wpAnyIn_ready (rs := [5]) (by kernel_rfl) (by simp) ?_
      refine AllReadyIn.cons rfl (fun K hK => ?_) AllReadyIn.nil
      go_simp
      refine hK _ _ ?_
      clear hK K
      refine wpAnyIn_ready (rs := [7]) (by kernel_rfl) (by simp) ?_
      refine AllReadyIn.cons rfl (fun K hK => ?_) AllReadyIn.nil
      go_simp
      refine hK _ _ ?_
      clear hK K
      refine wpAnyIn_ready (rs := [8]) (by kernel_rfl) (by simp) ?_
      refine AllReadyIn.cons rfl (fun K hK => ?_) AllReadyIn.nil
      go_simp
      refine hK _ _ ?_
      clear hK K
      refine wpAnyIn_done (by kernel_rfl) ?_ _
      gi_wp2
      exact HF.out
    · have HRch : Hid (∀ W2, Below Wd.heap.size Wd W2 → Calls Tryz.prog 54 #[.pointer (some ⟨y.na (pre.map T.sym), 0, none⟩), symv p.sym] W2 fun e W3 => ∃ N, e = .returned (.tuple #[.pointer (some ⟨N, 0, none⟩), .bool true]) ∧ W3.cell? ⟨W.heap.size, 0, none⟩ = some (.pointer (some ⟨x, 0, none⟩)) ∧ W3.cell? ⟨x, 2, none⟩ = some (.int .i64 (P.length : Nat)) ∧ W3.frozen? ⟨x, 2, none⟩ = false ∧ (W3.setCell ⟨x, 2, none⟩ (.int .i64 (P.length + 1 : Nat))).cell? ⟨W.heap.size + 1 + 1, 0, none⟩ = some (.pointer (some ⟨y.na (pre.map T.sym), 0, none⟩)) ∧ (W3.setCell ⟨x, 2, none⟩ (.int .i64 (P.length + 1 : Nat))).frozen? ⟨W.heap.size + 1 + 1, 0, none⟩ = false ∧ Hid (KeptD D E V ((W3.setCell ⟨x, 2, none⟩ (.int .i64 (P.length + 1 : Nat))).setCell ⟨W.heap.size + 1 + 1, 0, none⟩ (.pointer (some ⟨N, 0, none⟩))) ∧ GI W4 D x W.heap.size (W.heap.size + 1 + 1) tmv P0 y0 B0 num E (pre ++ [p]) ((W3.setCell ⟨x, 2, none⟩ (.int .i64 (P.length + 1 : Nat))).setCell ⟨W.heap.size + 1 + 1, 0, none⟩ (.pointer (some ⟨N, 0, none⟩))))) := fun W2 hb2 => by
        have b2 : Below V.heap.size V W2 := hd.trans (hb2.mono hd.size)
        have hq0 : pre.map T.sym ++ [p.sym] ∉ P0 := fun hm => hq ((hi.mem _).2 (.inl hm))
        obtain ⟨l1, l2, l3, l4, l5, l6, l7, l8, l9⟩ := hi.low
        refine (reach_new (hi.tri.keep (fun r hr => b2.block r (hi.blt r hr))) (fun r hr => Nat.lt_of_lt_of_le (hi.blt r hr) b2.size) hi.cur hq (hi.zer _ hq0) hpok (by omega)).mono ?_
        rintro e W3 ⟨b, N, rfl, hT, hO, hN, hbb, hN', hb'⟩
        have hO3 : Only B V W3 := (Only.of_below (B := B) b2).trans hO (fun r hr => .inl hr)
        have x3 := (hO3.block x (by omega) (hi.nB l1 l4)).trans hi.box
        have v3 := (hO3.block W.heap.size (by omega) (hi.nB l2 l5)).trans hi.xv
        have n3 := (Below.heap_setCell W3 ⟨x, 2, none⟩ (.int .i64 (P.length + 1 : Nat)) (W.heap.size + 1 + 1) (by exact fun e => l8 e.symm)).trans ((hO3.block _ (by omega) (hi.nB l3 l6)).trans hi.nv)
        exact ⟨N, rfl, cell_store (vs := [_]) v3 rfl, cell_store (vs := [_, _, _]) x3 rfl, by simp [World.frozen?, x3], cell_store (vs := [_]) n3 rfl, frozen_cells n3, hi.step_new p hq hT hO3 (by have := b2.size; omega) (hbb.imp (fun e => e) (fun e => by have := b2.size; omega)) hN' hb'⟩
      obtain ⟨z, hz⟩ : ∃ z : Int, ((P.length + 1 : Nat) : Int) = z := ⟨_, rfl⟩
      obtain ⟨u, hu⟩ : ∃ z : Int, ((P.length : Nat) : Int) = z := ⟨_, rfl⟩
      have hwl : wrap64 (u + 1) = z := by rw [← hz, ← hu]; unfold wrap64; omega
      rw [hz, hu] at HRch
      clear hz hu
      clear hi hsame hok hk hrest hGI hd
      gi_wp2
      refine wpIn_region_any (by kernel_rfl) ?_
      try (change wpAnyIn _ _ _ _ _ _ _ _ _ (World.drew _))
      rw [hWd]
      refine wpAnyIn_ready (rs := [0, 1]) (by kernel_rfl) (by simp) ?_
      refine AllReadyIn.cons rfl (fun K hK => ?_) ?_
      · skip
        go_simp
        refine hK _ _ ?_
        clear hK K
        refine wpAnyIn_ready (rs := [1]) (by kernel_rfl) (by simp) ?_
        refine AllReadyIn.cons rfl (fun K hK => ?_) AllReadyIn.nil
        go_simp
        refine hK _ _ ?_
        clear hK K
        refine wpAnyIn_ready (rs := [2]) (by kernel_rfl) (by simp) ?_
        refine AllReadyIn.cons rfl (fun K hK => ?_) AllReadyIn.nil
        go_simp
        refine ⟨trivial, (CallsIn.inRound l (callsIn_wide.2 (symbolOf_any p pa pc _))).mono ?_⟩
        rintro e W2 ⟨rfl, hb2⟩
        have k5 := kc hb2 hBn c5
        refine hK _ _ ?_
        clear hK K
        refine wpAnyIn_ready (rs := [3]) (by kernel_rfl) (by simp) ?_
        refine AllReadyIn.cons rfl (fun K hK => ?_) AllReadyIn.nil
        go_simp
        refine ⟨trivial, (CallsIn.inRound l (callsIn_wide.2 (HRch.out W2 hb2))).mono ?_⟩
        rintro e W3 ⟨N, rfl, g1, g2, g3, g4, g5, HF⟩
        clear hb2 k5
        refine hK _ _ ?_
        clear hK K
        refine wpAnyIn_ready (rs := [4]) (by kernel_rfl) (by simp) ?_
        refine AllReadyIn.cons rfl (fun K hK => ?_) AllReadyIn.nil
        go_simp
        refine hK _ _ ?_
        clear hK K
        refine wpAnyIn_ready (rs := [5, 6]) (by kernel_rfl) (by simp) ?_
        refine AllReadyIn.cons rfl (fun K hK => ?_) ?_
        · skip
          go_simp
          refine hK _ _ ?_
          clear hK K
          refine wpAnyIn_ready (rs := [6, 7]) (by kernel_rfl) (by simp) ?_
          refine AllReadyIn.cons rfl (fun K hK => ?_) ?_
          · skip
            go_simp
            refine hK _ _ ?_
            clear hK K
            refine wpAnyIn_ready (rs := [7]) (by kernel_rfl) (by simp) ?_
            refine AllReadyIn.cons rfl (fun K hK => ?_) AllReadyIn.nil
            go_simp
            refine hK _ _ ?_
            clear hK K
            refine wpAnyIn_ready (rs := [8]) (by kernel_rfl) (by simp) ?_
            refine AllReadyIn.cons rfl (fun K hK => ?_) AllReadyIn.nil
            go_simp
            refine hK _ _ ?_
            clear hK K
            refine wpAnyIn_done (by kernel_rfl) ?_ _
            gi_wp2
            exact HF.out
          refine AllReadyIn.cons rfl (fun K hK => ?_) AllReadyIn.nil
          go_simp
          refine hK _ _ ?_
          clear hK K
          refine wpAnyIn_ready (rs := [6]) (by kernel_rfl) (by simp) ?_
          refine AllReadyIn.cons rfl (fun K hK => ?_) AllReadyIn.nil
          go_simp
          refine hK _ _ ?_
          clear hK K
          refine wpAnyIn_ready (rs := [8]) (by kernel_rfl) (by simp) ?_
          refine AllReadyIn.cons rfl (fun K hK => ?_) AllReadyIn.nil
          go_simp
          refine hK _ _ ?_
          clear hK K
          refine wpAnyIn_done (by kernel_rfl) ?_ _
          gi_wp2
          exact HF.out
        refine AllReadyIn.cons rfl (fun K hK => ?_) AllReadyIn.nil
        go_simp
        refine hK _ _ ?_
        clear hK K
        refine wpAnyIn_ready (rs := [5]) (by kernel_rfl) (by simp) ?_
        refine AllReadyIn.cons rfl (fun K hK => ?_) AllReadyIn.nil
        go_simp
        refine hK _ _ ?_
        clear hK K
        refine wpAnyIn_ready (rs := [7]) (by kernel_rfl) (by simp) ?_
        refine AllReadyIn.cons rfl (fun K hK => ?_) AllReadyIn.nil
        go_simp
        refine hK _ _ ?_
        clear hK K
        refine wpAnyIn_ready (rs := [8]) (by kernel_rfl) (by simp) ?_
        refine AllReadyIn.cons rfl (fun K hK => ?_) AllReadyIn.nil
        go_simp
        refine hK _ _ ?_
        clear hK K
        refine wpAnyIn_done (by kernel_rfl) ?_ _
        gi_wp2
        exact HF.out
      refine AllReadyIn.cons rfl (fun K hK => ?_) AllReadyIn.nil
      go_simp
      refine hK _ _ ?_
      clear hK K
      refine wpAnyIn_ready (rs := [0, 2]) (by kernel_rfl) (by simp) ?_
      refine AllReadyIn.cons rfl (fun K hK => ?_) ?_
      · skip
        go_simp
        refine hK _ _ ?_
        clear hK K
        refine wpAnyIn_ready (rs := [2]) (by kernel_rfl) (by simp) ?_
        refine AllReadyIn.cons rfl (fun K hK => ?_) AllReadyIn.nil
        go_simp
        refine ⟨trivial, (CallsIn.inRound l (callsIn_wide.2 (symbolOf_any p pa pc _))).mono ?_⟩
        rintro e W2 ⟨rfl, hb2⟩
        have k5 := kc hb2 hBn c5
        refine hK _ _ ?_
        clear hK K
        refine wpAnyIn_ready (rs := [3]) (by kernel_rfl) (by simp) ?_
        refine AllReadyIn.cons rfl (fun K hK => ?_) AllReadyIn.nil
        go_simp
        refine ⟨trivial, (CallsIn.inRound l (callsIn_wide.2 (HRch.out W2 hb2))).mono ?_⟩
        rintro e W3 ⟨N, rfl, g1, g2, g3, g4, g5, HF⟩
        clear hb2 k5
        refine hK _ _ ?_
        clear hK K
        refine wpAnyIn_ready (rs := [4]) (by kernel_rfl) (by simp) ?_
        refine AllReadyIn.cons rfl (fun K hK => ?_) AllReadyIn.nil
        go_simp
        refine hK _ _ ?_
        clear hK K
        refine wpAnyIn_ready (rs := [5, 6]) (by kernel_rfl) (by simp) ?_
        refine AllReadyIn.cons rfl (fun K hK => ?_) ?_
        · skip
          go_simp
          refine hK _ _ ?_
          clear hK K
          refine wpAnyIn_ready (rs := [6, 7]) (by kernel_rfl) (by simp) ?_
          refine AllReadyIn.cons rfl (fun K hK => ?_) ?_
          · skip
            go_simp
            refine hK _ _ ?_
            clear hK K
            refine wpAnyIn_ready (rs := [7]) (by kernel_rfl) (by simp) ?_
            refine AllReadyIn.cons rfl (fun K hK => ?_) AllReadyIn.nil
            go_simp
            refine hK _ _ ?_
            clear hK K
            refine wpAnyIn_ready (rs := [8]) (by kernel_rfl) (by simp) ?_
            refine AllReadyIn.cons rfl (fun K hK => ?_) AllReadyIn.nil
            go_simp
            refine hK _ _ ?_
            clear hK K
            refine wpAnyIn_done (by kernel_rfl) ?_ _
            gi_wp2
            exact HF.out
          refine AllReadyIn.cons rfl (fun K hK => ?_) AllReadyIn.nil
          go_simp
          refine hK _ _ ?_
          clear hK K
          refine wpAnyIn_ready (rs := [6]) (by kernel_rfl) (by simp) ?_
          refine AllReadyIn.cons rfl (fun K hK => ?_) AllReadyIn.nil
          go_simp
          refine hK _ _ ?_
          clear hK K
          refine wpAnyIn_ready (rs := [8]) (by kernel_rfl) (by simp) ?_
          refine AllReadyIn.cons rfl (fun K hK => ?_) AllReadyIn.nil
          go_simp
          refine hK _ _ ?_
          clear hK K
          refine wpAnyIn_done (by kernel_rfl) ?_ _
          gi_wp2
          exact HF.out
        refine AllReadyIn.cons rfl (fun K hK => ?_) AllReadyIn.nil
        go_simp
        refine hK _ _ ?_
        clear hK K
        refine wpAnyIn_ready (rs := [5]) (by kernel_rfl) (by simp) ?_
        refine AllReadyIn.cons rfl (fun K hK => ?_) AllReadyIn.nil
        go_simp
        refine hK _ _ ?_
        clear hK K
        refine wpAnyIn_ready (rs := [7]) (by kernel_rfl) (by simp) ?_
        refine AllReadyIn.cons rfl (fun K hK => ?_) AllReadyIn.nil
        go_simp
        refine hK _ _ ?_
        clear hK K
        refine wpAnyIn_ready (rs := [8]) (by kernel_rfl) (by simp) ?_
        refine AllReadyIn.cons rfl (fun K hK => ?_) AllReadyIn.nil
        go_simp
        refine hK _ _ ?_
        clear hK K
        refine wpAnyIn_done (by kernel_rfl) ?_ _
        gi_wp2
        exact HF.out
      refine AllReadyIn.cons rfl (fun K hK => ?_) AllReadyIn.nil
      go_simp
      refine ⟨trivial, (CallsIn.inRound l (callsIn_wide.2 (symbolOf_any p pa pc _))).mono ?_⟩
      rintro e W2 ⟨rfl, hb2⟩
      have k5 := kc hb2 hBn c5
      refine hK _ _ ?_
      clear hK K
      refine wpAnyIn_ready (rs := [0]) (by kernel_rfl) (by simp) ?_
      refine AllReadyIn.cons rfl (fun K hK => ?_) AllReadyIn.nil
      go_simp
      refine hK _ _ ?_
      clear hK K
      refine wpAnyIn_ready (rs := [3]) (by kernel_rfl) (by simp) ?_
      refine AllReadyIn.cons rfl (fun K hK => ?_) AllReadyIn.nil
      go_simp
      refine ⟨trivial, (CallsIn.inRound l (callsIn_wide.2 (HRch.out W2 hb2))).mono ?_⟩
      rintro e W3 ⟨N, rfl, g1, g2, g3, g4, g5, HF⟩
      clear hb2 k5
      refine hK _ _ ?_
      clear hK K
      refine wpAnyIn_ready (rs := [4]) (by kernel_rfl) (by simp) ?_
      refine AllReadyIn.cons rfl (fun K hK => ?_) AllReadyIn.nil
      go_simp
      refine hK _ _ ?_
      clear hK K
      refine wpAnyIn_ready (rs := [5, 6]) (by kernel_rfl) (by simp) ?_
      refine AllReadyIn.cons rfl (fun K hK => ?_) ?_
      · skip
        go_simp
        refine hK _ _ ?_
        clear hK K
        refine wpAnyIn_ready (rs := [6, 7]) (by kernel_rfl) (by simp) ?_
        refine AllReadyIn.cons rfl (fun K hK => ?_) ?_
        · skip
          go_simp
          refine hK _ _ ?_
          clear hK K
          refine wpAnyIn_ready (rs := [7]) (by kernel_rfl) (by simp) ?_
          refine AllReadyIn.cons rfl (fun K hK => ?_) AllReadyIn.nil
          go_simp
          refine hK _ _ ?_
          clear hK K
          refine wpAnyIn_ready (rs := [8]) (by kernel_rfl) (by simp) ?_
          refine AllReadyIn.cons rfl (fun K hK => ?_) AllReadyIn.nil
          go_simp
          refine hK _ _ ?_
          clear hK K
          refine wpAnyIn_done (by kernel_rfl) ?_ _
          gi_wp2
          exact HF.out
        refine AllReadyIn.cons rfl (fun K hK => ?_) AllReadyIn.nil
        go_simp
        refine hK _ _ ?_
        clear hK K
        refine wpAnyIn_ready (rs := [6]) (by kernel_rfl) (by simp) ?_
        refine AllReadyIn.cons rfl (fun K hK => ?_) AllReadyIn.nil
        go_simp
        refine hK _ _ ?_
        clear hK K
        refine wpAnyIn_ready (rs := [8]) (by kernel_rfl) (by simp) ?_
        refine AllReadyIn.cons rfl (fun K hK => ?_) AllReadyIn.nil
        go_simp
        refine hK _ _ ?_
        clear hK K
        refine wpAnyIn_done (by kernel_rfl) ?_ _
        gi_wp2
        exact HF.out
      refine AllReadyIn.cons rfl (fun K hK => ?_) AllReadyIn.nil
      go_simp
      refine hK _ _ ?_
      clear hK K
      refine wpAnyIn_ready (rs := [5]) (by kernel_rfl) (by simp) ?_
      refine AllReadyIn.cons rfl (fun K hK => ?_) AllReadyIn.nil
      go_simp
      refine hK _ _ ?_
      clear hK K
      refine wpAnyIn_ready (rs := [7]) (by kernel_rfl) (by simp) ?_
      refine AllReadyIn.cons rfl (fun K hK => ?_) AllReadyIn.nil
      go_simp
      refine hK _ _ ?_
      clear hK K
      refine wpAnyIn_ready (rs := [8]) (by kernel_rfl) (by simp) ?_
      refine AllReadyIn.cons rfl (fun K hK => ?_) AllReadyIn.nil
      go_simp
      refine hK _ _ ?_
      clear hK K
      refine wpAnyIn_done (by kernel_rfl) ?_ _
      gi_wp2
      exact HF.out
  case done =>
    rintro Dd E V hDd ⟨P, y, B, hi⟩ hDE hK
    have hc := cell_store (vs := [_]) hi.nv (i := 0) rfl
    have hr : t.pre.map T.sym = t.path := rfl
    rw [hr] at hc
    obtain ⟨e1, e2, e3⟩ := hi.els Dd hDE
    have HE : Hid (∀ V', Only [Dd] V V' → GrP x tmv P0 num y0 B0 t W (.returned (.pointer (some ⟨y.na t.path, 0, none⟩))) V') := fun V' hV => by
      obtain ⟨l1, l2, l3, l4, l5, l6, l7, l8, l9⟩ := hi.low
      have hos := hi.only.size
      refine ⟨P, y, B, rfl, ⟨hi.tri.keep (fun r hr => hV.block r (hi.blt r hr) (fun hm => by obtain rfl := List.mem_singleton.1 hm; exact e1 hr)), fun r hr => Nat.lt_of_lt_of_le (hi.blt r hr) hV.size, (hV.block x (by omega) (by simp; omega)).trans hi.box, hi.nB l1 l4, fun q hq => hi.zer q (fun hm => hq ((hi.mem q).2 (.inl hm)))⟩, fun r hr => ?_, fun q => by rw [hi.mem, hr], hi.old, ?_, hi.plen⟩
      · rcases hi.bnw r hr with e | e
        · exact .inl e
        · exact .inr (by omega)
      · refine (((Only.of_below (B := x :: B0) HB4.out.1).trans hi.only (fun r hr => ?_)).trans hV (fun r hr => ?_))
        · rcases List.mem_cons.1 hr with rfl | hr
          · exact .inl (by simp)
          · rcases List.mem_cons.1 hr with rfl | hr
            · exact .inr (by omega)
            · exact .inl (by simp [hr])
        · obtain rfl := List.mem_singleton.1 hr
          exact .inr (by omega)
    clear hi e1 e2 e3
    gi_wp2
    refine ⟨by simp, .inl ⟨_, _, rfl, run_takeDeferred hK, ?_⟩⟩
    refine ⟨_, results_tmp rfl _ _ _, ?_⟩
    exact HE.out _ (Only.of_grown (grownBy_putObj' _ _ _) (fun r e => by cases e; simp))
  case stop =>
    rintro Dd E pre V _ h
    exact h.elim

end Go.Proofs.YtijihmncbaoklaaGreat
