/-
  subst.rebound.
-/
import Derived.Test.YthinbkpjggihdaaSN
namespace Go.Proofs.Ythinbkpjggihdaa
open Go.RowKit

/-- Four cells of one block are written. -/
abbrev set4 (W : World) (b o : Nat) (u v s r : Value) : World := (((W.setCell ⟨b, o, none⟩ u).setCell ⟨b, o + 1, none⟩ v).setCell ⟨b, o + 2, none⟩ s).setCell ⟨b, o + 3, none⟩ r

theorem set4_other (W : World) (b o : Nat) (u v s r : Value) (k : Nat) (h : k ≠ b) : (set4 W b o u v s r).heap[k]? = W.heap[k]? := by
  rw [Below.heap_setCell _ _ _ k h, Below.heap_setCell _ _ _ k h, Below.heap_setCell _ _ _ k h, Below.heap_setCell _ _ _ k h]

theorem set4_below {n : Nat} {w W : World} (h : Below n w W) (b o : Nat) (u v s r : Value) (hb : n ≤ b) : Below n w (set4 W b o u v s r) :=
  (((h.setCell (p := ⟨b, o, none⟩) hb _).setCell (p := ⟨b, o + 1, none⟩) hb _).setCell (p := ⟨b, o + 2, none⟩) hb _).setCell (p := ⟨b, o + 3, none⟩) hb _

theorem set4_farc {W : World} {g a k o : Nat} {u v s r x : Value} (hk : k ≠ g) (h : W.cell? ⟨k, o, none⟩ = some x) : (set4 W g a u v s r).cell? ⟨k, o, none⟩ = some x :=
  (World.cell?_of_block (a := ⟨k, o, none⟩) (set4_other _ _ _ _ _ _ _ k hk)).trans h

theorem set4_far (W : World) (g o : Nat) (u v s r : Value) (k : Nat) (h : k < o ∨ o + 3 < k) : (set4 W g o u v s r).cell? ⟨g, k, none⟩ = W.cell? ⟨g, k, none⟩ := by
  rw [World.cell?_setCell_other _ _ _ _ (by intro e; injection e with _ e2; omega), World.cell?_setCell_other _ _ _ _ (by intro e; injection e with _ e2; omega), World.cell?_setCell_other _ _ _ _ (by intro e; injection e with _ e2; omega), World.cell?_setCell_other _ _ _ _ (by intro e; injection e with _ e2; omega)]

theorem set4_cells (W : World) (g o : Nat) (u v s r : Value) (h : ∃ a b c d, W.cell? ⟨g, o, none⟩ = some a ∧ W.cell? ⟨g, o + 1, none⟩ = some b ∧ W.cell? ⟨g, o + 2, none⟩ = some c ∧ W.cell? ⟨g, o + 3, none⟩ = some d) :
    (set4 W g o u v s r).cell? ⟨g, o, none⟩ = some u ∧ (set4 W g o u v s r).cell? ⟨g, o + 1, none⟩ = some v ∧ (set4 W g o u v s r).cell? ⟨g, o + 2, none⟩ = some s ∧ (set4 W g o u v s r).cell? ⟨g, o + 3, none⟩ = some r := by
  obtain ⟨a, b, c, d, h0, h1, h2, h3⟩ := h
  obtain ⟨e0, e1, e2⟩ := set3_cells W g o u v s ⟨a, b, c, h0, h1, h2⟩
  have e3 := (set3_far W g o u v s (o + 3) (by omega)).trans h3
  refine ⟨?_, ?_, ?_, World.cell?_setCell_same _ _ _ e3⟩
  · rw [World.cell?_setCell_other _ _ _ _ (by simp)]; exact e0
  · rw [World.cell?_setCell_other _ _ _ _ (by simp)]; exact e1
  · rw [World.cell?_setCell_other _ _ _ _ (by simp)]; exact e2

/-- A row of binds, the first i of which are told. -/
structure RbI (g n i : Nat) (l : List Bd) (σ : Int → T) (W : World) : Prop where
  blk : ∃ arr, W.heap[g]? = some (.cells arr 35 (0, 0)) ∧ arr.size = n * 4
  el : ∀ j (hj : j < l.length), j < i → ∃ s, W.cell? ⟨g, j * 4, none⟩ = some (.int .i64 l[j].1) ∧ W.cell? ⟨g, j * 4 + 1, none⟩ = some (.int .i64 (l[j].2.app σ).v) ∧ W.cell? ⟨g, j * 4 + 2, none⟩ = some (.string (l[j].2.app σ).fn) ∧ W.cell? ⟨g, j * 4 + 3, none⟩ = some s ∧ ArgsFr (g + 1) W s (l[j].2.app σ).args

theorem RbI.keep {g n i : Nat} {l : List Bd} {σ : Int → T} {W W' : World} (h : RbI g n i l σ W) (hb : Below W.heap.size W W') : RbI g n i l σ W' := by
  obtain ⟨arr, h1, h2⟩ := h.blk
  have hlt : g < W.heap.size := (Array.getElem?_eq_some_iff.1 h1).1
  refine ⟨⟨arr, (hb.block g hlt).trans h1, h2⟩, fun j hj hji => ?_⟩
  obtain ⟨s, c0, c1, c2, c3, hs⟩ := h.el j hj hji
  exact ⟨s, kc hb hlt c0, kc hb hlt c1, kc hb hlt c2, kc hb hlt c3, hs.keep hb.size (fun k _ hk => hb.block k hk)⟩

theorem RbI.facts {g n i : Nat} {l : List Bd} {σ : Int → T} {W : World} (h : RbI g n i l σ W) (hi : i < n) : g < W.heap.size ∧ (∃ a b c d, W.cell? ⟨g, i * 4, none⟩ = some a ∧ W.cell? ⟨g, i * 4 + 1, none⟩ = some b ∧ W.cell? ⟨g, i * 4 + 2, none⟩ = some c ∧ W.cell? ⟨g, i * 4 + 3, none⟩ = some d) ∧ W.frozen? ⟨g, i * 4, none⟩ = false ∧ W.frozen? ⟨g, i * 4 + 1, none⟩ = false ∧ W.frozen? ⟨g, i * 4 + 2, none⟩ = false ∧ W.frozen? ⟨g, i * 4 + 3, none⟩ = false := by
  obtain ⟨arr, h1, h2⟩ := h.blk
  refine ⟨(Array.getElem?_eq_some_iff.1 h1).1, ⟨arr[i * 4]'(by omega), arr[i * 4 + 1]'(by omega), arr[i * 4 + 2]'(by omega), arr[i * 4 + 3]'(by omega), ?_, ?_, ?_, ?_⟩, ?_, ?_, ?_, ?_⟩
  · rw [cell_of_row _ _ _ _ 35 (0, 0) h1]; exact Array.getElem?_eq_getElem _
  · rw [cell_of_row _ _ _ _ 35 (0, 0) h1]; exact Array.getElem?_eq_getElem _
  · rw [cell_of_row _ _ _ _ 35 (0, 0) h1]; exact Array.getElem?_eq_getElem _
  · rw [cell_of_row _ _ _ _ 35 (0, 0) h1]; exact Array.getElem?_eq_getElem _
  all_goals simp [World.frozen?, h1]

theorem RbI.step {g n i : Nat} {l : List Bd} {σ : Int → T} {W : World} (h : RbI g n i l σ W) (hi : i < n) (hl : i < l.length) (s : Value) (hs : ArgsFr (g + 1) W s (l[i].2.app σ).args) : RbI g n (i + 1) l σ (set4 W g (i * 4) (.int .i64 l[i].1) (.int .i64 (l[i].2.app σ).v) (.string (l[i].2.app σ).fn) s) := by
  obtain ⟨arr, h1, h2⟩ := h.blk
  obtain ⟨_, hx, _⟩ := h.facts hi
  obtain ⟨c0, c1, c2, c3⟩ := set4_cells W g (i * 4) (.int .i64 l[i].1) (.int .i64 (l[i].2.app σ).v) (.string (l[i].2.app σ).fn) s hx
  have kp : ∀ {s' l'}, ArgsFr (g + 1) W s' l' → ArgsFr (g + 1) (set4 W g (i * 4) (.int .i64 l[i].1) (.int .i64 (l[i].2.app σ).v) (.string (l[i].2.app σ).fn) s) s' l' := fun hh => hh.keep (by simp) (fun k hk _ => set4_other _ _ _ _ _ _ _ k (by omega))
  refine ⟨?_, fun j hj hji => ?_⟩
  · have e1 := heap_setCell_same W g (i * 4) arr 35 (.int .i64 l[i].1) h1
    have e2 := heap_setCell_same _ g (i * 4 + 1) _ 35 (.int .i64 (l[i].2.app σ).v) e1
    have e3 := heap_setCell_same _ g (i * 4 + 2) _ 35 (.string (l[i].2.app σ).fn) e2
    have e4 := heap_setCell_same _ g (i * 4 + 3) _ 35 s e3
    exact ⟨_, e4, by simp [h2]⟩
  · by_cases e : j = i
    · subst e
      exact ⟨s, c0, c1, c2, c3, kp hs⟩
    · obtain ⟨s', d0, d1, d2, d3, hs'⟩ := h.el j hj (by omega)
      exact ⟨s', (set4_far _ _ _ _ _ _ _ _ (by omega)).trans d0, (set4_far _ _ _ _ _ _ _ _ (by omega)).trans d1, (set4_far _ _ _ _ _ _ _ _ (by omega)).trans d2, (set4_far _ _ _ _ _ _ _ _ (by omega)).trans d3, kp hs'⟩

/-- A row of binds in blocks from g on. -/
structure BindsFr (W : World) (g n : Nat) (l : List Bd) : Prop where
  len : l.length = n
  blk : ∃ arr, W.heap[g]? = some (.cells arr 35 (0, 0)) ∧ arr.size = n * 4
  el : ∀ j (hj : j < l.length), ∃ s, W.cell? ⟨g, j * 4, none⟩ = some (.int .i64 l[j].1) ∧ W.cell? ⟨g, j * 4 + 1, none⟩ = some (.int .i64 l[j].2.v) ∧ W.cell? ⟨g, j * 4 + 2, none⟩ = some (.string l[j].2.fn) ∧ W.cell? ⟨g, j * 4 + 3, none⟩ = some s ∧ ArgsFr (g + 1) W s l[j].2.args

set_option maxRecDepth 100000 in
set_option maxHeartbeats 4000000 in
theorem rebound_any (W0 : World) (g : Nat) (lb : Array Value) (σ : Int → T) (eg : ∀ args w, (callFunc g args).run Try.prog w = .ok (.enter g args) w) (hst : StandAt W0 g lb σ) (l : List Bd) (v : Value) (w : World) (hw : Below W0.heap.size W0 w) (hl : BindsAt w v l) (hlen : l.length ≤ 4000) (hsh : ∀ x ∈ l, x.2.shape = true) :
    Calls Try.prog 38 #[v, .func (.func g) #[] lb] w fun e W' => e = .returned (.slice (some ⟨w.heap.size, 0, none⟩) l.length l.length) ∧ BindsFr W' w.heap.size l.length (l.map fun x => (x.1, x.2.app σ)) ∧ Below w.heap.size w W' := by
  obtain ⟨a, c, rfl⟩ := hl.slice
  obtain ⟨i0, hi, hz0, hz1, hz2⟩ := info_parts Try.info35
  obtain ⟨arr, harr⟩ : ∃ arr, madeCells (Value.agg #[.int .i64 0, .int .i64 0, .string ⟨#[]⟩, .slice none 0 0]).cells (l.length * 4) = arr := ⟨_, rfl⟩
  have hs : arr.size = l.length * 4 := by rw [← harr]; simp [madeCells]
  have hmk : ∀ W : World, (Instr.makeSlice 22 (.int .i64 l.length) (.int .i64 l.length)).run Try.prog W = .ok (.slice (some ⟨W.heap.size, 0, none⟩) l.length l.length) (W.alloc (.cells arr 35)) := by
    intro W
    have := run_make (P := Try.prog) W 22 35 i0 _ Try.underlying22 hi hz0 .i64 .i64 l.length l.length (by omega) (Int.le_refl _) (by rw [hz2]; omega) (by omega)
    rw [hz1] at this
    simp only [Int.toNat_natCast, harr] at this
    exact this
  have HZ : Hid (RbI w.heap.size l.length 0 l σ (w.alloc (.cells arr 35)) ∧ Below w.heap.size w (w.alloc (.cells arr 35))) := ⟨⟨⟨arr, (MapKept.heap_alloc w _).1, hs⟩, fun j _ h => absurd h (by omega)⟩, below_box w _⟩
  have HL : Hid (BindsAt w (.slice a l.length c) l ∧ ∀ x ∈ l, x.2.shape = true) := ⟨hl, hsh⟩
  have hrep := rep_any W0 g lb σ eg hst
  clear hl hsh harr hi hz0 hz1 hz2 hs
  go_enter Try.func38, Try.ntmps38
  go_wp2
  go_loopw [13] (fun vi wr => ∃ i : Nat, vi = .int .i64 i ∧ i ≤ l.length ∧ RbI w.heap.size l.length i l σ wr ∧ Below w.heap.size w wr ∧ w.heap.size < wr.heap.size) (fun vi _ => l.length - (intOf vi).toNat)
  case atStart => exact ⟨0, rfl, Nat.zero_le _, HZ.out.1, HZ.out.2, by simp⟩
  case round =>
    obtain ⟨i, rfl, hi, hI, hbw, hsw⟩ := hrel
    by_cases hlt : i < l.length
    · obtain ⟨b, o, s, e', hB0⟩ := HL.out.1.nth hlt
      cases e'
      have hB := hB0.keep hbw
      have hxs := HL.out.2 _ (List.getElem_mem hlt)
      have hstp : Hid (∀ W s, RbI w.heap.size l.length i l σ W → ArgsFr (w.heap.size + 1) W s (l[i].2.app σ).args → RbI w.heap.size l.length (i + 1) l σ (set4 W w.heap.size (i * 4) (.int .i64 l[i].1) (.int .i64 (l[i].2.app σ).v) (.string (l[i].2.app σ).fn) s)) := fun W s h h' => h.step hlt hlt s h'
      obtain ⟨x, hx⟩ : ∃ x, l[i] = x := ⟨_, rfl⟩
      rw [hx] at hB hxs hstp
      obtain ⟨sa, sc, rfl, _, _⟩ := hB.sub.slice
      obtain ⟨g0, g1, g2, g3⟩ : wr.cell? ⟨b, o + i * 4, none⟩ = some (.int .i64 x.1) ∧ wr.cell? ⟨b, o + i * 4 + 1, none⟩ = some (.int .i64 x.2.v) ∧ wr.cell? ⟨b, o + i * 4 + 2, none⟩ = some (.string x.2.fn) ∧ wr.cell? ⟨b, o + i * 4 + 3, none⟩ = some (.slice sa x.2.args.length sc) := ⟨hB.c0, hB.c1, hB.c2, hB.c3⟩
      have hb1 := below_box wr (bbox x (.slice sa x.2.args.length sc))
      obtain ⟨k0, k1, k2, k3⟩ := bbox_cells wr x (.slice sa x.2.args.length sc)
      have hdr : Below (wr.alloc (bbox x (.slice sa x.2.args.length sc))).heap.size (wr.alloc (bbox x (.slice sa x.2.args.length sc))) (wr.alloc (bbox x (.slice sa x.2.args.length sc))).drew := (Below.refl _ _).drew
      have hbd := hb1.trans (hdr.mono (by simp))
      have hcall := hrep x.2 (.slice sa x.2.args.length sc) (wr.alloc (bbox x (.slice sa x.2.args.length sc))).drew (hw.trans ((hbw.trans (hbd.mono hbw.size)).mono hw.size)) (ArgsAt.keep hbd (Nat.le_refl _) hB.sub) hxs
      obtain ⟨u, hu⟩ : ∃ u, x.2.app σ = u := ⟨_, rfl⟩
      rw [hu] at hcall hstp
      have hId := hI.keep hbd
      have HX : Hid (RbI w.heap.size l.length i l σ (wr.alloc (bbox x (.slice sa x.2.args.length sc))).drew ∧ Below w.heap.size w (wr.alloc (bbox x (.slice sa x.2.args.length sc))).drew ∧ w.heap.size + 1 ≤ (wr.alloc (bbox x (.slice sa x.2.args.length sc))).drew.heap.size) := ⟨hId, hbw.trans (hbd.mono hbw.size), by have := hbd.size; omega⟩
      obtain ⟨n0, n1, n2, n3⟩ : (wr.alloc (bbox x (.slice sa x.2.args.length sc))).drew.cell? ⟨wr.heap.size, 0, none⟩ = some (.int .i64 x.1) ∧ (wr.alloc (bbox x (.slice sa x.2.args.length sc))).drew.cell? ⟨wr.heap.size, 1, none⟩ = some (.int .i64 x.2.v) ∧ (wr.alloc (bbox x (.slice sa x.2.args.length sc))).drew.cell? ⟨wr.heap.size, 2, none⟩ = some (.string x.2.fn) ∧ (wr.alloc (bbox x (.slice sa x.2.args.length sc))).drew.cell? ⟨wr.heap.size, 3, none⟩ = some (.slice sa x.2.args.length sc) := ⟨kc hdr (by simp) k0, kc hdr (by simp) k1, kc hdr (by simp) k2, kc hdr (by simp) k3⟩
      clear hx hB hB0 hb1 hbd hdr hu hI hId hxs hrep hbw
      go_wp2
      go_region_held3 (fun X => X.cell? ⟨wr.heap.size, 0, none⟩ = some (.int .i64 x.1) ∧ X.cell? ⟨wr.heap.size, 1, none⟩ = some (.int .i64 x.2.v) ∧ X.cell? ⟨wr.heap.size, 2, none⟩ = some (.string x.2.fn) ∧ X.cell? ⟨wr.heap.size, 3, none⟩ = some (.slice sa x.2.args.length sc)) (first | exact ⟨n0, n1, n2, n3⟩ | exact K3 | exact ⟨set4_farc (by omega) K3.1, set4_farc (by omega) K3.2.1, set4_farc (by omega) K3.2.2.1, set4_farc (by omega) K3.2.2.2⟩) (first
        | (go_at_call 31; refine hcall.mono ?_; rintro e W3 ⟨sl, rfl, hf3, hb3⟩; obtain ⟨pa, pc, rfl⟩ := hf3.slice; have K3 : W3.cell? ⟨wr.heap.size, 0, none⟩ = some (.int .i64 x.1) ∧ W3.cell? ⟨wr.heap.size, 1, none⟩ = some (.int .i64 x.2.v) ∧ W3.cell? ⟨wr.heap.size, 2, none⟩ = some (.string x.2.fn) ∧ W3.cell? ⟨wr.heap.size, 3, none⟩ = some (.slice sa x.2.args.length sc) := ⟨kc hb3 (by simp) n0, kc hb3 (by simp) n1, kc hb3 (by simp) n2, kc hb3 (by simp) n3⟩; have hI3 := HX.out.1.keep hb3; obtain ⟨_, ⟨q0, q1, q2, q3, c0, c1, c2, c3⟩, y0, y1, y2, y3⟩ := hI3.facts hlt; have H3 : Hid (RbI w.heap.size l.length i l σ W3 ∧ ArgsFr (w.heap.size + 1) W3 (.slice pa u.args.length pc) u.args ∧ Below w.heap.size w W3 ∧ w.heap.size < W3.heap.size) := ⟨hI3, hf3.low HX.out.2.2, HX.out.2.1.trans (hb3.mono HX.out.2.1.size), by have h7 := hb3.size; have h8 := HX.out.2.2; omega⟩; clear hf3 hb3 hI3))
      go_wp2
      go_roundw
      case rel => exact ⟨i + 1, by go_num, by omega, hstp.out _ _ H3.out.1 H3.out.2.1, set4_below H3.out.2.2.1 _ _ _ _ _ _ (Nat.le_refl _), by have := H3.out.2.2.2; simpa using this⟩
      case measure => simp [intOf]; omega
    · have HF : Hid (BindsFr wr w.heap.size l.length (l.map fun x => (x.1, x.2.app σ)) ∧ Below w.heap.size w wr) := by
        refine ⟨⟨by simp, hI.blk, fun j hj => ?_⟩, hbw⟩
        have hj' : j < l.length := by simpa using hj
        obtain ⟨s, c0, c1, c2, c3, hs⟩ := hI.el j hj' (by omega)
        simp only [List.getElem_map]
        exact ⟨s, c0, c1, c2, c3, hs⟩
      clear hI hbw hrep
      go_wp2
      go_ret
      exact ⟨rfl, HF.out.1, HF.out.2⟩

end Go.Proofs.Ythinbkpjggihdaa
