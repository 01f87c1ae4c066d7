/-
  lits.Cmp; the document's Cmp.
-/
import Derived.Test.YtgnjgpplelakkaaLB
import Derived.Test.YtgnjgpplelakkaaG
import Derived.Deep.RegionHeld3
namespace Go.Proofs.Ytgnjgpplelakkaa
open Go.RowKit

set_option maxHeartbeats 1000000 in
theorem or2_any (g : Nat) (p q : Int) (w : World) (c0 : w.cell? ⟨g, 0, none⟩ = some (.int .i64 p)) (c1 : w.cell? ⟨g, 1, none⟩ = some (.int .i64 q)) :
    Calls Try.prog 53 #[.slice (some ⟨g, 0, none⟩) 2 2] w fun e w' => e = .returned (.int .i64 (or2 p q)) ∧ w' = w := by
  go_enter Try.func53, Try.ntmps53
  go_wp2
  go_loop [8] (fun i => ∃ k : Nat, k ≤ 2 ∧ i = .int .i64 k ∧ (0 < k → p = 0) ∧ (1 < k → q = 0)) (fun i => 2 - (intOf i).toNat)
  case atStart => exact ⟨0, by omega, rfl, by omega, by omega⟩
  case round =>
    obtain ⟨k, hk, rfl, h0, h1⟩ := hrel
    obtain rfl | rfl | rfl : k = 0 ∨ k = 1 ∨ k = 2 := by omega
    · by_cases hp : p = 0
      · have hb : (p != 0) = false := by rw [bne_eq_false_iff_eq]; exact hp
        have H : Hid (p = 0) := hp
        clear hp h0 h1
        go_wp2
        go_round
        case rel => exact ⟨1, by omega, rfl, fun _ => H, by omega⟩
        case measure => simp [intOf]
      · have hb : (p != 0) = true := by rw [bne_iff_ne]; exact hp
        have H : Hid (or2 p q = p) := if_neg hp
        clear hp h0 h1
        go_wp2
        go_ret
        exact ⟨ret_i64 H.symm, rfl⟩
    · have H0 : Hid (p = 0) := h0 (by omega)
      have HE : Hid (or2 p q = q) := if_pos (h0 (by omega))
      clear h0 h1
      by_cases hp : q = 0
      · have hb : (q != 0) = false := by rw [bne_eq_false_iff_eq]; exact hp
        have H : Hid (q = 0) := hp
        clear hp
        go_wp2
        go_round
        case rel => exact ⟨2, by omega, rfl, fun _ => H0, fun _ => H⟩
        case measure => simp [intOf]
      · have hb : (q != 0) = true := by rw [bne_iff_ne]; exact hp
        clear hp
        go_wp2
        go_ret
        exact ⟨ret_i64 (by rw [HE]), rfl⟩
    · have HE : Hid (or2 p q = 0) := by
        show or2 p q = 0
        rw [h0 (by omega), h1 (by omega)]
        rfl
      clear h0 h1
      go_wp2
      go_ret
      exact ⟨ret_i64 (by rw [HE]), rfl⟩

theorem row2 (w : World) (p q : Int) :
    Calls Try.prog 53 #[.slice (some ⟨w.heap.size, 0, none⟩) 2 2] (w.alloc (.cells #[.int .i64 p, .int .i64 q] 3)) fun e w' => e = .returned (.int .i64 (or2 p q)) ∧ w' = (w.alloc (.cells #[.int .i64 p, .int .i64 q] 3)) := by
  have h : (w.alloc (.cells #[.int .i64 p, .int .i64 q] 3)).heap[w.heap.size]? = some (.cells [Value.int .i64 p, .int .i64 q].toArray 3 (0, 0)) := (MapKept.heap_alloc w _).1
  refine or2_any _ _ _ _ ?_ ?_ <;> rw [cell_of_row _ _ _ _ 3 (0, 0) h] <;> rfl

/-- The order of literals. -/
def lcmp (x y : Lt) : Int := if x.neg = y.neg then or2 (T.cmp x.l y.l) (T.cmp x.r y.r) else if y.neg then -1 else 1
def rlcmp (x y : Lt) : Int := if x.neg = y.neg then or2 (T.rcmp x.l y.l) (T.rcmp x.r y.r) else if y.neg then -1 else 1

set_option maxRecDepth 100000 in
set_option maxHeartbeats 4000000 in
theorem lcmp_any (x y : Lt) (a b c d : Value) (w : World) (hxl : ArgsAt w a x.l.args) (hxr : ArgsAt w b x.r.args) (hyl : ArgsAt w c y.l.args) (hyr : ArgsAt w d y.r.args) :
    Calls Try.prog 24 #[lval x a b, lval y c d] w fun e w' => e = .returned (.int .i64 (lcmp x y)) ∧ Below w.heap.size w w' := by
  have hS0 := TwoL.new hxl hxr hyl hyr
  have hL : Serves (TwoL w x a b y c d) 54 #[tval x.l a, tval y.l c] (.int .i64 (T.cmp x.l y.l)) := TwoL.serves fun X hX => tcmp_any x.l y.l _ _ X hX.lx.al hX.ly.al
  have hR : Serves (TwoL w x a b y c d) 54 #[tval x.r b, tval y.r d] (.int .i64 (T.cmp x.r y.r)) := TwoL.serves fun X hX => tcmp_any x.r y.r _ _ X hX.lx.ar hX.ly.ar
  have hC := fun X (h : TwoL w x a b y c d X) => And.intro h.lx.zero h.ly.zero
  have hbl := fun X (h : TwoL w x a b y c d X) => h.bel
  have hdr := fun X (h : TwoL w x a b y c d X) => h.keep (Below.refl _ X).drew
  have hal := fun X (h : TwoL w x a b y c d X) (o : Obj) => h.keep (below_box X o)
  obtain ⟨aa, ac, rfl, _⟩ := hxl.slice
  obtain ⟨ba, bc, rfl, _⟩ := hxr.slice
  obtain ⟨ca, cc, rfl, _⟩ := hyl.slice
  obtain ⟨da, dc, rfl, _⟩ := hyr.slice
  generalize hS : TwoL w x _ _ y _ _ = S at *
  clear hS hxl hxr hyl hyr
  have HE : Hid (lcmp x y = if x.neg = y.neg then or2 (T.cmp x.l y.l) (T.cmp x.r y.r) else if y.neg then -1 else 1) := rfl
  generalize T.cmp x.l y.l = p at *
  generalize T.cmp x.r y.r = q at *
  obtain ⟨n1, xl, xr⟩ := x
  obtain ⟨n2, yl, yr⟩ := y
  simp only at *
  by_cases hn : n1 = n2
  · subst hn
    have hb : (n1 != n1) = false := by simp
    have hb' : (n1 == n1) = true := by simp
    have HF : Hid (lcmp ⟨n1, xl, xr⟩ ⟨n1, yl, yr⟩ = or2 p q) := by show _ = _; rw [HE.out, if_pos rfl]
    have hD : ∀ X, S X → X.cell? ⟨w.heap.size, 0, none⟩ = some (.bool n1) ∧ X.cell? ⟨w.heap.size, 1, none⟩ = some (.int .i64 xl.v) ∧ X.cell? ⟨w.heap.size, 2, none⟩ = some (.string xl.fn) ∧ X.cell? ⟨w.heap.size, 3, none⟩ = some (.slice aa xl.args.length ac) ∧ X.cell? ⟨w.heap.size, 4, none⟩ = some (.int .i64 xr.v) ∧ X.cell? ⟨w.heap.size, 5, none⟩ = some (.string xr.fn) ∧ X.cell? ⟨w.heap.size, 6, none⟩ = some (.slice ba xr.args.length bc) ∧ X.cell? ⟨w.heap.size + 1, 0, none⟩ = some (.bool n1) ∧ X.cell? ⟨w.heap.size + 1, 1, none⟩ = some (.int .i64 yl.v) ∧ X.cell? ⟨w.heap.size + 1, 2, none⟩ = some (.string yl.fn) ∧ X.cell? ⟨w.heap.size + 1, 3, none⟩ = some (.slice ca yl.args.length cc) ∧ X.cell? ⟨w.heap.size + 1, 4, none⟩ = some (.int .i64 yr.v) ∧ X.cell? ⟨w.heap.size + 1, 5, none⟩ = some (.string yr.fn) ∧ X.cell? ⟨w.heap.size + 1, 6, none⟩ = some (.slice da yr.args.length dc) := fun X h => by obtain ⟨⟨a0, a1, a2, a3, a4, a5, a6⟩, b0, b1, b2, b3, b4, b5, b6⟩ := hC X h; exact ⟨a0, a1, a2, a3, a4, a5, a6, b0, b1, b2, b3, b4, b5, b6⟩
    clear HE hC
    obtain ⟨a0, a1, a2, a3, a4, a5, a6, b0, b1, b2, b3, b4, b5, b6⟩ := hD _ hS0
    have hSd := hdr _ hS0
    have K0 := hD _ hSd
    clear hdr
    go_enter Try.func24, Try.ntmps24
    go_wp2
    clear a0 a1 a2 a3 a4 a5 a6 b0 b1 b2 b3 b4 b5 b6
    obtain ⟨a0, a1, a2, a3, a4, a5, a6, b0, b1, b2, b3, b4, b5, b6⟩ := K0
    have K0 := hD _ hSd
    go_region_held3 (fun X => X.cell? ⟨w.heap.size, 0, none⟩ = some (.bool n1) ∧ X.cell? ⟨w.heap.size, 1, none⟩ = some (.int .i64 xl.v) ∧ X.cell? ⟨w.heap.size, 2, none⟩ = some (.string xl.fn) ∧ X.cell? ⟨w.heap.size, 3, none⟩ = some (.slice aa xl.args.length ac) ∧ X.cell? ⟨w.heap.size, 4, none⟩ = some (.int .i64 xr.v) ∧ X.cell? ⟨w.heap.size, 5, none⟩ = some (.string xr.fn) ∧ X.cell? ⟨w.heap.size, 6, none⟩ = some (.slice ba xr.args.length bc) ∧ X.cell? ⟨w.heap.size + 1, 0, none⟩ = some (.bool n1) ∧ X.cell? ⟨w.heap.size + 1, 1, none⟩ = some (.int .i64 yl.v) ∧ X.cell? ⟨w.heap.size + 1, 2, none⟩ = some (.string yl.fn) ∧ X.cell? ⟨w.heap.size + 1, 3, none⟩ = some (.slice ca yl.args.length cc) ∧ X.cell? ⟨w.heap.size + 1, 4, none⟩ = some (.int .i64 yr.v) ∧ X.cell? ⟨w.heap.size + 1, 5, none⟩ = some (.string yr.fn) ∧ X.cell? ⟨w.heap.size + 1, 6, none⟩ = some (.slice da yr.args.length dc)) (first | exact K0 | exact K1 | exact K2 | exact K3) (first
      | (go_at_call 53; refine hor.mono ?_; rintro e w' ⟨rfl, rfl⟩)
      | (go_at_call 54; refine (hR _ H1).mono ?_; rintro e W2 ⟨rfl, H2⟩; have K2 := hD _ H2; have hor := row2 W2 p q; have H3 := hal _ H2 (.cells #[.int .i64 p, .int .i64 q] 3); have K3 := hD _ H3)
      | (go_at_call 54; refine (hL _ hSd).mono ?_; rintro e W1 ⟨rfl, H1⟩; have K1 := hD _ H1))
    go_wp2
    go_ret
    exact ⟨ret_i64 HF.out.symm, hbl _ H3⟩
  · have hb : (n1 != n2) = true := by rw [bne_iff_ne]; exact hn
    have HF : Hid (lcmp ⟨n1, xl, xr⟩ ⟨n2, yl, yr⟩ = if n2 then -1 else 1) := by show _ = _; rw [HE.out, if_neg hn]
    obtain ⟨⟨a0, a1, a2, a3, a4, a5, a6⟩, b0, b1, b2, b3, b4, b5, b6⟩ := hC _ hS0
    clear HE hC hn
    cases n1 <;> cases n2 <;> first | exact absurd hb (by decide) | (
      go_enter Try.func24, Try.ntmps24
      go_wp2
      go_ret
      exact ⟨ret_i64 (by rw [HF.out]; rfl), hbl _ hS0⟩)

set_option maxRecDepth 100000 in
set_option maxHeartbeats 4000000 in
theorem rlcmp_any (x y : Lt) (a b c d : Value) (w : World) (hxl : ArgsAt w a x.l.args) (hxr : ArgsAt w b x.r.args) (hyl : ArgsAt w c y.l.args) (hyr : ArgsAt w d y.r.args) :
    Calls Try.prog 25 #[lval x a b, lval y c d] w fun e w' => e = .returned (.int .i64 (rlcmp x y)) ∧ Below w.heap.size w w' := by
  have hS0 := TwoL.new hxl hxr hyl hyr
  have hL : Serves (TwoL w x a b y c d) 55 #[tval x.l a, tval y.l c] (.int .i64 (T.rcmp x.l y.l)) := TwoL.serves fun X hX => rcmp_any x.l y.l _ _ X hX.lx.al hX.ly.al
  have hR : Serves (TwoL w x a b y c d) 55 #[tval x.r b, tval y.r d] (.int .i64 (T.rcmp x.r y.r)) := TwoL.serves fun X hX => rcmp_any x.r y.r _ _ X hX.lx.ar hX.ly.ar
  have hC := fun X (h : TwoL w x a b y c d X) => And.intro h.lx.zero h.ly.zero
  have hbl := fun X (h : TwoL w x a b y c d X) => h.bel
  obtain ⟨aa, ac, rfl, _⟩ := hxl.slice
  obtain ⟨ba, bc, rfl, _⟩ := hxr.slice
  obtain ⟨ca, cc, rfl, _⟩ := hyl.slice
  obtain ⟨da, dc, rfl, _⟩ := hyr.slice
  generalize hS : TwoL w x _ _ y _ _ = S at *
  clear hS hxl hxr hyl hyr
  have HE : Hid (rlcmp x y = if x.neg = y.neg then or2 (T.rcmp x.l y.l) (T.rcmp x.r y.r) else if y.neg then -1 else 1) := rfl
  generalize T.rcmp x.l y.l = p at *
  generalize T.rcmp x.r y.r = q at *
  obtain ⟨n1, xl, xr⟩ := x
  obtain ⟨n2, yl, yr⟩ := y
  simp only at *
  obtain ⟨⟨a0, a1, a2, a3, a4, a5, a6⟩, b0, b1, b2, b3, b4, b5, b6⟩ := hC _ hS0
  by_cases hn : n1 = n2
  · subst hn
    have hb : (n1 != n1) = false := by simp
    have HF : Hid (rlcmp ⟨n1, xl, xr⟩ ⟨n1, yl, yr⟩ = or2 p q) := by show _ = _; rw [HE.out, if_pos rfl]
    clear HE
    by_cases hp : p = 0
    · have hpb : (p != 0) = false := by rw [bne_eq_false_iff_eq]; exact hp
      have HG : Hid (or2 p q = q) := if_pos hp
      clear hp
      go_enter Try.func25, Try.ntmps25
      go_wp2_with (first
        | (go_at_call 55; refine (hR _ H1).mono ?_; rintro e W2 ⟨rfl, H2⟩)
        | (go_at_call 55; refine (hL _ hS0).mono ?_; rintro e W1 ⟨rfl, H1⟩; obtain ⟨⟨a10, a11, a12, a13, a14, a15, a16⟩, b10, b11, b12, b13, b14, b15, b16⟩ := hC _ H1))
      go_ret
      exact ⟨ret_i64 (by rw [HF.out, HG.out]), hbl _ H2⟩
    · have hpb : (p != 0) = true := by rw [bne_iff_ne]; exact hp
      have HG : Hid (or2 p q = p) := if_neg hp
      clear hp
      go_enter Try.func25, Try.ntmps25
      go_wp2_with (first
        | (go_at_call 55; refine (hL _ hS0).mono ?_; rintro e W1 ⟨rfl, H1⟩))
      go_ret
      exact ⟨ret_i64 (by rw [HF.out, HG.out]), hbl _ H1⟩
  · have hb : (n1 != n2) = true := by rw [bne_iff_ne]; exact hn
    have HF : Hid (rlcmp ⟨n1, xl, xr⟩ ⟨n2, yl, yr⟩ = if n2 then -1 else 1) := by show _ = _; rw [HE.out, if_neg hn]
    clear HE hC hn
    cases n1 <;> cases n2 <;> first | exact absurd hb (by decide) | (
      go_enter Try.func25, Try.ntmps25
      go_wp2
      go_ret
      exact ⟨ret_i64 (by rw [HF.out]; rfl), hbl _ hS0⟩)

end Go.Proofs.Ytgnjgpplelakkaa
