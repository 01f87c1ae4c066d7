/-
  Two literals: lits.sameSides, Same, oneSide, True.
-/
import Derived.Test.YtgnjgpplelakkaaGreatLA
import Derived.Test.YtgnjgpplelakkaaGreatQF
namespace Go.Proofs.YtgnjgpplelakkaaGreat
open Go.RowKit

theorem LitAt.zero {X : World} {g : Nat} {x : Lt} {a b : Value} (h : LitAt X g 0 x a b) : X.cell? ⟨g, 0, none⟩ = some (.bool x.neg) ∧ X.cell? ⟨g, 1, none⟩ = some (.int .i64 x.l.v) ∧ X.cell? ⟨g, 2, none⟩ = some (.string x.l.fn) ∧ X.cell? ⟨g, 3, none⟩ = some a ∧ X.cell? ⟨g, 4, none⟩ = some (.int .i64 x.r.v) ∧ X.cell? ⟨g, 5, none⟩ = some (.string x.r.fn) ∧ X.cell? ⟨g, 6, none⟩ = some b :=
  ⟨h.c0, h.c1, h.c2, h.c3, h.c4, h.c5, h.c6⟩

/-- Two literals in boxes. -/
structure TwoL (w : World) (x : Lt) (a b : Value) (y : Lt) (c d : Value) (X : World) : Prop where
  lx : LitAt X w.heap.size 0 x a b
  ly : LitAt X (w.heap.size + 1) 0 y c d
  bel : Below w.heap.size w X

/-- A call that answers r and keeps S. -/
def Serves (S : World → Prop) (f : Nat) (args : Array Value) (r : Value) : Prop :=
  ∀ X, S X → Calls Tryz.prog f args X fun e X' => e = .returned r ∧ S X'

section
variable {w : World} {x y : Lt} {a b c d : Value}

theorem TwoL.keep {X X' : World} (h : TwoL w x a b y c d X) (hb : Below X.heap.size X X') : TwoL w x a b y c d X' :=
  ⟨h.lx.keep hb, h.ly.keep hb, h.bel.trans (hb.mono h.bel.size)⟩

theorem TwoL.new (hxl : ArgsAt w a x.l.args) (hxr : ArgsAt w b x.r.args) (hyl : ArgsAt w c y.l.args) (hyr : ArgsAt w d y.r.args) : TwoL w x a b y c d ((w.alloc (lbox x a b)).alloc (lbox y c d)) := by
  have b1 := below_box w (lbox x a b)
  have k := fun {s l} (h : ArgsAt w s l) => ArgsAt.keep b1 (Nat.le_refl _) h
  have h2 := lbox_at (w.alloc (lbox x a b)) y c d (k hyl) (k hyr)
  rw [World.size_alloc] at h2
  exact ⟨(lbox_at w x a b hxl hxr).keep (below_box _ _), h2, below_box2 w _ _⟩

theorem TwoL.serves {f : Nat} {args : Array Value} {r : Value} (h : ∀ X, TwoL w x a b y c d X → Calls Tryz.prog f args X fun e X' => e = .returned r ∧ Below X.heap.size X X') : Serves (TwoL w x a b y c d) f args r :=
  fun X hX => (h X hX).mono fun _ _ ⟨he, hb⟩ => ⟨he, hX.keep hb⟩
end

/-- The sides of both, one way round or the other. -/
noncomputable def lsides (x y : Lt) : Bool := same x.l y.l && same x.r y.r || same x.l y.r && same x.r y.l
noncomputable def lsame (x y : Lt) : Bool := (x.neg == y.neg) && lsides x y

set_option maxRecDepth 100000 in
set_option maxHeartbeats 16000000 in
theorem sides_any (x y : Lt) (a b c d : Value) (w : World) (hxl : ArgsAt w a x.l.args) (hxr : ArgsAt w b x.r.args) (hyl : ArgsAt w c y.l.args) (hyr : ArgsAt w d y.r.args) :
    Calls Tryz.prog 38 #[lval x a b, lval y c d] w fun e w' => e = .returned (.bool (lsides x y)) ∧ Below w.heap.size w w' := by
  have hS0 := TwoL.new hxl hxr hyl hyr
  have hLL : Serves (TwoL w x a b y c d) 33 #[tval x.l a, tval y.l c] (.bool (same x.l y.l)) := TwoL.serves fun X hX => tsame_any x.l y.l _ _ X hX.lx.al hX.ly.al
  have hRR : Serves (TwoL w x a b y c d) 33 #[tval x.r b, tval y.r d] (.bool (same x.r y.r)) := TwoL.serves fun X hX => tsame_any x.r y.r _ _ X hX.lx.ar hX.ly.ar
  have hLR : Serves (TwoL w x a b y c d) 33 #[tval x.l a, tval y.r d] (.bool (same x.l y.r)) := TwoL.serves fun X hX => tsame_any x.l y.r _ _ X hX.lx.al hX.ly.ar
  have hRL : Serves (TwoL w x a b y c d) 33 #[tval x.r b, tval y.l c] (.bool (same x.r y.l)) := TwoL.serves fun X hX => tsame_any x.r y.l _ _ X hX.lx.ar hX.ly.al
  have hC := fun X (h : TwoL w x a b y c d X) => And.intro h.lx.zero h.ly.zero
  have hbl := fun X (h : TwoL w x a b y c d X) => h.bel
  obtain ⟨_, _, rfl, _⟩ := hxl.slice
  obtain ⟨_, _, rfl, _⟩ := hxr.slice
  obtain ⟨_, _, rfl, _⟩ := hyl.slice
  obtain ⟨_, _, rfl, _⟩ := hyr.slice
  generalize hS : TwoL w x _ _ y _ _ = S at *
  clear hS hxl hxr hyl hyr
  have HE : Hid (lsides x y = (same x.l y.l && same x.r y.r || same x.l y.r && same x.r y.l)) := rfl
  generalize same x.l y.l = p at *
  generalize same x.r y.r = q at *
  generalize same x.l y.r = r at *
  generalize same x.r y.l = s at *
  obtain ⟨⟨a0, a1, a2, a3, a4, a5, a6⟩, b0, b1, b2, b3, b4, b5, b6⟩ := hC _ hS0
  cases p with
  | true =>
    cases q with
    | true =>
      go_enter Tryz.func38, Tryz.ntmps38
      go_wp2_with (first
        | (go_at_call 33; refine (hRR _ H1).mono ?_; rintro e W2 ⟨rfl, H2⟩)
        | (go_at_call 33; refine (hLL _ hS0).mono ?_; rintro e W1 ⟨rfl, H1⟩; obtain ⟨⟨a10, a11, a12, a13, a14, a15, a16⟩, b10, b11, b12, b13, b14, b15, b16⟩ := hC _ H1))
      go_ret
      exact ⟨ret_bool (by rw [HE.out]; simp), hbl _ H2⟩
    | false =>
      cases r with
      | false =>
        go_enter Tryz.func38, Tryz.ntmps38
        go_wp2_with (first
          | (go_at_call 33; refine (hLR _ H2).mono ?_; rintro e W3 ⟨rfl, H3⟩)
          | (go_at_call 33; refine (hRR _ H1).mono ?_; rintro e W2 ⟨rfl, H2⟩; obtain ⟨⟨a20, a21, a22, a23, a24, a25, a26⟩, b20, b21, b22, b23, b24, b25, b26⟩ := hC _ H2)
          | (go_at_call 33; refine (hLL _ hS0).mono ?_; rintro e W1 ⟨rfl, H1⟩; obtain ⟨⟨a10, a11, a12, a13, a14, a15, a16⟩, b10, b11, b12, b13, b14, b15, b16⟩ := hC _ H1))
        go_ret
        exact ⟨ret_bool (by rw [HE.out]; simp), hbl _ H3⟩
      | true =>
        go_enter Tryz.func38, Tryz.ntmps38
        go_wp2_with (first
          | (go_at_call 33; refine (hRL _ H3).mono ?_; rintro e W4 ⟨rfl, H4⟩)
          | (go_at_call 33; refine (hLR _ H2).mono ?_; rintro e W3 ⟨rfl, H3⟩; obtain ⟨⟨a30, a31, a32, a33, a34, a35, a36⟩, b30, b31, b32, b33, b34, b35, b36⟩ := hC _ H3)
          | (go_at_call 33; refine (hRR _ H1).mono ?_; rintro e W2 ⟨rfl, H2⟩; obtain ⟨⟨a20, a21, a22, a23, a24, a25, a26⟩, b20, b21, b22, b23, b24, b25, b26⟩ := hC _ H2)
          | (go_at_call 33; refine (hLL _ hS0).mono ?_; rintro e W1 ⟨rfl, H1⟩; obtain ⟨⟨a10, a11, a12, a13, a14, a15, a16⟩, b10, b11, b12, b13, b14, b15, b16⟩ := hC _ H1))
        go_ret
        exact ⟨ret_bool (by rw [HE.out]; simp), hbl _ H4⟩
  | false =>
    cases r with
    | false =>
      go_enter Tryz.func38, Tryz.ntmps38
      go_wp2_with (first
        | (go_at_call 33; refine (hLR _ H1).mono ?_; rintro e W3 ⟨rfl, H3⟩)
        | (go_at_call 33; refine (hLL _ hS0).mono ?_; rintro e W1 ⟨rfl, H1⟩; obtain ⟨⟨a10, a11, a12, a13, a14, a15, a16⟩, b10, b11, b12, b13, b14, b15, b16⟩ := hC _ H1))
      go_ret
      exact ⟨ret_bool (by rw [HE.out]; simp), hbl _ H3⟩
    | true =>
      go_enter Tryz.func38, Tryz.ntmps38
      go_wp2_with (first
        | (go_at_call 33; refine (hRL _ H3).mono ?_; rintro e W4 ⟨rfl, H4⟩)
        | (go_at_call 33; refine (hLR _ H1).mono ?_; rintro e W3 ⟨rfl, H3⟩; obtain ⟨⟨a30, a31, a32, a33, a34, a35, a36⟩, b30, b31, b32, b33, b34, b35, b36⟩ := hC _ H3)
        | (go_at_call 33; refine (hLL _ hS0).mono ?_; rintro e W1 ⟨rfl, H1⟩; obtain ⟨⟨a10, a11, a12, a13, a14, a15, a16⟩, b10, b11, b12, b13, b14, b15, b16⟩ := hC _ H1))
      go_ret
      exact ⟨ret_bool (by rw [HE.out]; simp), hbl _ H4⟩

set_option maxRecDepth 100000 in
set_option maxHeartbeats 2000000 in
theorem lsame_any (x y : Lt) (a b c d : Value) (w : World) (hxl : ArgsAt w a x.l.args) (hxr : ArgsAt w b x.r.args) (hyl : ArgsAt w c y.l.args) (hyr : ArgsAt w d y.r.args) :
    Calls Tryz.prog 17 #[lval x a b, lval y c d] w fun e w' => e = .returned (.bool (lsame x y)) ∧ Below w.heap.size w w' := by
  have hS0 := TwoL.new hxl hxr hyl hyr
  have hss : Serves (TwoL w x a b y c d) 38 #[lval x a b, lval y c d] (.bool (lsides x y)) := TwoL.serves fun X hX => sides_any x y a b c d X hX.lx.al hX.lx.ar hX.ly.al hX.ly.ar
  have hC := fun X (h : TwoL w x a b y c d X) => And.intro h.lx.zero h.ly.zero
  have hbl := fun X (h : TwoL w x a b y c d X) => h.bel
  obtain ⟨_, _, rfl, _⟩ := hxl.slice
  obtain ⟨_, _, rfl, _⟩ := hxr.slice
  obtain ⟨_, _, rfl, _⟩ := hyl.slice
  obtain ⟨_, _, rfl, _⟩ := hyr.slice
  generalize hS : TwoL w x _ _ y _ _ = S at *
  clear hS hxl hxr hyl hyr
  have HE : Hid (lsame x y = ((x.neg == y.neg) && lsides x y)) := rfl
  generalize lsides x y = p at *
  obtain ⟨⟨a0, a1, a2, a3, a4, a5, a6⟩, b0, b1, b2, b3, b4, b5, b6⟩ := hC _ hS0
  obtain ⟨n1, xl, xr⟩ := x
  obtain ⟨n2, yl, yr⟩ := y
  simp only at *
  cases n1 <;> cases n2 <;> (
    go_enter Tryz.func17, Tryz.ntmps17
    go_wp2_with (go_at_call 38; refine (hss _ hS0).mono ?_; rintro e W1 ⟨rfl, H1⟩)
    go_ret
    exact ⟨ret_bool (by rw [HE.out]; rfl), by first | exact hbl _ H1 | exact hbl _ hS0⟩)

set_option maxHeartbeats 1000000 in
theorem oneSide_any (x : Lt) (a b : Value) (w : World) (hxl : ArgsAt w a x.l.args) (hxr : ArgsAt w b x.r.args) :
    Calls Tryz.prog 39 #[lval x a b] w fun e w' => e = .returned (.bool (same x.l x.r)) ∧ Below w.heap.size w w' := by
  have hL := lbox_at w x a b hxl hxr
  have hb := below_box w (lbox x a b)
  obtain ⟨a0, a1, a2, a3, a4, a5, a6⟩ := hL.zero
  have hs := tsame_any x.l x.r a b _ hL.al hL.ar
  obtain ⟨_, _, rfl, _⟩ := hxl.slice
  obtain ⟨_, _, rfl, _⟩ := hxr.slice
  clear hL hxl hxr
  go_enter Tryz.func39, Tryz.ntmps39
  go_wp2_with (go_at_call 33; refine hs.mono ?_; rintro e W1 ⟨rfl, H1⟩)
  go_ret
  exact ⟨rfl, hb.trans (H1.mono hb.size)⟩

def tru : T := .mk 0 ⟨#[36, 116, 114, 117, 101]⟩ []

set_option maxHeartbeats 1000000 in
theorem true_any (w : World) : Calls Tryz.prog 13 #[] w fun e w' => e = .returned (tval tru (.slice none 0 0)) ∧ Below w.heap.size w w' := by
  go_enter Tryz.func13, Tryz.ntmps13
  go_wp2
  refine bodyPost_ret (v := tval tru (.slice none 0 0)) (by simp [results, Tryz.results13, go_sem, *, T.v, T.fn, tru]) rfl ⟨rfl, ?_⟩
  exact below_box w _

end Go.Proofs.YtgnjgpplelakkaaGreat
