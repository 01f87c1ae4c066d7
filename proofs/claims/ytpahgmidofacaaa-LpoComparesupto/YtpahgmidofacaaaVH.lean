/-
  Small, Own, alive.
-/
import Derived.Test.YtpahgmidofacaaaVG
namespace Go.Proofs.Ytpahgmidofacaaa
open Go.RowKit Go.Maps

def smallB (l : List T) : Bool := l.all (fun t => !decide (100 < wrap64 t.size))

set_option maxHeartbeats 1000000 in
theorem small_any (l : List T) (v : Value) (w : World) (hl : ArgsAt w v l) :
    Calls Try.prog 8 #[v] w fun e w' => e = .returned (.bool (smallB l)) ∧ Below w.heap.size w w' := by
  obtain ⟨a, c, rfl, hc, hm⟩ := hl.slice
  have HL : Hid (ArgsAt w (.slice a l.length c) l) := hl
  clear hl
  go_enter Try.func8, Try.ntmps8
  go_wp2
  go_loopw [3] (fun vi wr => ∃ i : Nat, vi = .int .i64 i ∧ i ≤ l.length ∧ Hid (∀ j (hj : j < l.length), j < i → wrap64 l[j].size ≤ 100) ∧ Below w.heap.size w wr) (fun vi _ => l.length - (intOf vi).toNat)
  case atStart => exact ⟨0, rfl, Nat.zero_le _, fun j _ hj => absurd hj (by omega), Below.refl _ _⟩
  case round =>
    obtain ⟨i, rfl, hi, HA, hb⟩ := hrel
    have haw := ArgsAt.keep hb (Nat.le_refl _) HL.out
    by_cases hlt : i < l.length
    · obtain ⟨b, o, s, rfl, hbl, c0, c1, c2, hs⟩ := haw.nth hlt
      have hcall := rsize_any l[i] s wr hs
      have HN : Hid (wrap64 l[i].size ≤ 100 → ∀ j (hj : j < l.length), j < i + 1 → wrap64 l[j].size ≤ 100) := fun h j hj hji => by
        by_cases ej : j = i
        · subst ej; exact h
        · exact HA.out j hj (by omega)
      have HF : Hid (100 < wrap64 l[i].size → smallB l = false) := fun h => by
        unfold smallB
        rw [List.all_eq_false]
        exact ⟨l[i], List.getElem_mem hlt, by simp [h]⟩
      obtain ⟨q, hq⟩ : ∃ q, wrap64 l[i].size = q := ⟨_, rfl⟩
      rw [hq] at hcall HN HF
      clear hq haw
      by_cases h1 : 100 < q
      · have e1 : decide (100 < q) = true := decide_eq_true h1
        have HV : Hid (smallB l = false) := HF.out h1
        clear HN HF
        go_wp2_with (first | (go_at_call 15; refine hcall.mono ?_; rintro e w' ⟨rfl, hb'⟩))
        go_ret
        exact ⟨ret_bool HV.out.symm, hb.trans (hb'.mono hb.size)⟩
      · have e1 : decide (100 < q) = false := decide_eq_false h1
        have HN2 : Hid (∀ j (hj : j < l.length), j < i + 1 → wrap64 l[j].size ≤ 100) := HN.out (by omega)
        clear HN HF
        go_wp2_with (first | (go_at_call 15; refine hcall.mono ?_; rintro e w' ⟨rfl, hb'⟩))
        go_roundw
        case rel => exact ⟨i + 1, by go_num, by omega, HN2, hb.trans (hb'.mono hb.size)⟩
        case measure => simp [intOf]; omega
    · have HV : Hid (smallB l = true) := by
        show smallB l = true
        unfold smallB
        rw [List.all_eq_true]
        intro t ht
        obtain ⟨j, hj, rfl⟩ := List.getElem_of_mem ht
        have := HA.out j hj (by omega)
        simpa using this
      go_wp2
      go_ret
      exact ⟨ret_bool HV.out.symm, hb⟩

theorem set2_below {n : Nat} {w W : World} (h : Below n w W) (b o : Nat) (u v : Value) (hb : n ≤ b) : Below n w ((W.setCell ⟨b, o, none⟩ u).setCell ⟨b, o + 1, none⟩ v) :=
  (h.setCell (p := ⟨b, o, none⟩) hb _).setCell (p := ⟨b, o + 1, none⟩) hb _
set_option maxHeartbeats 1000000 in
theorem own_any (vn vw : Value) (hn : ∃ a n c, vn = .slice a n c) (hw : ∃ a n c, vw = .slice a n c) (w : World) : Calls Try.prog 11 #[gval vn vw] w fun e w' => e = .returned (gval vn vw) ∧ Below w.heap.size w w' := by
  obtain ⟨a, n, c, rfl⟩ := hn
  obtain ⟨b, m, d, rfl⟩ := hw
  go_enter Try.func11, Try.ntmps11
  go_wp2
  refine bodyPost_ret (v := gval (.slice a n c) (.slice b m d)) (by simp [results, Try.results11, go_sem, *]) rfl ⟨rfl, ?_⟩
  first | exact below_box2 w _ _ | exact set2_below (below_box2 w _ _) _ 0 _ _ (Nat.le_succ _)

def tx0 : T := .mk 0 ⟨#[]⟩ []
def tx1 : T := .mk 1 ⟨#[]⟩ []
def tf1 : T := .mk 0 ⟨#[102]⟩ [tx1]
def tg1 : T := .mk 0 ⟨#[103]⟩ [tx1]
def tg2 : T := .mk 0 ⟨#[103]⟩ [tx0, tx1]
def gx : Sg := ⟨[⟨#[97]⟩, ⟨#[102]⟩, ⟨#[103]⟩], []⟩

theorem gx_ok : gx.Ok := by
  unfold Sg.Ok
  refine ⟨by decide, by decide, fun x hx => ?_, fun x hx => ?_, by decide⟩
  · simp only [gx, List.mem_cons, List.not_mem_nil, or_false] at hx
    rcases hx with rfl | rfl | rfl <;> kernel_rfl
  · cases hx
theorem lcmp_right {x y : T} (hx : x.rightW = 0) (hy : y.rightW = 0) : lcmp gx x y = pcmp gx x y := by
  unfold lcmp
  rw [if_pos ⟨gx_ok, hx, hy⟩]
theorem gx_gf : gx.above ⟨#[103]⟩ ⟨#[102]⟩ = true := by decide
theorem al1 : lcmp gx tg2 tf1 = 1 := by
  rw [lcmp_right (by kernel_rfl) (by kernel_rfl), pcmp_gr]
  refine .head (by decide) (by decide) (fun y hy => ?_) (.inl gx_gf)
  have : y = tx1 := by simpa [tf1, T.args] using hy
  subst this
  exact .arg (by decide) (by simp [tg2, T.args])
theorem al2 : lcmp gx tf1 tg1 = -1 := by
  rw [lcmp_right (by kernel_rfl) (by kernel_rfl), pcmp_ls]
  refine .head (by decide) (by decide) (fun y hy => ?_) (.inl gx_gf)
  have : y = tx1 := by simpa [tf1, T.args] using hy
  subst this
  exact .arg (by decide) (by simp [tg1, T.args])
theorem al3 : lcmp gx tf1 tx0 = 2 := by
  rw [lcmp_right (by kernel_rfl) (by kernel_rfl)]
  refine pcmp_none (fun e => ?_) (fun k => ?_) (fun k => ?_)
  · have : tf1.fn.size = tx0.fn.size := by rw [e]
    exact absurd this (by decide)
  · rcases (lg_iff.1 k).2 with ⟨x, hx, h⟩ | ⟨h, _⟩
    · have : x = tx1 := by simpa [tf1, T.args] using hx
      subst this
      rcases h with h | h
      · have : tx1.v = tx0.v := by rw [h]
        exact absurd this (by decide)
      · exact (lg_iff.1 h).1 rfl
    · exact h rfl
  · exact (lg_iff.1 k).1 rfl

theorem nilArgs (W : World) : ArgsAt W (.slice none 0 0) [] := (ArgsP.nil (fun _ => True) W).args
theorem argsAt_box {X : World} {b : Nat} {t : T} {sx : Value} (hb : X.heap[b]? = some (.cells #[.int .i64 t.v, .string t.fn, sx] 28 (0, 0))) (h : ArgsAt X sx t.args) : ArgsAt X (.slice (some ⟨b, 0, none⟩) 1 1) [t] := by
  refine ArgsAt.mk (some ⟨b, 0, none⟩) 1 [t] (fun _ => sx) (Nat.le_refl _) (by decide) (fun _ => ⟨b, 0, (Array.getElem?_eq_some_iff.1 hb).1, rfl, fun i hi => ?_⟩) (fun i hi => ?_)
  · have : i = 0 := by simpa using hi
    subst this
    simp [World.cell?, hb]
  · have : i = 0 := by simpa using hi
    subst this
    exact h

/-- The blocks of alive, in a world behind. -/
structure AL (w : World) (X : World) : Prop where
  r : X.heap[w.heap.size]? = some (.cells #[.string ⟨#[97]⟩, .string ⟨#[102]⟩, .string ⟨#[103]⟩] 9 (0, 0))
  g : X.heap[w.heap.size + 1]? = some (.cells #[.slice (some ⟨w.heap.size, 0, none⟩) 3 3, .slice none 0 0] 32 (0, 0))
  o : X.heap[w.heap.size + 1 + 1]? = some (.cells #[.int .i64 1, .string ⟨#[]⟩, .slice none 0 0] 28 (0, 0))
  f : X.heap[w.heap.size + 1 + 1 + 1]? = some (.cells #[.int .i64 0, .string ⟨#[102]⟩, .slice (some ⟨w.heap.size + 1 + 1, 0, none⟩) 1 1] 28 (0, 0))
  bel : Below w.heap.size w X
  siz : w.heap.size + 4 ≤ X.heap.size
theorem AL.keep {w X X' : World} (h : AL w X) (hb : Below X.heap.size X X') : AL w X' := by
  have hs := h.siz
  exact ⟨(hb.block _ (by omega)).trans h.r, (hb.block _ (by omega)).trans h.g, (hb.block _ (by omega)).trans h.o, (hb.block _ (by omega)).trans h.f, h.bel.trans (hb.mono h.bel.size), Nat.le_trans hs hb.size⟩
abbrev alW (w : World) : World := (((w.alloc (.cells #[.string ⟨#[97]⟩, .string ⟨#[102]⟩, .string ⟨#[103]⟩] 9)).alloc (.cells #[.slice (some ⟨w.heap.size, 0, none⟩) 3 3, .slice none 0 0] 32)).alloc (.cells #[.int .i64 1, .string ⟨#[]⟩, .slice none 0 0] 28)).alloc (.cells #[.int .i64 0, .string ⟨#[102]⟩, .slice (some ⟨w.heap.size + 1 + 1, 0, none⟩) 1 1] 28)
theorem al_made (w : World) : AL w (alW w) := by
  obtain ⟨W1, e1⟩ : ∃ X, w.alloc (.cells #[.string ⟨#[97]⟩, .string ⟨#[102]⟩, .string ⟨#[103]⟩] 9) = X := ⟨_, rfl⟩
  obtain ⟨W2, e2⟩ : ∃ X, W1.alloc (.cells #[.slice (some ⟨w.heap.size, 0, none⟩) 3 3, .slice none 0 0] 32) = X := ⟨_, rfl⟩
  obtain ⟨W3, e3⟩ : ∃ X, W2.alloc (.cells #[.int .i64 1, .string ⟨#[]⟩, .slice none 0 0] 28) = X := ⟨_, rfl⟩
  obtain ⟨W4, e4⟩ : ∃ X, W3.alloc (.cells #[.int .i64 0, .string ⟨#[102]⟩, .slice (some ⟨w.heap.size + 1 + 1, 0, none⟩) 1 1] 28) = X := ⟨_, rfl⟩
  have s1 : W1.heap.size = w.heap.size + 1 := by rw [← e1]; simp
  have s2 : W2.heap.size = w.heap.size + 1 + 1 := by rw [← e2, ← s1]; simp
  have s3 : W3.heap.size = w.heap.size + 1 + 1 + 1 := by rw [← e3, ← s2]; simp
  have s4 : W4.heap.size = w.heap.size + 1 + 1 + 1 + 1 := by rw [← e4, ← s3]; simp
  have b1 : Below w.heap.size w W1 := by rw [← e1]; exact below_box _ _
  have b2 : Below W1.heap.size W1 W2 := by rw [← e2]; exact below_box _ _
  have b3 : Below W2.heap.size W2 W3 := by rw [← e3]; exact below_box _ _
  have b4 : Below W3.heap.size W3 W4 := by rw [← e4]; exact below_box _ _
  have h1 := (MapKept.heap_alloc w (.cells #[.string ⟨#[97]⟩, .string ⟨#[102]⟩, .string ⟨#[103]⟩] 9)).1
  have h2 := (MapKept.heap_alloc W1 (.cells #[.slice (some ⟨w.heap.size, 0, none⟩) 3 3, .slice none 0 0] 32)).1
  have h3 := (MapKept.heap_alloc W2 (.cells #[.int .i64 1, .string ⟨#[]⟩, .slice none 0 0] 28)).1
  have h4 := (MapKept.heap_alloc W3 (.cells #[.int .i64 0, .string ⟨#[102]⟩, .slice (some ⟨w.heap.size + 1 + 1, 0, none⟩) 1 1] 28)).1
  rw [e1] at h1
  rw [e2, s1] at h2
  rw [e3, s2] at h3
  rw [e4, s3] at h4
  have : alW w = W4 := by rw [← e4, ← e3, ← e2, ← e1]
  rw [this]
  exact ⟨(b4.block _ (by omega)).trans ((b3.block _ (by omega)).trans ((b2.block _ (by omega)).trans h1)), (b4.block _ (by omega)).trans ((b3.block _ (by omega)).trans h2), (b4.block _ (by omega)).trans h3, h4, ((b1.trans (b2.mono (by omega))).trans (b3.mono (by omega))).trans (b4.mono (by omega)), by omega⟩
theorem AL.sg {w X : World} (h : AL w X) : SgAt X gx (.slice (some ⟨w.heap.size, 0, none⟩) 3 3) (.slice none 0 0) := by
  refine ⟨⟨some ⟨w.heap.size, 0, none⟩, 3, rfl, by decide, by decide, fun _ => ⟨w.heap.size, 0, by have := h.siz; omega, rfl, fun i hi => ?_⟩⟩, ⟨none, 0, rfl, Nat.le_refl _, by decide, fun h => absurd h (by decide)⟩, fun x hx => ?_⟩
  · have hr := h.r
    have : i = 0 ∨ i = 1 ∨ i = 2 := by simp [gx] at hi; omega
    rcases this with rfl | rfl | rfl <;> simp [World.cell?, hr, gx]
  · simp only [gx, List.mem_cons, List.not_mem_nil, or_false] at hx
    rcases hx with rfl | rfl | rfl <;> decide
theorem AL.af {w X : World} (h : AL w X) : ArgsAt X (.slice (some ⟨w.heap.size + 1 + 1, 0, none⟩) 1 1) [tx1] := argsAt_box (t := tx1) h.o (nilArgs X)

set_option maxRecDepth 100000 in
set_option maxHeartbeats 4000000 in
theorem alive_any (w : World) : Calls Try.prog 9 #[] w fun e w' => e = .returned (.bool true) ∧ Below w.heap.size w w' := by
  have hT := al_made w
  have hC : ∀ X, AL w X → (X.cell? ⟨w.heap.size + 1, 0, none⟩ = some (.slice (some ⟨w.heap.size, 0, none⟩) 3 3) ∧ X.cell? ⟨w.heap.size + 1, 1, none⟩ = some (.slice none 0 0)) ∧ X.cell? ⟨w.heap.size + 1 + 1 + 1, 0, none⟩ = some (.int .i64 0) ∧ X.cell? ⟨w.heap.size + 1 + 1 + 1, 1, none⟩ = some (.string ⟨#[102]⟩) ∧ X.cell? ⟨w.heap.size + 1 + 1 + 1, 2, none⟩ = some (.slice (some ⟨w.heap.size + 1 + 1, 0, none⟩) 1 1) := fun X h => by
    have hg := h.g
    have hf := h.f
    refine ⟨⟨?_, ?_⟩, ?_, ?_, ?_⟩ <;> simp [World.cell?, hg, hf]
  have c1 : ∀ X n, AL w X → X.heap.size = n → Calls Try.prog 10 #[.agg #[.slice (some ⟨w.heap.size, 0, none⟩) 3 3, .slice none 0 0], .agg #[.int .i64 0, .string ⟨#[103]⟩, .slice (some ⟨n, 0, none⟩) 2 2], .agg #[.int .i64 0, .string ⟨#[102]⟩, .slice (some ⟨w.heap.size + 1 + 1, 0, none⟩) 1 1]] (X.alloc (.cells #[.int .i64 0, .string ⟨#[]⟩, .slice none 0 0, .int .i64 1, .string ⟨#[]⟩, .slice none 0 0] 28)) fun e X' => e = .returned (.int .i64 1) ∧ AL w X' := fun X n hX hn => by
    subst hn
    have hb := below_box X (.cells #[.int .i64 0, .string ⟨#[]⟩, .slice none 0 0, .int .i64 1, .string ⟨#[]⟩, .slice none 0 0] 28)
    have hX' := hX.keep hb
    exact (lcompare_any gx tg2 tf1 _ _ _ _ _ hX'.sg (args_two X tx0 tx1 _ _ (nilArgs X) (nilArgs X)) hX'.af (by decide) (by decide)).mono fun e X' ⟨h1, h2⟩ => ⟨by rw [h1, al1], hX'.keep h2⟩
  have c2 : ∀ X n, AL w X → X.heap.size = n → Calls Try.prog 10 #[.agg #[.slice (some ⟨w.heap.size, 0, none⟩) 3 3, .slice none 0 0], .agg #[.int .i64 0, .string ⟨#[102]⟩, .slice (some ⟨w.heap.size + 1 + 1, 0, none⟩) 1 1], .agg #[.int .i64 0, .string ⟨#[103]⟩, .slice (some ⟨n, 0, none⟩) 1 1]] (X.alloc (.cells #[.int .i64 1, .string ⟨#[]⟩, .slice none 0 0] 28)) fun e X' => e = .returned (.int .i64 (-1)) ∧ AL w X' := fun X n hX hn => by
    subst hn
    have hb := below_box X (.cells #[.int .i64 1, .string ⟨#[]⟩, .slice none 0 0] 28)
    have hX' := hX.keep hb
    exact (lcompare_any gx tf1 tg1 _ _ _ _ _ hX'.sg hX'.af (argsAt_box (t := tx1) (MapKept.heap_alloc X _).1 (nilArgs _)) (by decide) (by decide)).mono fun e X' ⟨h1, h2⟩ => ⟨by rw [h1, al2], hX'.keep h2⟩
  have c3 : ∀ X, AL w X → Calls Try.prog 10 #[.agg #[.slice (some ⟨w.heap.size, 0, none⟩) 3 3, .slice none 0 0], .agg #[.int .i64 0, .string ⟨#[102]⟩, .slice (some ⟨w.heap.size + 1 + 1, 0, none⟩) 1 1], .agg #[.int .i64 0, .string ⟨#[]⟩, .slice none 0 0]] X fun e X' => e = .returned (.int .i64 2) ∧ AL w X' := fun X hX =>
    (lcompare_any gx tf1 tx0 _ _ _ _ _ hX.sg hX.af (nilArgs X) (by decide) (by decide)).mono fun e X' ⟨h1, h2⟩ => ⟨by rw [h1, al3], hX.keep h2⟩
  have hB : ∀ X, AL w X → Below w.heap.size w X := fun X h => h.bel
  obtain ⟨S, hS⟩ : ∃ S, AL w = S := ⟨_, rfl⟩
  rw [hS] at hT hC hB c1 c2 c3
  clear hS
  obtain ⟨⟨i0, i1⟩, i2, i3, i4⟩ := hC _ hT
  go_enter Try.func9, Try.ntmps9
  go_wp2_with fail
  refine (c1 _ _ hT (by simp)).mono ?_
  rintro e W2 ⟨rfl, hT2⟩
  obtain ⟨⟨j0, j1⟩, j2, j3, j4⟩ := hC _ hT2
  go_wp2_with fail
  refine (c2 _ _ hT2 rfl).mono ?_
  rintro e W3 ⟨rfl, hT3⟩
  obtain ⟨⟨k0, k1⟩, k2, k3, k4⟩ := hC _ hT3
  go_wp2_with fail
  refine (c3 _ hT3).mono ?_
  rintro e W4 ⟨rfl, hT4⟩
  go_wp2
  go_ret
  exact ⟨rfl, hB _ hT4⟩

end Go.Proofs.Ytpahgmidofacaaa
