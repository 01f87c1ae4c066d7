/-
  lits.Shift.
-/
import Derived.Test.YtgnjgpplelakkaaMF
import Derived.Test.YtgnjgpplelakkaaUJ
import Derived.Test.YtgnjgpplelakkaaLT
import Derived.Test.YtgnjgpplelakkaaLD
import Derived.Test.YtgnjgpplelakkaaMB
namespace Go.Proofs.Ytgnjgpplelakkaa
open Go.RowKit Go.Maps Go.Shelf

theorem eg66 : ∀ args w, (callFunc 66 args).run Try.prog w = .ok (.enter 66 args) w := enters_of Try.func66 (by kernel_rfl) rfl

/-- May each of its numbers be shifted? -/
def fineT (by_ : Int) (t : T) : Bool := t.vs.all (fine by_)
def erS (by_ : Int) (t : T) : Int := if fineT by_ t then 0 else 1

set_option maxRecDepth 100000 in
set_option maxHeartbeats 2000000 in
theorem shift1_any (by_ : Int) (Bb : Nat) (t : T) (hsh : t.shape = true) (ht : Short t) (ht0 : t.rightW = 0) (sl : Value) (X : World) (hB : X.cell? ⟨Bb, 0, none⟩ = some (.int .i64 by_)) (ha : ArgsAt X sl t.args) :
    Calls Try.prog 66 #[tval t sl, .pointer (some ⟨Bb, 0, none⟩)] X fun e X' => (∃ q a' n' c', e = .returned (.tuple #[tval q (.slice a' n' c'), .int .i64 (erS by_ t)]) ∧ (erS by_ t = 0 → q = t.app (shf by_) ∧ n' = (t.app (shf by_)).args.length ∧ ArgsP (fun x => X.heap.size ≤ x) X' (.slice a' n' c') (t.app (shf by_)).args)) ∧ Below X.heap.size X X' := by
  obtain ⟨a, c, rfl, _, _⟩ := ha.slice
  obtain ⟨hb2, c0, c1, c2, hz, hS⟩ := two_boxes X t (.slice a t.args.length c)
  have hBl := World.block_lt_of_cell? X _ hB
  have k0 := kc hb2 hBl hB
  have hc := shift_any t by_ hsh ht ht0 (vs_range t hsh) (.slice a t.args.length c) _ (ArgsAt.keep hb2 (Nat.le_refl _) ha)
  have HB : Hid (Below X.heap.size X ((X.alloc (tbox t (.slice a t.args.length c))).alloc (.cells #[.int .i64 0, .string ⟨#[]⟩, .slice none 0 0] 26))) := hb2
  have HZ : Hid (((X.alloc (tbox t (.slice a t.args.length c))).alloc (.cells #[.int .i64 0, .string ⟨#[]⟩, .slice none 0 0] 26)).heap[X.heap.size + 1]? = some (.cells #[.int .i64 0, .string ⟨#[]⟩, .slice none 0 0] 26 (0, 0)) ∧ ((X.alloc (tbox t (.slice a t.args.length c))).alloc (.cells #[.int .i64 0, .string ⟨#[]⟩, .slice none 0 0] 26)).heap.size = X.heap.size + 1 + 1) := ⟨hz, hS⟩
  have hc2 : Calls Try.prog 67 #[tval t (.slice a t.args.length c), .int .i64 by_] ((X.alloc (tbox t (.slice a t.args.length c))).alloc (.cells #[.int .i64 0, .string ⟨#[]⟩, .slice none 0 0] 26)) fun e W' => ∃ q a' n' c', e = .returned (.tuple #[tval q (.slice a' n' c'), .int .i64 (erS by_ t)]) ∧ Hid ((erS by_ t = 0 → q = t.app (shf by_) ∧ n' = (t.app (shf by_)).args.length ∧ ArgsP (fun x => X.heap.size + 2 ≤ x) W' (.slice a' n' c') (t.app (shf by_)).args) ∧ Below X.heap.size X W' ∧ X.heap.size + 2 ≤ W'.heap.size ∧ W'.heap[X.heap.size + 1]? = some (.cells #[.int .i64 0, .string ⟨#[]⟩, .slice none 0 0] 26 (0, 0))) := hc.mono fun e W' ⟨h, hb⟩ => by
    have hW : Below X.heap.size X W' ∧ X.heap.size + 2 ≤ W'.heap.size ∧ W'.heap[X.heap.size + 1]? = some (.cells #[.int .i64 0, .string ⟨#[]⟩, .slice none 0 0] 26 (0, 0)) := ⟨HB.out.trans (hb.mono (by rw [HZ.out.2]; omega)), by have := hb.size; rw [HZ.out.2] at this; omega, (hb.block _ (by rw [HZ.out.2]; omega)).trans HZ.out.1⟩
    rcases h with ⟨hf, s5, he, hA⟩ | ⟨⟨n, hn, hf⟩, he⟩
    · have e0 : erS by_ t = 0 := by unfold erS fineT; rw [if_pos (List.all_eq_true.2 hf)]
      obtain ⟨a', c', rfl⟩ := hA.slice
      refine ⟨_, a', _, c', by rw [e0]; exact he, fun _ => ⟨rfl, rfl, ?_⟩, hW⟩
      exact (frP hA).keep (Nat.le_refl _) (fun k hk _ => ⟨by rw [HZ.out.2] at hk; omega, rfl⟩)
    · have e1 : erS by_ t = 1 := by
        unfold erS fineT
        rw [if_neg]
        intro h
        have := List.all_eq_true.1 h n hn
        rw [hf] at this
        cases this
      exact ⟨zt, none, 0, 0, (by rw [e1]; exact he), (fun h => (by rw [e1] at h; cases h)), hW⟩
  generalize erS by_ t = E at *
  generalize t.app (shf by_) = u at *
  clear hb2 hz hS ha hc hsh ht ht0
  go_enter Try.func66, Try.ntmps66
  go_wp2_with (go_at_call 67; refine hc2.mono ?_; rintro e W3 ⟨q, a', n', c', rfl, HH⟩; obtain ⟨⟨z0, z1, z2⟩, y0, y1, y2⟩ := box_facts HH.out.2.2.2)
  refine bodyPost_ret (v := .tuple #[tval q (.slice a' n' c'), .int .i64 E]) (by simp [results, Try.results66, go_sem, *]) rfl ⟨⟨_, _, _, _, rfl, fun h => ?_⟩, ?_⟩
  · obtain ⟨h1, h2, h3⟩ := HH.out.1 h
    exact ⟨h1, h2, h3.keep (Nat.le_of_eq (set3_size _ _ _ _ _ _).symm) (fun k hk _ => ⟨by omega, set3_other _ _ _ _ _ _ k (by omega)⟩)⟩
  · exact set3_below HH.out.2.1 _ 0 _ _ _ (Nat.le_succ _)

/-- The literal with its variables shifted. -/
def shL (by_ : Int) (x : Lt) : Lt := ⟨x.neg, x.l.app (shf by_), x.r.app (shf by_)⟩

def erK (by_ : Int) (l : List Lt) (k : Nat) : Int := match l[k / 2]? with
  | some x => if k % 2 = 0 then erS by_ x.l else erS by_ x.r
  | none => 0
theorem erK_even (by_ : Int) (l : List Lt) (i : Nat) (h : i < l.length) : erK by_ l (2 * i) = erS by_ l[i].l := by
  unfold erK
  rw [show 2 * i / 2 = i by omega, List.getElem?_eq_getElem h]
  simp
theorem erK_odd (by_ : Int) (l : List Lt) (i : Nat) (h : i < l.length) : erK by_ l (2 * i + 1) = erS by_ l[i].r := by
  unfold erK
  rw [show (2 * i + 1) / 2 = i by omega, List.getElem?_eq_getElem h]
  simp only
  rw [if_neg (by omega)]
def shAt (by_ : Int) (l : List Lt) (i : Nat) : Lt := match l[i]? with
  | some x => shL by_ x
  | none => ⟨false, zt, zt⟩
theorem shAt_lt (by_ : Int) (l : List Lt) (i : Nat) (h : i < l.length) : shAt by_ l i = shL by_ l[i] := by
  unfold shAt
  rw [List.getElem?_eq_getElem h]
theorem shAt_map (by_ : Int) (l : List Lt) : (List.range l.length).map (shAt by_ l) = l.map (shL by_) := by
  refine List.ext_getElem (by simp) fun i h1 h2 => ?_
  simp only [List.getElem_map, List.getElem_range]
  exact shAt_lt by_ l i (by simpa using h2)

set_option maxRecDepth 100000 in
set_option maxHeartbeats 2000000 in
theorem lshift_any (l : List Lt) (by_ : Int) (v : Value) (w : World) (hc : ClauseAt w v l) (hsz : csize l ≤ 1048576) (hshort : ∀ t ∈ sidesOf l, Short t) (hr : crightW l = 0) (hside : ∀ i (h : i < l.length), (l[i].l.shape = true ∧ l[i].l.rightW = 0 ∧ Short l[i].l) ∧ (l[i].r.shape = true ∧ l[i].r.rightW = 0 ∧ Short l[i].r)) :
    Calls Try.prog 32 #[v, .int .i64 by_] w fun e W' => ((∃ a' c', e = .returned (.tuple #[.slice a' l.length c', .int .i64 0]) ∧ ClauseAt W' (.slice a' l.length c') (l.map (shL by_)) ∧ ∀ x ∈ l, fineT by_ x.l = true ∧ fineT by_ x.r = true) ∨ (∃ E, E ≠ 0 ∧ e = .returned (.tuple #[.slice none 0 0, .int .i64 E]) ∧ ¬ ∀ x ∈ l, fineT by_ x.l = true ∧ fineT by_ x.r = true)) ∧ Below w.heap.size w W' := by
  have hlen : l.length ≤ 1048576 := by have := csize_len l; omega
  have hb1 := below_box w (.cells #[.int .i64 by_] 3)
  have hq1 := (Boxed.new w 3 (.int .i64 by_)).cell
  have hrt := lright_any l v _ (hc.keep hb1) hshort
  rw [hr] at hrt
  have hreb : ∀ W1, Below (w.alloc (.cells #[.int .i64 by_] 3)).heap.size (w.alloc (.cells #[.int .i64 by_] 3)) W1 → Calls Try.prog 57 #[v, .func (.func 66) #[] #[.pointer (some ⟨w.heap.size, 0, none⟩)]] W1 fun e W' => ((∃ a' c', e = .returned (.tuple #[.slice a' l.length c', .int .i64 0]) ∧ ClauseAt W' (.slice a' l.length c') (l.map (shL by_)) ∧ ∀ x ∈ l, fineT by_ x.l = true ∧ fineT by_ x.r = true) ∨ (∃ E, E ≠ 0 ∧ e = .returned (.tuple #[.slice none 0 0, .int .i64 E]) ∧ ¬ ∀ x ∈ l, fineT by_ x.l = true ∧ fineT by_ x.r = true)) ∧ Below w.heap.size w W' := by
    intro W1 hW1
    have hw1 : Below w.heap.size w W1 := hb1.trans (hW1.mono hb1.size)
    have hJ1 := kc hW1 (by simp) hq1
    refine (rebuilt_any 66 #[.pointer (some ⟨w.heap.size, 0, none⟩)] eg66 [] (fun _ X => X.cell? ⟨w.heap.size, 0, none⟩ = some (.int .i64 by_)) w l (shAt by_ l) (erK by_ l) v W1 hw1 hc hlen (by simp) hJ1 ?_ ?_ ?_ ?_).mono ?_
    · intro k X X' hJ h1 h2 h3
      have hlt : w.heap.size < W1.heap.size := by have := hW1.size; simp at this; omega
      rw [← hJ]
      simp [World.cell?, h3 w.heap.size hlt]
    · intro i hi s X hJ hX hM ha
      obtain ⟨⟨g1, g2, g3⟩, _⟩ := hside i hi
      refine (shift1_any by_ w.heap.size l[i].l g1 g3 g2 s X hJ (ArgsAt.keep hX (Nat.le_refl _) ha)).mono ?_
      rintro e X' ⟨⟨q, a', n', c', rfl, hq⟩, hb⟩
      rw [erK_even by_ l i hi, shAt_lt by_ l i hi]
      exact ⟨q, a', n', c', rfl, fun h0 => by obtain ⟨h1, h2, h3⟩ := hq h0; exact ⟨h1, h2, h3, kc hb (World.block_lt_of_cell? X _ hJ) hJ⟩, Only.of_below hb⟩
    · intro i hi s X hJ hX hM ha
      obtain ⟨_, g1, g2, g3⟩ := hside i hi
      refine (shift1_any by_ w.heap.size l[i].r g1 g3 g2 s X hJ (ArgsAt.keep hX (Nat.le_refl _) ha)).mono ?_
      rintro e X' ⟨⟨q, a', n', c', rfl, hq⟩, hb⟩
      rw [erK_odd by_ l i hi, shAt_lt by_ l i hi]
      exact ⟨q, a', n', c', rfl, fun h0 => by obtain ⟨h1, h2, h3⟩ := hq h0; exact ⟨h1, h2, h3, kc hb (World.block_lt_of_cell? X _ hJ) hJ⟩, Only.of_below hb⟩
    · intro i hi
      rw [shAt_lt by_ l i hi]
      rfl
    · rintro e W' ⟨h, hO⟩
      have hbW : Below w.heap.size w W' := hw1.trans (hO.below hw1.size (by simp))
      rcases h with ⟨v', rfl, hcl, _, her⟩ | ⟨k, hk, hne, _, rfl⟩
      · rw [shAt_map] at hcl
        obtain ⟨a', c', hv⟩ := hcl.slice
        rw [List.length_map] at hv
        subst hv
        refine ⟨.inl ⟨a', c', rfl, hcl, fun x hx => ?_⟩, hbW⟩
        obtain ⟨i, hi, rfl⟩ := List.getElem_of_mem hx
        have e1 := her (2 * i) (by omega)
        have e2 := her (2 * i + 1) (by omega)
        rw [erK_even by_ l i hi] at e1
        rw [erK_odd by_ l i hi] at e2
        unfold erS at e1 e2
        refine ⟨?_, ?_⟩
        · by_cases h : fineT by_ l[i].l = true
          · exact h
          · rw [if_neg h] at e1; cases e1
        · by_cases h : fineT by_ l[i].r = true
          · exact h
          · rw [if_neg h] at e2; cases e2
      · refine ⟨.inr ⟨_, hne, rfl, fun hall => hne ?_⟩, hbW⟩
        have hk2 : k / 2 < l.length := by omega
        obtain ⟨f1, f2⟩ := hall _ (List.getElem_mem hk2)
        unfold erK
        rw [List.getElem?_eq_getElem hk2]
        simp only
        split
        · unfold erS; rw [if_pos f1]
        · unfold erS; rw [if_pos f2]
  obtain ⟨a, c, rfl⟩ := hc.slice
  have HRB := hreb
  have HR : Hid (∀ W1, Below (w.alloc (.cells #[.int .i64 by_] 3)).heap.size (w.alloc (.cells #[.int .i64 by_] 3)) W1 → Calls Try.prog 57 #[.slice a l.length c, .func (.func 66) #[] #[.pointer (some ⟨w.heap.size, 0, none⟩)]] W1 fun e W' => ((∃ a' c', e = .returned (.tuple #[.slice a' l.length c', .int .i64 0]) ∧ ClauseAt W' (.slice a' l.length c') (l.map (shL by_)) ∧ ∀ x ∈ l, fineT by_ x.l = true ∧ fineT by_ x.r = true) ∨ (∃ E, E ≠ 0 ∧ e = .returned (.tuple #[.slice none 0 0, .int .i64 E]) ∧ ¬ ∀ x ∈ l, fineT by_ x.l = true ∧ fineT by_ x.r = true)) ∧ Below w.heap.size w W') := hreb
  clear hreb HRB hside hshort hc hr hsz
  go_enter Try.func32, Try.ntmps32
  go_wp2_with (first
    | (go_at_call 57; refine (HR.out W1 H1).mono ?_; rintro e W2 ⟨h, hb⟩; rcases h with ⟨a', c', rfl, hcl, hf⟩ | ⟨E, hE, rfl, hnf⟩)
    | (go_at_call 8; refine hrt.mono ?_; rintro e W1 ⟨rfl, H1⟩))
  · go_ret2
    exact ⟨.inl ⟨_, _, rfl, hcl, hf⟩, hb⟩
  · go_ret2
    exact ⟨.inr ⟨E, hE, rfl, hnf⟩, hb⟩

end Go.Proofs.Ytgnjgpplelakkaa
