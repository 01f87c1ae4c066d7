/-
  subst.Compose, where it says no.
-/
import Derived.Test.YthinbkpjggihdaaTJ
namespace Go.Proofs.Ythinbkpjggihdaa
open Go.RowKit

set_option maxRecDepth 100000 in
set_option maxHeartbeats 2000000 in
theorem compose_arg (s r : List Bd) (hS : ∀ x ∈ s, Short x.2) (hR : ∀ x ∈ r, Short x.2) (hno : isSub s = false ∨ isSub r = false) (v u : Value) (w : World) (hv : BindsAt w v s) (hu : BindsAt w u r) :
    Calls Try.prog 16 #[v, u] w fun e W' => e = .returned (.tuple #[.slice none 0 0, .int .i64 1]) ∧ Below w.heap.size w W' := by
  have h13s := sright_any s v w hv hS
  have h13r : ∀ X, Below w.heap.size w X → Calls Try.prog 13 #[u] X fun e X' => e = .returned (.int .i64 (subW r)) ∧ Below X.heap.size X X' := fun X hX => sright_any r u X (hu.keep hX) hR
  obtain ⟨a, c, rfl⟩ := hv.slice
  obtain ⟨a', c', rfl⟩ := hu.slice
  clear hv hu hS hR
  cases e1 : isSub s
  · rw [subW_f e1] at h13s
    clear e1 hno h13r
    go_enter Try.func16, Try.ntmps16
    go_wp2_with (go_at_call 13; refine h13s.mono ?_; rintro e W2 ⟨rfl, hb2⟩)
    go_ret2
    exact ⟨rfl, hb2⟩
  · have e2 : isSub r = false := by
      rcases hno with h | h
      · rw [e1] at h; cases h
      · exact h
    rw [subW_t e1] at h13s
    rw [subW_f e2] at h13r
    clear e1 e2 hno
    go_enter Try.func16, Try.ntmps16
    go_wp2_with (first
      | (go_at_call 13; refine (h13r _ hb2).mono ?_; rintro e W3 ⟨rfl, hb3⟩)
      | (go_at_call 13; refine h13s.mono ?_; rintro e W2 ⟨rfl, hb2⟩))
    go_ret2
    exact ⟨rfl, hb2.trans (hb3.mono hb2.size)⟩

set_option maxRecDepth 100000 in
set_option maxHeartbeats 8000000 in
theorem compose_big (s r : List Bd) (hs : Sb s) (hr : Sb r) (k : Nat) (hk : k < s.length) (f : Int) (hf : f ≠ 0) (hfit : ∀ j (hj : j < s.length), j < k → fitsW (s[j].2.app (img r)) = 0) (hbad : fitsW (s[k].2.app (img r)) = f) (v u : Value) (w : World) (hv : BindsAt w v s) (hu : BindsAt w u r) :
    Calls Try.prog 16 #[v, u] w fun e W' => e = .returned (.tuple #[.slice none 0 0, .int .i64 f]) ∧ Below w.heap.size w W' := by
  have h13s : ∀ X, CoI w s r v u X → Calls Try.prog 13 #[v] X fun e X' => e = .returned (.int .i64 0) ∧ CoI w s r v u X' := fun X hX => (sright_any s v X hX.bs (fun x hx => (hs.rt x hx).short)).mono fun e X' ⟨he, hb⟩ => ⟨by rw [he, subW_t (isSub_iff.2 hs.sub)], hX.keep hb⟩
  have h13r : ∀ X, CoI w s r v u X → Calls Try.prog 13 #[u] X fun e X' => e = .returned (.int .i64 0) ∧ CoI w s r v u X' := fun X hX => (sright_any r u X hX.br (fun x hx => (hr.rt x hx).short)).mono fun e X' ⟨he, hb⟩ => ⟨by rw [he, subW_t (isSub_iff.2 hr.sub)], hX.keep hb⟩
  have h30 : ∀ X, CoI w s r v u X → Calls Try.prog 30 #[u] X fun e X' => ∃ B1 B2 g, e = .returned (.func (.func 57) #[] #[.pointer (some ⟨B1, 0, none⟩), .pointer (some ⟨B2, 0, none⟩)]) ∧ ExtAt X' r u B1 B2 g ∧ CoI w s r v u X' := fun X hX => (extents_any r u X hX.br hr.rt hr.sub.1).mono fun e X' ⟨⟨B1, B2, g, he, hE⟩, hb⟩ => ⟨B1, B2, g, he, hE, hX.keep hb⟩
  have h29 : ∀ X B1 B2 g x sl, x ∈ s → ExtAt X r u B1 B2 g → CoI w s r v u X → ArgsAt X sl x.2.args → Calls Try.prog 29 #[tval x.2 sl, .func (.func 57) #[] #[.pointer (some ⟨B1, 0, none⟩), .pointer (some ⟨B2, 0, none⟩)]] X fun e X' => e = .returned (.int .i64 (fitsW (x.2.app (img r)))) ∧ ExtAt X' r u B1 B2 g ∧ CoI w s r v u X' := fun X B1 B2 g x sl hx hE hX ha => (fits_any X 57 _ (img r) eg57 (extents_of r hr.sub u B1 B2 g X hE) (img_size r hr.rt) x.2 sl X (Below.refl _ _) ha (hs.rt x hx).size).mono fun e X' ⟨he, hb⟩ => ⟨he, hE.keep hb, hX.keep hb⟩
  have h0 : CoI w s r v u w := ⟨hv, hu, Below.refl _ _⟩
  obtain ⟨a, c, rfl⟩ := hv.slice
  obtain ⟨a', c', rfl⟩ := hu.slice
  have hlen := hs.sub.1
  clear hs hr hv hu
  go_enter Try.func16, Try.ntmps16
  go_wp2_with (first
    | (go_at_call 30; refine (h30 _ HW3).mono ?_; rintro e W4 ⟨B1, B2, ge, rfl, hE4, HW4⟩)
    | (go_at_call 13; refine (h13r _ HW2).mono ?_; rintro e W3 ⟨rfl, HW3⟩)
    | (go_at_call 13; refine (h13s _ h0).mono ?_; rintro e W2 ⟨rfl, HW2⟩))
  have HE4 : Hid (ExtAt W4 r (.slice a' r.length c') B1 B2 ge ∧ CoI w s r (.slice a s.length c) (.slice a' r.length c') W4) := ⟨hE4, HW4⟩
  clear hE4 HW4 HW2 HW3 h13s h13r h30 h0
  go_loopw [24] (fun vi wr => ∃ i : Nat, vi = .int .i64 i ∧ i ≤ k ∧ ExtAt wr r (.slice a' r.length c') B1 B2 ge ∧ CoI w s r (.slice a s.length c) (.slice a' r.length c') wr) (fun vi _ => s.length - (intOf vi).toNat)
  case atStart => exact ⟨0, rfl, Nat.zero_le _, HE4.out.1, HE4.out.2⟩
  case round =>
    obtain ⟨i, rfl, hi, hE, hX⟩ := hrel
    have hlt : i < s.length := by omega
    have hv : fitsW (s[i].2.app (img r)) = if i < k then 0 else f := by
      by_cases h : i < k
      · rw [if_pos h]; exact hfit i hlt h
      · have : i = k := by omega
        subst this
        rw [if_neg h]; exact hbad
    obtain ⟨b, o, sl, e', hB⟩ := hX.bs.nth hlt
    cases e'
    have hmem := List.getElem_mem hlt
    obtain ⟨x, hx⟩ : ∃ x, s[i] = x := ⟨_, rfl⟩
    rw [hx] at hB hmem hv
    obtain ⟨sa, sc, rfl, _, _⟩ := hB.sub.slice
    obtain ⟨g0, g1, g2, g3⟩ : wr.cell? ⟨b, o + i * 4, none⟩ = some (.int .i64 x.1) ∧ wr.cell? ⟨b, o + i * 4 + 1, none⟩ = some (.int .i64 x.2.v) ∧ wr.cell? ⟨b, o + i * 4 + 2, none⟩ = some (.string x.2.fn) ∧ wr.cell? ⟨b, o + i * 4 + 3, none⟩ = some (.slice sa x.2.args.length sc) := ⟨hB.c0, hB.c1, hB.c2, hB.c3⟩
    have hb1 := below_box wr (bbox x (.slice sa x.2.args.length sc))
    obtain ⟨k0, k1, k2, k3⟩ := bbox_cells wr x (.slice sa x.2.args.length sc)
    have hc := h29 _ B1 B2 ge x (.slice sa x.2.args.length sc) hmem (hE.keep hb1) (hX.keep hb1) (ArgsAt.keep hb1 (Nat.le_refl _) hB.sub)
    rw [hv] at hc
    clear hB hx hmem hb1 hE hX h29 hv
    by_cases h : i < k
    · rw [if_pos h] at hc
      clear hbad hfit
      go_wp2_with (first | (go_at_call 29; refine hc.mono ?_; rintro e W5 ⟨rfl, hE5, HW5⟩))
      go_roundw
      case rel => exact ⟨i + 1, by go_num, by omega, hE5, HW5⟩
      case measure => simp [intOf]; omega
    · rw [if_neg h] at hc
      clear hbad hfit
      go_wp2_with (first | (go_at_call 29; refine hc.mono ?_; rintro e W5 ⟨rfl, hE5, HW5⟩))
      go_ret2
      exact ⟨rfl, HW5.bel⟩

end Go.Proofs.Ythinbkpjggihdaa
