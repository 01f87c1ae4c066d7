/-
  LitsTwice: both walks together.
-/
import Derived.Test.YtgnjgpplelakkaaMJ
namespace Go.Proofs.Ytgnjgpplelakkaa
open Go.RowKit Go.Maps

set_option maxRecDepth 100000 in
set_option maxHeartbeats 1000000 in
theorem twice_bad (l : List Lt) (by_ : Int) (v : Value) (w : World) (hc : ClauseAt w v l) (hk : crightW l ≠ 0) :
    Calls Try.prog 6 #[v, .int .i64 by_] w fun e w' => e = .returned (.bool true) ∧ Below w.heap.size w w' := by
  have h9 := rcright_any l v w hc
  have hkb : (crightW l != 0) = true := by rw [bne_iff_ne]; exact hk
  obtain ⟨a, c, rfl⟩ := hc.slice
  clear hc hk
  generalize crightW l = k at *
  go_enter Try.func6, Try.ntmps6
  go_wp2_with fail
  refine h9.mono ?_
  rintro e W1 ⟨rfl, hb1⟩
  go_wp2_with fail
  refine (alive_any W1).mono ?_
  rintro e W2 ⟨rfl, hb2⟩
  go_wp2
  go_ret
  exact ⟨rfl, hb1.trans (hb2.mono hb1.size)⟩

theorem ltwice_any (l : List Lt) (by_ : Int) (v : Value) (w : World) (hc : ClauseAt w v l) (hsz : csize l ≤ 1048576) :
    Calls Try.prog 6 #[v, .int .i64 by_] w fun e w' => e = .returned (.bool true) ∧ Below w.heap.size w w' := by
  by_cases hk : crightW l = 0
  · have h9 := rcright_any l v w hc
    rw [hk] at h9
    have he := cright_sides hk
    have hsh : Shaped l := fun x hx => ⟨right_shape (he x hx).1, right_shape (he x hx).2⟩
    have hshort : ∀ x ∈ l, Short x.l ∧ Short x.r := fun x hx => by
      obtain ⟨h1, h2⟩ := size_in hx
      exact ⟨(short_of x.l (by omega)).1, (short_of x.r (by omega)).1⟩
    have hss : ∀ t ∈ sidesOf l, Short t := fun t ht => by
      obtain ⟨x, hx, rfl | rfl⟩ := side_mem ht
      · exact (hshort x hx).1
      · exact (hshort x hx).2
    have hs4 : csize l ≤ 4000 := by
      unfold crightW at hk
      have hfe : fe (sidesOf l) = 0 := fe_zero.2 fun t ht => by
        obtain ⟨x, hx, rfl | rfl⟩ := side_mem ht
        · exact (he x hx).1
        · exact (he x hx).2
      by_cases h60 : 60 < l.length
      · rw [if_pos h60] at hk; cases hk
      · rw [if_neg h60, hfe, if_neg (by simp)] at hk
        by_cases h4 : 4000 < wrap64 (csize l)
        · rw [if_pos h4] at hk; cases hk
        · have hn := csize_nonneg l
          have : wrap64 (csize l) = csize l := by simp only [wrap64]; omega
          omega
    have hshift : ∀ W, ClauseAt W v l → _ := fun W hW => lshift_any l by_ v W hW hsz hss hk (fun i hi => by
      have hx := List.getElem_mem hi
      exact ⟨⟨(hsh _ hx).1, (he _ hx).1, (hshort _ hx).1⟩, (hsh _ hx).2, (he _ hx).2, (hshort _ hx).2⟩)
    have hN2 : ∀ W u, ClauseAt W u (cnorm l) → Calls Try.prog 26 #[u] W fun e W' => ∃ a c, e = .returned (.slice a (cnorm l).length c) ∧ ClauseAt W' (.slice a (cnorm l).length c) (cnorm l) ∧ Below W.heap.size W W' := fun W u hu => by
      have := normal_sl (cnorm l) u W hu (by unfold cnorm; rw [csize_norm]; exact hsz)
      rw [cnorm_twice l hsh (by omega)] at this
      exact this
    have hC2 : ∀ W u, ClauseAt W u (cclean l) → Calls Try.prog 28 #[u] W fun e W' => ∃ a c, e = .returned (.slice a (cclean l).length c) ∧ ClauseAt W' (.slice a (cclean l).length c) (cclean l) ∧ Below W.heap.size W W' := fun W u hu => by
      have := clean_sl (cclean l) u W hu (by have := csize_clean l; omega)
      rw [cclean_twice] at this
      exact this
    have hle : ((cclean l).length : Int) ≤ (l.length : Int) := by have := cclean_len l; omega
    obtain ⟨a, c, rfl⟩ := hc.slice
    by_cases hF : ∀ x ∈ l, fineT by_ x.l = true ∧ fineT by_ x.r = true
    · have hN3 : ∀ W u, ClauseAt W u (l.map (shL by_)) → Calls Try.prog 26 #[u] W fun e W' => ∃ a c, e = .returned (.slice a (cnorm l).length c) ∧ ClauseAt W' (.slice a (cnorm l).length c) (cnorm l) ∧ Below W.heap.size W W' := fun W u hu => by
        have := normal_sl (l.map (shL by_)) u W hu (by rw [csize_shift by_ l hsh]; exact hsz)
        rw [cnorm_shift l by_ hsh hF] at this
        exact this
      exact twice_ok (l.map (shL by_)) l (cnorm l) (cclean l) a c by_ w hc hle h9 hN2 hC2 (fun W h => normal_sl l _ W h hsz) (fun W h => clean_sl l _ W h hsz) (fun W u u' h h' => equal_yes (cnorm l) u u' W h h') (fun W u u' h h' => equal_yes (cclean l) u u' W h h')
        (fun W hW => (hshift W hW).mono fun e W' ⟨h, hb⟩ => by
          rcases h with ⟨a', c', h1, h2, _⟩ | ⟨E, _, _, h3⟩
          · exact ⟨a', c', h1, h2, hb⟩
          · exact absurd hF h3) hN3
    · exact twice_no_any0 l (cnorm l) (cclean l) a c by_ w hc hle h9 hN2 hC2 (fun W h => normal_sl l _ W h hsz) (fun W h => clean_sl l _ W h hsz) (fun W u u' h h' => equal_yes (cnorm l) u u' W h h') (fun W u u' h h' => equal_yes (cclean l) u u' W h h')
        (fun W hW => (hshift W hW).mono fun e W' ⟨h, hb⟩ => by
          rcases h with ⟨a', c', _, _, h3⟩ | ⟨E, hE, h1, _⟩
          · exact absurd h3 hF
          · exact ⟨E, by rw [bne_iff_ne]; exact hE, h1, hb⟩)
  · exact twice_bad l by_ v w hc hk

end Go.Proofs.Ytgnjgpplelakkaa
