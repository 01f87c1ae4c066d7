/-
  SubstComposes' walk.
-/
import Derived.Test.YthinbkpjggihdaaTQ
import Derived.Test.YthinbkpjggihdaaTC
import Derived.Test.YthinbkpjggihdaaST
import Derived.Test.YthinbkpjggihdaaTE
namespace Go.Proofs.Ythinbkpjggihdaa
open Go.RowKit

theorem first_bad (s : List Bd) (P : Bd → Prop) (h : ¬ ∀ x ∈ s, P x) : ∃ k, ∃ hk : k < s.length, ¬ P s[k] ∧ ∀ j (hj : j < s.length), j < k → P s[j] := by
  classical
  induction s with
  | nil => exact absurd (fun x hx => by cases hx) h
  | cons a r ih =>
    by_cases ha : P a
    · obtain ⟨k, hk, h1, h2⟩ := ih fun hr => h fun x hx => by
        rcases List.mem_cons.1 hx with e | e
        · rw [e]; exact ha
        · exact hr x e
      refine ⟨k + 1, by simpa using hk, by simpa using h1, fun j hj hjk => ?_⟩
      cases j with
      | zero => exact ha
      | succ j => simpa using h2 j (by simpa using hj) (by omega)
    · exact ⟨0, by simp, ha, fun j _ hj => absurd hj (by omega)⟩

theorem fold_perm : ∀ (l a : List Bd), (l.foldl withL a).Perm (a ++ l)
  | [], a => by simp
  | x :: r, a => by
    rw [List.foldl_cons]
    refine (fold_perm r (withL a x)).trans (((withL_perm a x).append_right r).trans ?_)
    rw [List.cons_append]
    exact List.perm_middle.symm

theorem fold_rising : ∀ (l a : List Bd), Rising a → (a ++ l).Pairwise (fun a b => a.1 ≠ b.1) → Rising (l.foldl withL a)
  | [], _, h, _ => h
  | x :: r, a, h, hp => by
    rw [List.foldl_cons]
    refine fold_rising r (withL a x) (withL_rising h fun y hy => ?_) ?_
    · exact (List.pairwise_append.1 hp).2.2 y hy x List.mem_cons_self
    · refine (List.Perm.pairwise_iff (R := fun a b : Bd => a.1 ≠ b.1) (fun h => Ne.symm h) (((withL_perm a x).append_right r).trans ?_)).2 hp
      rw [List.cons_append]
      exact List.perm_middle.symm

theorem rising_eq : ∀ (a b : List Bd), a.Pairwise (fun a b => a.1 < b.1) → b.Pairwise (fun a b => a.1 < b.1) → a.Perm b → a = b
  | [], b, _, _, hp => (List.Perm.nil_eq hp)
  | x :: a, [], _, _, hp => by have := hp.length_eq; simp at this
  | x :: a, y :: b, ha, hb, hp => by
    obtain ⟨ha1, ha2⟩ := List.pairwise_cons.1 ha
    obtain ⟨hb1, hb2⟩ := List.pairwise_cons.1 hb
    have hxy : x = y := by
      rcases List.mem_cons.1 (hp.mem_iff.1 (List.mem_cons_self (a := x) (l := a))) with e | e
      · exact e
      · rcases List.mem_cons.1 (hp.mem_iff.2 (List.mem_cons_self (a := y) (l := b))) with e2 | e2
        · exact e2.symm
        · have h1 := hb1 x e
          have h2 := ha1 y e2
          omega
    subst hxy
    rw [rising_eq a b ha2 hb2 ((List.perm_cons x).1 hp)]

theorem outL_eq {s r c : List Bd} (hs : IsSub s) (hr : IsSub r) (hp : c.Perm (joined s r)) (hc : Rising c) : outL s r r.length = c := by
  have hj : joined s r = ((s.filter (lastB r)).map fun x => (x.1, x.2.app (img r))) ++ (r.filter fun x => !boundB s x.1) := by
    unfold joined
    congr 1
    conv => rhs; rw [← List.map_id (r.filter fun x => !boundB s x.1)]
    refine List.map_congr_left fun x hx => ?_
    rw [app_var _ (right_shape (hr.right x (List.mem_filter.1 hx).1))]
    rfl
  have hap := joined_apart hs hr
  rw [hj] at hap hp
  unfold outL
  rw [List.take_length]
  refine rising_eq _ _ (rising_iff.1 (fold_rising _ _ ?_ hap)) (rising_iff.1 hc) ((fold_perm _ _).trans hp.symm)
  rw [rising_iff, List.pairwise_map]
  exact (rising_iff.1 hs.rising).filter _

/-- Both Compose answer alike. -/
theorem both_compose (s r : List Bd) (hsz : ∀ x ∈ s, x.2.size ≤ 1048576) (hrz : ∀ x ∈ r, x.2.size ≤ 1048576) (hs2 : s.length ≤ 200) (hr2 : r.length ≤ 200) : ∃ (g : Int) (d : List Bd),
    (∀ v u W, BindsAt W v s → BindsAt W u r → Calls Try.prog 16 #[v, u] W fun e W' => ∃ v', e = .returned (.tuple #[v', .int .i64 g]) ∧ BindsAt W' v' d ∧ Below W.heap.size W W') ∧
    (∀ v u W, BindsAt W v s → BindsAt W u r → Calls Try.prog 17 #[v, u] W fun e W' => ∃ v', e = .returned (.tuple #[v', .int .i64 g]) ∧ BindsAt W' v' d ∧ Below W.heap.size W W') := by
  have nilB : ∀ W, BindsAt W (.slice none 0 0) [] := fun W => ⟨none, 0, rfl, Nat.le_refl _, by decide, fun h => absurd h (by simp)⟩
  by_cases hno : isSub s = false ∨ isSub r = false
  · refine ⟨1, [], fun v u W hv hu => ?_, fun v u W hv hu => ?_⟩
    · exact (compose_arg s r (fun x hx => (short_of _ (hsz x hx)).1) (fun x hx => (short_of _ (hrz x hx)).1) hno v u W hv hu).mono fun e W' ⟨he, h⟩ => ⟨_, he, nilB _, h⟩
    · exact (rcompose_arg s r hno v u W hv hu).mono fun e W' ⟨he, h⟩ => ⟨_, he, nilB _, h⟩
  · have h1 : isSub s = true := by
      cases e : isSub s
      · exact absurd (.inl e) hno
      · rfl
    have h2 : isSub r = true := by
      cases e : isSub r
      · exact absurd (.inr e) hno
      · rfl
    have hI := isSub_iff.1 h1
    have hJ := isSub_iff.1 h2
    have hS : Sb s := ⟨hI, fun x hx => rt_of (hI.right x hx) (hsz x hx)⟩
    have hR : Sb r := ⟨hJ, fun x hx => rt_of (hJ.right x hx) (hrz x hx)⟩
    by_cases hf : ∀ x ∈ s, fitsW (x.2.app (img r)) = 0
    · refine ⟨0, outL s r r.length, fun v u W hv hu => ?_, fun v u W hv hu => ?_⟩
      · have hl : (joined s r).length ≤ 4000 := by
          unfold joined
          rw [List.length_append, List.length_map, List.length_map]
          have := List.length_filter_le (lastB r) s
          have := List.length_filter_le (fun x => !boundB s x.1) r
          omega
        exact (compose_all s r hS hR hf hl v u W hv hu).mono fun e W' ⟨v', c, he, hp, hr, hB, h⟩ => ⟨v', he, by rw [outL_eq hI hJ hp hr]; exact hB, h⟩
      · exact rcompose_ok s r hS hR hf hs2 hr2 v u W hv hu
    · obtain ⟨k, hk, hb, hfit⟩ := first_bad s (fun x => fitsW (x.2.app (img r)) = 0) hf
      refine ⟨fitsW (s[k].2.app (img r)), [], fun v u W hv hu => ?_, fun v u W hv hu => ?_⟩
      · exact (compose_big s r hS hR k hk _ hb hfit rfl v u W hv hu).mono fun e W' ⟨he, h⟩ => ⟨_, he, nilB _, h⟩
      · exact (rcompose_big s r hS hR k hk _ hb hfit rfl hs2 v u W hv hu).mono fun e W' ⟨he, h⟩ => ⟨_, he, nilB _, h⟩

set_option maxRecDepth 100000 in
set_option maxHeartbeats 8000000 in
theorem substComposes_any (s r : List Bd) (hsz : ∀ x ∈ s, x.2.size ≤ 1048576) (hrz : ∀ x ∈ r, x.2.size ≤ 1048576) (v u : Value) (w : World) (hv : BindsAt w v s) (hu : BindsAt w u r) :
    Calls Try.prog 4 #[v, u] w fun e w' => e = .returned (.bool true) ∧ Below w.heap.size w w' := by
  have hI0 : CoI w s r v u w := ⟨hv, hu, Below.refl _ _⟩
  obtain ⟨a, c, rfl⟩ := hv.slice
  obtain ⟨a', c', rfl⟩ := hu.slice
  have HI0 : Hid (CoI w s r (.slice a s.length c) (.slice a' r.length c') w) := hI0
  clear hv hu hI0
  by_cases hs2 : 200 < s.length
  · go_enter Try.func4, Try.ntmps4
    go_wp2_with (go_at_call 10; refine (alive_any _).mono ?_; rintro e W3 ⟨rfl, hb3⟩)
    go_ret
    exact ⟨rfl, hb3⟩
  by_cases hr2 : 200 < r.length
  · go_enter Try.func4, Try.ntmps4
    go_wp2_with (go_at_call 10; refine (alive_any _).mono ?_; rintro e W3 ⟨rfl, hb3⟩)
    go_ret
    exact ⟨rfl, hb3⟩
  obtain ⟨g, d, h16, h17⟩ := both_compose s r hsz hrz (by omega) (by omega)
  have H16 : Hid _ := h16
  have H17 : Hid _ := h17
  clear h16 h17 hsz hrz
  go_enter Try.func4, Try.ntmps4
  go_wp2
  go_loopw [5] (fun vi wr => ∃ i : Nat, vi = .int .i64 i ∧ i ≤ s.length ∧ CoI w s r (.slice a s.length c) (.slice a' r.length c') wr) (fun vi _ => s.length - (intOf vi).toNat)
  case atStart => exact ⟨0, rfl, Nat.zero_le _, HI0.out⟩
  case round =>
    obtain ⟨i, rfl, hi, hX⟩ := hrel
    have HX3 : Hid (CoI w s r (.slice a s.length c) (.slice a' r.length c') wr) := hX
    by_cases hlt : i < s.length
    · obtain ⟨b, o, s1, e', hB⟩ := hX.bs.nth hlt
      cases e'
      obtain ⟨y, hy⟩ : ∃ y, s[i] = y := ⟨_, rfl⟩
      rw [hy] at hB
      obtain ⟨ya, yc, rfl, _, _⟩ := hB.sub.slice
      obtain ⟨g1, g2, g3⟩ : wr.cell? ⟨b, o + i * 4 + 1, none⟩ = some (.int .i64 y.2.v) ∧ wr.cell? ⟨b, o + i * 4 + 2, none⟩ = some (.string y.2.fn) ∧ wr.cell? ⟨b, o + i * 4 + 3, none⟩ = some (.slice ya y.2.args.length yc) := ⟨hB.c1, hB.c2, hB.c3⟩
      have hc := light_any r y.2 (.slice a' r.length c') (.slice ya y.2.args.length yc) wr hX.br hB.sub
      clear hB hy hX
      go_wp2_with (go_at_call 9; refine hc.mono ?_; rintro e W5 ⟨q, rfl, hb5⟩; have HW5 : Hid (CoI w s r _ _ W5) := HX3.out.keep hb5; clear hb5; cases q)
      · go_wp2_with (go_at_call 10; refine (alive_any _).mono ?_; rintro e W6 ⟨rfl, hb6⟩)
        go_ret
        exact ⟨rfl, HW5.out.bel.trans (hb6.mono HW5.out.bel.size)⟩
      · go_wp2
        go_roundw
        case rel => exact ⟨i + 1, by go_num, by omega, HW5.out⟩
        case measure => simp [intOf]; omega
    · have hc16 := H16.out _ _ _ hX.bs hX.br
      clear hX
      go_wp2_with (first
        | (go_at_call 16; refine hc16.mono ?_; rintro e W5 ⟨v5, rfl, hB5, hb5⟩; obtain ⟨pa, pc, rfl⟩ := hB5.slice; have HW5 : Hid (CoI w s r _ _ W5 ∧ BindsAt W5 (.slice pa d.length pc) d) := ⟨HX3.out.keep hb5, hB5⟩; have hc17 := H17.out _ _ _ HW5.out.1.bs HW5.out.1.br; clear hB5 hb5 hc16)
        | (go_at_call 17; refine hc17.mono ?_; rintro e W6 ⟨v6, rfl, hB6, hb6⟩; obtain ⟨qa, qc, rfl⟩ := hB6.slice; have HW6 : Hid (Below w.heap.size w W6) := HW5.out.1.bel.trans (hb6.mono HW5.out.1.bel.size); have hc18 := binds_same d (.slice pa d.length pc) (.slice qa d.length qc) W6 (HW5.out.2.keep hb6) hB6; clear hB6 hb6 hc17)
        | (go_at_call 18; refine hc18.mono ?_; rintro e W7 ⟨rfl, hb7⟩)
        | (go_at_call 10; refine (alive_any _).mono ?_; rintro e W8 ⟨rfl, hb8⟩))
      go_ret
      exact ⟨rfl, HW6.out.trans ((hb7.mono HW6.out.size).trans (hb8.mono (Nat.le_trans HW6.out.size hb7.size)))⟩

end Go.Proofs.Ythinbkpjggihdaa
