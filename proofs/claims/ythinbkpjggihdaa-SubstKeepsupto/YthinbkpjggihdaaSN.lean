/-
  subst.lasting.
-/
import Derived.Test.YthinbkpjggihdaaSM
namespace Go.Proofs.Ythinbkpjggihdaa
open Go.RowKit

set_option maxRecDepth 100000 in
set_option maxHeartbeats 4000000 in
theorem lasting1_any (r : List Bd) (hsub : IsSub r) (v : Value) (B : Nat) (x : Bd) (sl : Value) (w : World) (hl : BindsAt w v r) (hB : w.cell? ⟨B, 0, none⟩ = some v) (ha : ArgsAt w sl x.2.args) :
    Calls Try.prog 63 #[bval x sl, .pointer (some ⟨B, 0, none⟩)] w fun e W' => e = .returned (.bool (lastB r x)) ∧ Below w.heap.size w W' := by
  obtain ⟨a, c, rfl⟩ := hl.slice
  obtain ⟨sa, sc, rfl, _, _⟩ := ha.slice
  have hb0 := below_box w (bbox x (.slice sa x.2.args.length sc))
  obtain ⟨k0, k1, k2, k3⟩ := bbox_cells w x (.slice sa x.2.args.length sc)
  have hBl : B < w.heap.size := World.block_lt_of_cell? w _ hB
  have hB1 := kc hb0 hBl hB
  by_cases h0 : x.2.fn.size = 0
  · have hdd : x.2.fn.toList.isEmpty = true := by rw [ba_isEmpty]; exact decide_eq_true h0
    have HR : Hid (lastB r x = !(decide ((img r x.2.v).fn.size = 0) && decide ((img r x.2.v).v = x.1))) := by show _ = _; unfold lastB; rw [decide_eq_false (by omega)]; rfl
    obtain ⟨W1, hW1⟩ : ∃ W1, w.alloc (bbox x (.slice sa x.2.args.length sc)) = W1 := ⟨_, rfl⟩
    have hall : ∀ X, Below W1.heap.size W1 X → X.cell? ⟨B, 0, none⟩ = some (.slice a r.length c) ∧ X.cell? ⟨w.heap.size, 0, none⟩ = some (.int .i64 x.1) ∧ X.cell? ⟨w.heap.size, 1, none⟩ = some (.int .i64 x.2.v) ∧ X.cell? ⟨w.heap.size, 2, none⟩ = some (.string x.2.fn) := by
      rw [← hW1]
      exact fun X hX => ⟨kc hX (by simp; omega) hB1, kc hX (by simp) k0, kc hX (by simp) k1, kc hX (by simp) k2⟩
    have h60 : ∀ X, Below W1.heap.size W1 X → Calls Try.prog 60 #[.slice a r.length c, .int .i64 x.2.v] X fun e X' => (∃ pa pc, e = .returned (tval (img r x.2.v) (.slice pa (img r x.2.v).args.length pc))) ∧ Below W1.heap.size W1 X' := by
      rw [← hW1]
      exact fun X hX => (image_any r x.2.v _ X (hl.keep (hb0.trans (hX.mono hb0.size))) hsub.rising hsub.1).mono fun e X' ⟨s', he, has, hb⟩ => by
        obtain ⟨pa, pc, rfl, _, _⟩ := has.slice
        exact ⟨⟨pa, pc, he⟩, hX.trans (hb.mono hX.size)⟩
    have h34 : ∀ X pa m pc, Below W1.heap.size W1 X → Calls Try.prog 34 #[tval (img r x.2.v) (.slice pa m pc), .int .i64 x.1] X fun e X' => e = .returned (.bool (decide ((img r x.2.v).fn.size = 0) && decide ((img r x.2.v).v = x.1))) ∧ Below W1.heap.size W1 X' := fun X pa m pc hX => (sisVar_any (img r x.2.v) x.1 _ X ⟨_, _, _, rfl⟩).mono fun e X' ⟨he, hx⟩ => ⟨he, by rw [hx]; exact hX.trans ((below_box X _).mono hX.size)⟩
    have hSd : Below W1.heap.size W1 W1.drew := (Below.refl _ _).drew
    have hfin : Hid (∀ X, Below W1.heap.size W1 X → Below w.heap.size w X) := by rw [← hW1]; exact fun X hX => hb0.trans (hX.mono (by simp))
    obtain ⟨bb, hbb⟩ : ∃ bb, (decide ((img r x.2.v).fn.size = 0) && decide ((img r x.2.v).v = x.1)) = bb := ⟨_, rfl⟩
    rw [hbb] at h34 HR
    obtain ⟨y, hy⟩ : ∃ y, img r x.2.v = y := ⟨_, rfl⟩
    rw [hy] at h34 h60
    obtain ⟨S, hS⟩ : ∃ S : World → Prop, (fun X => Below W1.heap.size W1 X) = S := ⟨_, rfl⟩
    have hall' : ∀ X, S X → X.cell? ⟨B, 0, none⟩ = some (.slice a r.length c) ∧ X.cell? ⟨w.heap.size, 0, none⟩ = some (.int .i64 x.1) ∧ X.cell? ⟨w.heap.size, 1, none⟩ = some (.int .i64 x.2.v) ∧ X.cell? ⟨w.heap.size, 2, none⟩ = some (.string x.2.fn) := by rw [← hS]; exact hall
    have h60' : ∀ X, S X → Calls Try.prog 60 #[.slice a r.length c, .int .i64 x.2.v] X fun e X' => (∃ pa pc, e = .returned (tval y (.slice pa y.args.length pc))) ∧ S X' := by rw [← hS]; exact h60
    have h34' : ∀ X pa m pc, S X → Calls Try.prog 34 #[tval y (.slice pa m pc), .int .i64 x.1] X fun e X' => e = .returned (.bool bb) ∧ S X' := by rw [← hS]; exact h34
    have hSd' : S W1.drew := by rw [← hS]; exact hSd
    have hfin' : Hid (∀ X, S X → Below w.heap.size w X) := by rw [← hS]; exact hfin.out
    subst hW1
    obtain ⟨n0, n1, n2, n3⟩ := hall' _ hSd'
    clear hS hall h60 h34 hSd hfin hy hbb hl ha hB hsub h0
    go_enter Try.func63, Try.ntmps63
    go_wp2
    go_region_held3 (fun X => X.cell? ⟨B, 0, none⟩ = some (.slice a r.length c) ∧ X.cell? ⟨w.heap.size, 0, none⟩ = some (.int .i64 x.1) ∧ X.cell? ⟨w.heap.size, 1, none⟩ = some (.int .i64 x.2.v) ∧ X.cell? ⟨w.heap.size, 2, none⟩ = some (.string x.2.fn)) (first | exact ⟨n0, n1, n2, n3⟩ | exact K3 | exact K4) (first
      | (go_at_call 60; refine (h60' _ hSd').mono ?_; rintro e W3 ⟨⟨pa, pc, rfl⟩, HW3⟩; have K3 := hall' _ HW3)
      | (go_at_call 34; refine (h34' _ pa _ pc HW3).mono ?_; rintro e W4 ⟨rfl, HW4⟩; have K4 := hall' _ HW4))
    go_wp2
    go_ret
    exact ⟨ret_bool HR.symm, hfin'.out _ HW4⟩
  · have hdd : x.2.fn.toList.isEmpty = false := by rw [ba_isEmpty]; exact decide_eq_false h0
    have HR : Hid (lastB r x = true) := by show _ = _; unfold lastB; rw [decide_eq_true (by omega)]; rfl
    clear h0 hl ha hsub
    go_enter Try.func63, Try.ntmps63
    go_wp2
    go_quiet (fail)
    go_wp2
    go_ret
    exact ⟨ret_bool HR.symm, hb0.trans ⟨rfl, rfl, rfl, Nat.le_refl _, fun _ _ => rfl⟩⟩

set_option maxHeartbeats 1000000 in
theorem lasting_any (s r : List Bd) (hsub : IsSub r) (hs4 : s.length ≤ 4000) (v u : Value) (w : World) (hs : BindsAt w v s) (hl : BindsAt w u r) :
    Calls Try.prog 35 #[v, u] w fun e W' => ∃ v', e = .returned v' ∧ BindsAt W' v' (s.filter (lastB r)) ∧ Below w.heap.size w W' := by
  obtain ⟨a, c, rfl⟩ := hl.slice
  have hb0 := below_box w (.cells #[.slice a r.length c] 22)
  have hk : (w.alloc (.cells #[.slice a r.length c] 22)).cell? ⟨w.heap.size, 0, none⟩ = some (.slice a r.length c) := by rw [World.cell?_alloc_new]; rfl
  have hl1 := hl.keep hb0
  have hc := kept_any (w.alloc (.cells #[.slice a r.length c] 22)) 63 #[.pointer (some ⟨w.heap.size, 0, none⟩)] (lastB r) eg63 (fun x sl W hW ha => lasting1_any r hsub _ _ x sl W (hl1.keep hW) (kc hW (by simp) hk) ha) s v _ (Below.refl _ _) (hs.keep hb0) hs4
  obtain ⟨a', c', rfl⟩ := hs.slice
  clear hs hl hl1 hk
  go_enter Try.func35, Try.ntmps35
  go_wp2_with (first | (go_at_call 62; refine hc.mono ?_; rintro e w2 ⟨v2, rfl, hB2, hb2⟩; obtain ⟨pa, pc, rfl⟩ := hB2.slice; have HB : Hid (BindsAt w2 (.slice pa (s.filter (lastB r)).length pc) (s.filter (lastB r)) ∧ Below w.heap.size w w2) := ⟨hB2, hb0.trans (hb2.mono (by simp))⟩; clear hB2 hb2))
  go_ret
  exact ⟨_, rfl, HB.out.1, HB.out.2⟩

end Go.Proofs.Ythinbkpjggihdaa
