/-
  UnifyMatches' walk, where alive is alive.
-/
import Derived.Test.YtblfbmdnkgebdaaQA
import Derived.Test.YtblfbmdnkgebdaaTE
namespace Go.Proofs.Ytblfbmdnkgebdaa
open Go.RowKit Go.Maps

noncomputable def ansB (p t : T) : Bool := decide (p.rightW = 0 ∧ t.rightW = 0) && (dmt p t []).isSome
def ansE (p t : T) : Int := if p.rightW = 0 ∧ t.rightW = 0 then 0 else 1
open Classical in
noncomputable def ansL (p t : T) : List Bd := if p.rightW = 0 ∧ t.rightW = 0 then (match dmt p t [] with | some s => s.filter notSelf | none => []) else []

theorem rmatch_ans {p t : T} {e : Ending} {W : World} (h : RMatchIs p t e W) : ∃ v, e = .returned (.tuple #[v, .bool (ansB p t), .int .i64 (ansE p t)]) ∧ BindsAt W v (ansL p t) := by
  unfold ansB ansE ansL
  rcases h with ⟨h1, h2⟩ | ⟨h1, h2, h3⟩ | ⟨h1, s, v, h2, h3, h4⟩
  · exact ⟨.slice none 0 0, by rw [h2]; simp [h1], by rw [if_neg h1]; exact binds_nil W⟩
  · exact ⟨.slice none 0 0, by rw [h3, h2]; simp [h1], by rw [if_pos h1, h2]; exact binds_nil W⟩
  · exact ⟨v, by rw [h3, h2]; simp [h1], by rw [if_pos h1, h2]; exact h4⟩
theorem match_ans {p t : T} {e : Ending} {W : World} (h : MatchIs p t e W) : ∃ v, e = .returned (.tuple #[v, .bool (ansB p t), .int .i64 (ansE p t)]) ∧ BindsAt W v (ansL p t) := by
  unfold ansB ansE ansL
  rcases h with ⟨h1, h2⟩ | ⟨h1, h2, h3⟩ | ⟨h1, τ, v, ks, h2, h3, h4, h5⟩
  · exact ⟨.slice none 0 0, by rw [h2]; simp [h1], by rw [if_neg h1]; exact binds_nil W⟩
  · rcases both_match p t with ⟨_, k2⟩ | ⟨s, k1, _⟩
    · exact ⟨.slice none 0 0, by rw [h3, k2]; simp [h1], by rw [if_pos h1, k2]; exact binds_nil W⟩
    · rw [h2] at k1; cases k1
  · rcases both_match p t with ⟨k1, _⟩ | ⟨s, k1, k2, k3⟩
    · rw [h2] at k1; cases k1
    · rw [h2] at k1
      cases k1
      exact ⟨v, by rw [h3, k2]; simp [h1], by rw [if_pos h1, k2]; show BindsAt W v (s.filter notSelf); rw [← list_same k3 h4]; exact h5⟩

set_option maxRecDepth 100000 in
set_option maxHeartbeats 4000000 in
theorem matches_walk (hal : ∀ W, Calls Try.prog 12 #[] W fun e W' => e = .returned (.bool true) ∧ Below W.heap.size W W') (p t : T) (sp st : Value) (w : World) (hp : ArgsAt w sp p.args) (ht : ArgsAt w st t.args) (hps : p.size ≤ 1048576) (hts : t.size ≤ 1048576) :
    Calls Try.prog 4 #[tval p sp, tval t st] w fun e W => e = .returned (.bool true) ∧ Below w.heap.size w W := by
  obtain ⟨pa, pc, rfl, _, _⟩ := hp.slice
  obtain ⟨ta, tc, rfl, _, _⟩ := ht.slice
  have hb2 := below_box2 w (tbox p (.slice pa p.args.length pc)) (tbox t (.slice ta t.args.length tc))
  obtain ⟨⟨p0, p1, p2⟩, ⟨t0, t1, t2⟩⟩ := tbox2_cells w p (.slice pa p.args.length pc) t (.slice ta t.args.length tc)
  have HP : Hid (ArgsAt w (.slice pa p.args.length pc) p.args ∧ ArgsAt w (.slice ta t.args.length tc) t.args ∧ p.size ≤ 1048576 ∧ t.size ≤ 1048576 ∧ Below w.heap.size w (tbox2 w p (.slice pa p.args.length pc) t (.slice ta t.args.length tc)) ∧ ∀ W, Calls Try.prog 12 #[] W fun e W' => e = .returned (.bool true) ∧ Below W.heap.size W W') := ⟨hp, ht, hps, hts, hb2, hal⟩
  obtain ⟨ab, hab⟩ : ∃ x, ansB p t = x := ⟨_, rfl⟩
  obtain ⟨ae, hae⟩ : ∃ x, ansE p t = x := ⟨_, rfl⟩
  obtain ⟨al, hall⟩ : ∃ x, ansL p t = x := ⟨_, rfl⟩
  have hm := (match_any p t _ _ _ (ArgsAt.keep hb2 (Nat.le_refl _) hp) (ArgsAt.keep hb2 (Nat.le_refl _) ht) hps hts).mono (R' := fun e W => ∃ v, e = .returned (.tuple #[v, .bool ab, .int .i64 ae]) ∧ BindsAt W v al ∧ Below (tbox2 w p (.slice pa p.args.length pc) t (.slice ta t.args.length tc)).heap.size (tbox2 w p (.slice pa p.args.length pc) t (.slice ta t.args.length tc)) W) (fun e W h => by obtain ⟨v, h1, h2⟩ := match_ans h.1; rw [hab, hae] at h1; rw [hall] at h2; exact ⟨v, h1, h2, h.2⟩)
  have HR : Hid (∀ W, Below w.heap.size w W → Calls Try.prog 14 #[tval p (.slice pa p.args.length pc), tval t (.slice ta t.args.length tc)] W fun e W' => ∃ v, e = .returned (.tuple #[v, .bool ab, .int .i64 ae]) ∧ BindsAt W' v al ∧ Below W.heap.size W W') := fun W h => (rmatchd_any p t _ _ W (ArgsAt.keep h (Nat.le_refl _) hp) (ArgsAt.keep h (Nat.le_refl _) ht) hps).mono (fun e W' h => by obtain ⟨v, h1, h2⟩ := rmatch_ans h.1; rw [hab, hae] at h1; rw [hall] at h2; exact ⟨v, h1, h2, h.2⟩)
  clear hp ht hps hts hb2 hal hab hae hall
  go_enter Try.func4, Try.ntmps4
  go_wp2_with (first
    | (go_at_call 14; refine hr.mono ?_; rintro e W2 ⟨v2, rfl, k1, k2⟩; have HK : Hid (BindsAt W1 v1 al ∧ BindsAt W2 v2 al ∧ Below W1.heap.size W1 W2) := ⟨HB1.out.1, k1, k2⟩; clear k1 k2 hr)
    | (go_at_call 13; refine hm.mono ?_; rintro e W1 ⟨v1, rfl, k1, k2⟩; have c0 := kc k2 (by simp; omega) p0; have c1 := kc k2 (by simp; omega) p1; have c2 := kc k2 (by simp; omega) p2; have d0 := kc k2 (by simp) t0; have d1 := kc k2 (by simp) t1; have d2 := kc k2 (by simp) t2; have HB1 : Hid (BindsAt W1 v1 al ∧ Below w.heap.size w W1 ∧ w.heap.size + 2 ≤ W1.heap.size) := ⟨k1, HP.out.2.2.2.2.1.trans (k2.mono (by simp; omega)), by have := k2.size; simp at this; omega⟩; have hr := HR.out W1 HB1.out.2.1; clear k1 k2 hm))
  have hbw : Below w.heap.size w W2 := HB1.out.2.1.trans (HK.out.2.2.mono HB1.out.2.1.size)
  have l0 : w.heap.size < W2.heap.size := by have := HK.out.2.2.size; have := HB1.out.2.2; omega
  have l1 : w.heap.size + 1 < W2.heap.size := by have := HK.out.2.2.size; have := HB1.out.2.2; omega
  have m0 := fun q => cell_far l0 (kc HK.out.2.2 (by have := HB1.out.2.2; omega) c0) q
  have m1 := fun q => cell_far l0 (kc HK.out.2.2 (by have := HB1.out.2.2; omega) c1) q
  have m2 := fun q => cell_far l0 (kc HK.out.2.2 (by have := HB1.out.2.2; omega) c2) q
  have n0 := fun q => cell_far l1 (kc HK.out.2.2 (by have := HB1.out.2.2; omega) d0) q
  have n1 := fun q => cell_far l1 (kc HK.out.2.2 (by have := HB1.out.2.2; omega) d1) q
  have n2 := fun q => cell_far l1 (kc HK.out.2.2 (by have := HB1.out.2.2; omega) d2) q
  have hc11 : ∀ W, Below W2.heap.size W2 W → Calls Try.prog 11 #[v1, v2] W fun e w' => e = .returned (.bool true) ∧ Below W.heap.size W w' := fun W h => binds_same al v1 v2 W ((HK.out.1.keep HK.out.2.2).keep h) (HK.out.2.1.keep h)
  obtain ⟨vb, hvb⟩ : ∃ x, variantB p t = x := ⟨_, rfl⟩
  have hc15 : ∀ W, Below W2.heap.size W2 W → Calls Try.prog 15 #[tval p (.slice pa p.args.length pc), tval t (.slice ta t.args.length tc)] W fun e w' => e = .returned (.bool vb) ∧ Below W.heap.size W w' := fun W h => by
    have hw := hbw.trans (h.mono hbw.size)
    rw [← hvb]
    exact variant_any p t _ _ W (ArgsAt.keep hw (Nat.le_refl _) HP.out.1) (ArgsAt.keep hw (Nat.le_refl _) HP.out.2.1) HP.out.2.2.1 HP.out.2.2.2.1
  have hc16 : ∀ W, Below W2.heap.size W2 W → Calls Try.prog 16 #[tval p (.slice pa p.args.length pc), tval t (.slice ta t.args.length tc)] W fun e w' => e = .returned (.bool vb) ∧ Below W.heap.size W w' := fun W h => by
    have hw := hbw.trans (h.mono hbw.size)
    rw [← hvb, variants p t HP.out.2.2.1]
    exact rvariant_any p t _ _ W (ArgsAt.keep hw (Nat.le_refl _) HP.out.1) (ArgsAt.keep hw (Nat.le_refl _) HP.out.2.1) HP.out.2.2.1
  have hc12 : ∀ W, Below W2.heap.size W2 W → Calls Try.prog 12 #[] W fun e w' => e = .returned (.bool true) ∧ Below W.heap.size W w' := fun W _ => HP.out.2.2.2.2.2 W
  have HW : Hid (Below w.heap.size w W2) := hbw
  have hae : (ae == ae) = true := by rw [beq_iff_eq]
  clear hbw hvb c0 c1 c2 d0 d1 d2
  refine wp_region_far (by kernel_rfl) ?_
  repeat (first
    | go_big_quiet_step (first | exact calls_far hc11 _ | exact calls_far hc15 _ | exact calls_far hc16 _ | exact calls_far hc12 _)
    | quiet_step (first | exact calls_far hc11 _ | exact calls_far hc15 _ | exact calls_far hc16 _ | exact calls_far hc12 _))
  refine wpQuiet_nil ?_
  intro _ hw'
  obtain ⟨pf, rfl⟩ := hw'
  go_wp2
  go_ret
  exact ⟨ret_bool (by simp), HW.out.trans ((below_far _ pf).mono HW.out.size)⟩

end Go.Proofs.Ytblfbmdnkgebdaa
