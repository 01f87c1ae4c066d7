/-
  Asking.
-/
import Derived.Test.YtiklbkkimmgbcaaHI
namespace Go.Proofs.Ytiklbkkimmgbcaa
open Go.RowKit

def AskP (W1 W : World) (M gs gd gz : Nat) (N : List Nd) (ρ st : Nat → Nat) (i : Nat) (e : Ending) (W' : World) : Prop :=
  ∃ (z : Bool) (st' : Nat → Nat), e = .returned (.bool z) ∧ Mes W1 W' M gs gd gz N.length st' ∧ Only [gs, gd, gz] W W' ∧ (z = true → (∀ j, st j ≠ 0 → st' j = st j) ∧ st' (ρ i) = 2 ∧ ((∃ f c, Ord N ρ st f c) → ∃ f c, Ord N ρ st' f c))

theorem askP_no {W1 W W' : World} {M gs gd gz : Nat} {N : List Nd} {ρ st st' : Nat → Nat} {i : Nat} (h : Mes W1 W' M gs gd gz N.length st') (ho : Only [gs, gd, gz] W W') : AskP W1 W M gs gd gz N ρ st i (.returned (.bool false)) W' := ⟨false, st', rfl, h, ho, fun e => by cases e⟩

/-- What the loop keeps. -/
structure AskL (W1 W : World) (M gs gd gz : Nat) (N : List Nd) (ρ st : Nat → Nat) (p : Nat) (l : List Nat) (m : Nat) (wr : World) (st' : Nat → Nat) : Prop where
  mes : Mes W1 wr M gs gd gz N.length st'
  only : Only [gs, gd, gz] W wr
  old : ∀ j, put1 st p 1 j ≠ 0 → st' j = put1 st p 1 j
  parts : ∀ a ∈ l, st' (ρ a) = 2
  ord : (∃ f c, Ord N ρ st f c) → ∃ f c, Ord N ρ st' f c
  z : zeros st' N.length < m

theorem AskL.next {W1 W : World} {M gs gd gz : Nat} {N : List Nd} {ρ st : Nat → Nat} {p : Nat} {l : List Nat} {m : Nat} {wr : World} {st' : Nat → Nat} (h : AskL W1 W M gs gd gz N ρ st p l m wr st') {a : Nat} {W5 W6 : World} {st5 : Nat → Nat} (m5 : Mes W1 W5 M gs gd gz N.length st5) (o5 : Only [gs, gd, gz] wr W5) (h1 : ∀ j, st' j ≠ 0 → st5 j = st' j) (h2 : st5 (ρ a) = 2) (h3 : (∃ f c, Ord N ρ st' f c) → ∃ f c, Ord N ρ st5 f c) (h6 : Below W5.heap.size W5 W6) : AskL W1 W M gs gd gz N ρ st p (l ++ [a]) m W6 st5 := by
  refine ⟨m5.keep h6, (h.only.trans o5 (fun r hr => .inl hr)).trans (Only.of_below (B := []) h6) (by simp), fun j hj => ?_, fun b hb => ?_, fun ho => h3 (h.ord ho), ?_⟩
  · have := h.old j hj
    rw [h1 j (by rw [this]; exact hj), this]
  · rcases List.mem_append.1 hb with hb | hb
    · have := h.parts b hb
      rw [h1 _ (by rw [this]; decide), this]
    · rw [List.mem_singleton.1 hb]; exact h2
  · have : zeros st5 N.length ≤ zeros st' N.length := zeros_mono fun j hj => Decidable.byContradiction fun hn => by rw [h1 j hn] at hj; exact hn hj
    have := h.z
    omega

theorem AskL.last {W1 W : World} {M gs gd gz : Nat} {N : List Nd} {ρ st : Nat → Nat} {p i : Nat} {m : Nat} {wr : World} {st' : Nat → Nat} {d : Nd} (h : AskL W1 W M gs gd gz N ρ st p d.args m wr st') (hd : N[p]? = some d) (hp : ρ i = p) (h0 : st p = 0) (hl : ∀ a ∈ d.args, ρ a < N.length) (x y : Int) : AskP W1 W M gs gd gz N ρ st i (.returned (.bool true)) (((wr.setCell ⟨gd, p, none⟩ (.int .i64 x)).setCell ⟨gz, p, none⟩ (.int .i64 y)).setCell ⟨gs, p, none⟩ (.int .i64 2)) := by
  have hpl : p < N.length := (List.getElem?_eq_some_iff.1 hd).1
  have h1 : st' p = 1 := by have := h.old p (by simp [put1]); rw [this]; simp [put1]
  refine ⟨true, put1 st' p 2, rfl, ((h.mes.setD x).setZ y).setS hpl 2 (Nat.le_refl _), ?_, fun _ => ⟨fun j hj => ?_, by simp [put1, hp], fun ho => ?_⟩⟩
  · exact ((h.only.trans (only_setCell _ _ _ _) (fun r hr => .inl (by simp at hr; simp [hr]))).trans (only_setCell _ _ _ _) (fun r hr => .inl (by simp at hr; simp [hr]))).trans (only_setCell _ _ _ _) (fun r hr => .inl (by simp at hr; simp [hr]))
  · have hne : j ≠ p := fun e => hj (by rw [e]; exact h0)
    have := h.old j (by simp only [put1, if_neg hne]; exact hj)
    simp only [put1, if_neg hne] at this ⊢
    exact this
  · obtain ⟨f, c, hf⟩ := h.ord ho
    exact ⟨_, _, hf.done hd h1 h.parts hl⟩

set_option maxRecDepth 100000 in
set_option maxHeartbeats 16000000 in
theorem ask_any {W1 : World} {B g c M gs gd gz : Nat} {N : List Nd} {up ρ r : Nat → Nat} {K : Nat} {av : Nat → Value} (hN : Net W1 B g c N up av) (hU : Up N.length up ρ r K) (hT : Tp N ρ) : ∀ (m : Nat) (st : Nat → Nat) (W : World) (i : Nat), zeros st N.length < m → Mes W1 W M gs gd gz N.length st → i < N.length →
    Calls Try.prog 51 #[.pointer (some ⟨B, 0, none⟩), .pointer (some ⟨M, 0, none⟩), .int .i64 (i : Nat)] W (AskP W1 W M gs gd gz N ρ st i) := by
  have HN : Hid (∀ Z, Below W1.heap.size W1 Z → Net Z B g c N up av) := fun Z hZ => hN.keep hZ
  have HU : Hid (Up N.length up ρ r K) := hU
  have HT : Hid (Tp N ρ) := hT
  have HBe : Hid (∀ (i : Nat) (d : Nd), N[i]? = some d → ∀ a ∈ d.args, a < N.length) := fun i d hd a ha => by
    obtain ⟨hl, rfl⟩ := List.getElem?_eq_some_iff.1 hd
    exact hN.below i hl a ha
  clear hN hU hT
  intro m
  induction m with
  | zero => intro st W i hm; exact absurd hm (Nat.not_lt_zero _)
  | succ m ih =>
  intro st W i hm hM hi
  have h52 := top_any W (HN.out W hM.bel) HU.out i hi
  have HM : Hid (Mes W1 W M gs gd gz N.length st) := hM
  have HZ : Hid (zeros st N.length < m + 1) := hm
  obtain ⟨p, hp⟩ : ∃ p, ρ i = p := ⟨_, rfl⟩
  have HP : Hid (ρ i = p ∧ p < N.length) := ⟨hp, by rw [← hp]; exact HT.out.lt i hi⟩
  rw [hp] at h52
  clear hm hM hi hp
  go_enter Try.func51, Try.ntmps51
  go_wp2_with fail
  refine h52.mono ?_
  rintro e W2 ⟨rfl, b2⟩
  have M2 : Mes W1 W2 M gs gd gz N.length st := HM.out.keep b2
  have HM2 : Hid (Mes W1 W2 M gs gd gz N.length st ∧ Below W.heap.size W W2) := ⟨M2, b2⟩
  obtain ⟨⟨k0, k1, k2⟩, ⟨s0, s1⟩, _, _⟩ := M2.cells HP.out.2
  have hpI : (p : Int) < (N.length : Int) := by have := HP.out.2; omega
  have hp0 : (0 : Int) ≤ (p : Int) := by omega
  have hst := M2.st2 p
  clear M2 b2 h52 HM
  obtain ⟨u, hu⟩ : ∃ u, st p = u := ⟨_, rfl⟩
  rw [hu] at s0 hst
  have HSt : Hid (st p = u) := hu
  clear hu
  by_cases hu2 : u = 2
  · subst hu2
    clear hst
    go_wp2
    refine bodyPost_ret (v := .bool true) (by simp [results, Try.results51, go_sem]) rfl ?_
    exact ⟨true, st, rfl, HM2.out.1, Only.of_below HM2.out.2, fun _ => ⟨fun _ _ => rfl, by rw [HP.out.1]; exact HSt.out, fun h => h⟩⟩
  by_cases hu1 : u = 1
  · subst hu1
    clear hst hu2
    go_wp2
    refine bodyPost_ret (v := .bool false) (by simp [results, Try.results51, go_sem]) rfl ?_
    exact askP_no HM2.out.1 (Only.of_below HM2.out.2)
  obtain rfl : u = 0 := by omega
  clear hst hu2 hu1
  obtain ⟨dp, hdp⟩ : ∃ d, N[p]? = some d := ⟨_, List.getElem?_eq_getElem HP.out.2⟩
  have HD : Hid (N[p]? = some dp) := hdp
  obtain ⟨pa, pc, epa, hpm, _⟩ := (HN.out W2 HM2.out.1.bel).arg hdp
  have ep : N[p]'HP.out.2 = dp := (List.getElem?_eq_some_iff.1 hdp).2
  have HX1 : Hid (∀ Z, Below W1.heap.size W1 Z → Z.cell? ⟨B, 0, none⟩ = some (.slice (some ⟨g, 0, none⟩) N.length c) ∧ Z.cell? ⟨g, p * 4 + 2, none⟩ = some (.slice pa dp.args.length pc) ∧ ∀ k (hk : k < dp.args.length), ∃ bb o, pa = some ⟨bb, o, none⟩ ∧ Z.cell? ⟨bb, o + k, none⟩ = some (.int .i64 (dp.args[k] : Nat))) := fun Z hZ => by
    have hn := HN.out Z hZ
    obtain ⟨_, _, q2, _, _⟩ := hn.cells HP.out.2
    rw [epa] at q2
    obtain ⟨a5, c5, e5, _, h5⟩ := hn.arg hdp
    rw [epa] at e5
    cases e5
    exact ⟨hn.bcell.1, q2, fun k hk => by obtain ⟨bb, o, q3, _, _, _, q4⟩ := h5 k hk; exact ⟨bb, o, q3, q4⟩⟩
  have HL0 : Hid (AskL W1 W M gs gd gz N ρ st p (dp.args.take 0) m (W2.setCell ⟨gs, p, none⟩ (.int .i64 1)) (put1 st p 1)) := by
    refine ⟨HM2.out.1.setS HP.out.2 1 (by omega), (Only.of_below (B := [gs, gd, gz]) HM2.out.2).trans (only_setCell _ _ _ _) (fun r hr => .inl (by simp at hr; simp [hr])), fun _ _ => rfl, fun a ha => (by simp at ha), fun ⟨f, c, h⟩ => ⟨f, c, h.one HSt.out⟩, ?_⟩
    have h1 := zeros_put HP.out.2 HSt.out
    have h2 := HZ.out
    omega
  clear hdp epa ep
  go_wp2
  obtain ⟨W3, hW3⟩ : ∃ X, W2.setCell ⟨gs, p, none⟩ (.int .i64 1) = X := ⟨_, rfl⟩
  rw [hW3] at HL0 ⊢
  clear hW3 k0 k1 k2 s0 s1
  go_loopw [7, 8, 9] (fun vd vs vk wr => ∃ (k : Nat) (d s : Int), vd = .int .i64 d ∧ vs = .int .i64 s ∧ vk = .int .i64 k ∧ k ≤ dp.args.length ∧ Hid (∃ st', AskL W1 W M gs gd gz N ρ st p (dp.args.take k) m wr st')) (fun _ _ vk _ => dp.args.length - (intOf vk).toNat)
  case atStart => exact ⟨0, 0, 1, rfl, rfl, rfl, Nat.zero_le _, _, HL0.out⟩
  case round =>
    obtain ⟨k, d, s, rfl, rfl, rfl, hk, HI⟩ := hrel
    obtain ⟨st', hL⟩ := HI.out
    obtain ⟨cb, ca, hargs⟩ := HX1.out wr hL.mes.bel
    by_cases hlt : k < dp.args.length
    · have hkI : (k : Int) < (dp.args.length : Int) := by omega
      have hk0 : (0 : Int) ≤ (k : Int) := by omega
      obtain ⟨bb, o, rfl, ck⟩ := hargs k hlt
      obtain ⟨a, hka⟩ : ∃ a, dp.args[k] = a := ⟨_, rfl⟩
      rw [hka] at ck
      have hal : a < N.length := HBe.out p dp HD.out a (hka ▸ List.getElem_mem hlt)
      have HTk : Hid (dp.args.take (k + 1) = dp.args.take k ++ [a]) := by show _ = _; rw [List.take_succ_eq_append_getElem hlt, hka]
      have hcall := ih st' wr a hL.z hL.mes hal
      obtain ⟨q, hq⟩ : ∃ q, ρ a = q := ⟨_, rfl⟩
      have hql : q < N.length := by rw [← hq]; exact HT.out.lt a hal
      have HQ : Hid (ρ a = q) := hq
      have HLt : Hid (k < dp.args.length) := hlt
      have HL : Hid (AskL W1 W M gs gd gz N ρ st p (dp.args.take k) m wr st') := hL
      have hqI : (q : Int) < (N.length : Int) := by omega
      have hq0 : (0 : Int) ≤ (q : Int) := by omega
      clear hL HI hargs hka hq
      go_wp2_with fail
      refine hcall.mono ?_
      rintro e W5 ⟨z, st5, rfl, m5, o5, hz⟩
      have HM5 : Hid (Mes W1 W5 M gs gd gz N.length st5 ∧ Only [gs, gd, gz] wr W5) := ⟨m5, o5⟩
      have HZ5 : Hid (z = true → (∀ j, st' j ≠ 0 → st5 j = st' j) ∧ st5 (ρ a) = 2 ∧ ((∃ f c, Ord N ρ st' f c) → ∃ f c, Ord N ρ st5 f c)) := hz
      clear m5 o5 hz hcall ck ca cb
      cases z
      · go_wp2
        refine bodyPost_ret (v := .bool false) (by simp [results, Try.results51, go_sem]) rfl ?_
        exact askP_no HM5.out.1 (HL.out.only.trans HM5.out.2 (fun r hr => .inl hr))
      have HZ6 : Hid ((∀ j, st' j ≠ 0 → st5 j = st' j) ∧ st5 (ρ a) = 2 ∧ ((∃ f c, Ord N ρ st' f c) → ∃ f c, Ord N ρ st5 f c)) := HZ5.out rfl
      clear HZ5
      have HMM : Hid (Mes W1 W5 M gs gd gz N.length st5) := HM5.out.1
      obtain ⟨Wd14, hWd14⟩ : ∃ X, W5.drew = X := ⟨_, rfl⟩
      have hd14 : Below W5.heap.size W5 Wd14 := by rw [← hWd14]; exact (Below.refl _ W5).drew
      have md14 := HMM.out.keep hd14
      have ht14 := top_any Wd14 (HN.out Wd14 md14.bel) HU.out a hal
      rw [HQ.out] at ht14
      obtain ⟨zv14, hzv14⟩ : ∃ z : Int, Wd14.cell? ⟨gd, q, none⟩ = some (.int .i64 z) := by
        obtain ⟨_, _, ⟨z1, k3, _⟩, z2, k4, _⟩ := md14.cells hql
        exact ⟨_, k3⟩
      have HX14 : Hid (∀ Z, Below Wd14.heap.size Wd14 Z → Z.cell? ⟨M, 1, none⟩ = some (.slice (some ⟨gd, 0, none⟩) N.length N.length) ∧ Z.cell? ⟨gd, q, none⟩ = some (.int .i64 zv14)) := fun Z hZ => by
        obtain ⟨⟨k0, k1, k2⟩, _, _, _⟩ := md14.cells hql
        have hl := md14.lt
        exact ⟨kc hZ (by omega) k1, kc hZ (by omega) hzv14⟩
      have HMd14 : Hid (Mes W1 Wd14 M gs gd gz N.length st5 ∧ Below W5.heap.size W5 Wd14) := ⟨md14, hd14⟩
      clear md14 hd14 hzv14 HMM
      go_wp2
      refine wp_region_held_drew (S := fun Z => Below Wd14.heap.size Wd14 Z) (by kernel_rfl) (by rw [hWd14]; exact Below.refl _ _) (fun hHeld => ?_)
      rw [hWd14] at hHeld ⊢
      refine take_mk 0 (.int .i64 d) rfl (by kernel_rfl) (by kernel_rfl) (by kernel_rfl) (fun _ _ _ h => h) (Or.inl ⟨by rfl, fun Z hZ => by go_simp⟩) (by assumption) ?_
      try simp only [Act.put, List.setIfInBounds_toArray, List.set_cons_zero, List.set_cons_succ]
      refine take_mk 1 (.pointer (some ⟨M, 0, none⟩)) rfl (by kernel_rfl) (by kernel_rfl) (by kernel_rfl) (fun _ _ _ h => h) (Or.inl ⟨by rfl, fun Z hZ => by go_simp⟩) (by assumption) ?_
      try simp only [Act.put, List.setIfInBounds_toArray, List.set_cons_zero, List.set_cons_succ]
      refine take_mk 2 (.pointer (some ⟨M, 0, none⟩)) rfl (by kernel_rfl) (by kernel_rfl) (by kernel_rfl) (fun _ _ _ h => h) (Or.inl ⟨by rfl, fun Z hZ => by go_simp⟩) (by assumption) ?_
      try simp only [Act.put, List.setIfInBounds_toArray, List.set_cons_zero, List.set_cons_succ]
      refine take_mk 3 (.pointer (some ⟨M, 1, none⟩)) rfl (by kernel_rfl) (by kernel_rfl) (by kernel_rfl) (fun _ _ _ h => h) (Or.inl ⟨by rfl, fun Z hZ => by go_simp⟩) (by assumption) ?_
      try simp only [Act.put, List.setIfInBounds_toArray, List.set_cons_zero, List.set_cons_succ]
      refine take_mk 4 (.slice (some ⟨gd, 0, none⟩) N.length N.length) rfl (by kernel_rfl) (by kernel_rfl) (by kernel_rfl) (fun _ _ _ h => h) (Or.inl ⟨by rfl, fun Z hZ => by obtain ⟨y0, y1⟩ := HX14.out Z hZ; go_simp⟩) (by assumption) ?_
      try simp only [Act.put, List.setIfInBounds_toArray, List.set_cons_zero, List.set_cons_succ]
      refine take_mk 5 (.pointer (some ⟨B, 0, none⟩)) rfl (by kernel_rfl) (by kernel_rfl) (by kernel_rfl) (fun _ _ _ h => h) (Or.inl ⟨by rfl, fun Z hZ => by go_simp⟩) (by assumption) ?_
      try simp only [Act.put, List.setIfInBounds_toArray, List.set_cons_zero, List.set_cons_succ]
      refine take_mk 6 (.int .i64 (a : Nat)) rfl (by kernel_rfl) (by kernel_rfl) (by kernel_rfl) (fun _ _ _ h => h) (Or.inl ⟨by rfl, fun Z hZ => by go_simp⟩) (by assumption) ?_
      try simp only [Act.put, List.setIfInBounds_toArray, List.set_cons_zero, List.set_cons_succ]
      refine wpAnyH_ready (rs := [7]) (by kernel_rfl) (by simp) (AllReadyH.cons (o := ⟨_, _, _, _, _, _⟩) rfl (fun K hK => ?_) AllReadyH.nil)
      rw [if_pos (by rfl)]
      go_simp
      refine ht14.mono ?_
      rintro e W7 ⟨rfl, bn14⟩
      refine hK.out _ _ bn14 (fun _ => ?_)
      clear hK K
      try simp only [Act.put, List.setIfInBounds_toArray, List.set_cons_zero, List.set_cons_succ]
      refine take_mk 8 (.pointer (some ⟨gd, q, none⟩)) rfl (by kernel_rfl) (by kernel_rfl) (by kernel_rfl) (fun _ _ _ h => h) (Or.inl ⟨by rfl, fun Z hZ => by go_simp⟩) (by assumption) ?_
      try simp only [Act.put, List.setIfInBounds_toArray, List.set_cons_zero, List.set_cons_succ]
      refine take_mk 9 (.int .i64 zv14) rfl (by kernel_rfl) (by kernel_rfl) (by kernel_rfl) (fun _ _ _ h => h) (Or.inl ⟨by rfl, fun Z hZ => by obtain ⟨y0, y1⟩ := HX14.out Z hZ; go_simp⟩) (by assumption) ?_
      try simp only [Act.put, List.setIfInBounds_toArray, List.set_cons_zero, List.set_cons_succ]
      refine wpAnyH_ready (rs := [10]) (by kernel_rfl) (by simp) (AllReadyH.cons (o := ⟨_, _, _, _, _, _⟩) rfl (fun K hK => ?_) AllReadyH.nil)
      rw [if_pos (by rfl)]
      go_simp
      refine hK.out _ _ bn14 (fun _ => ?_)
      clear hK K
      try simp only [Act.put, List.setIfInBounds_toArray, List.set_cons_zero, List.set_cons_succ]
      refine take_mk 11 (.int .i64 (max d zv14)) rfl (by kernel_rfl) (by kernel_rfl) (by kernel_rfl) (fun _ _ _ h => h) (Or.inl ⟨by rfl, fun Z hZ => by go_simp⟩) (by assumption) ?_
      try simp only [Act.put, List.setIfInBounds_toArray, List.set_cons_zero, List.set_cons_succ]
      refine wpAnyH_done (by kernel_rfl) ?_ _
      try simp only [Act.put]
      have HMMW7 : Hid (Mes W1 W7 M gs gd gz N.length st5) := HMd14.out.1.keep bn14
      have HBW7 : Hid (Below W5.heap.size W5 W7) := HMd14.out.2.trans (bn14.mono HMd14.out.2.size)
      clear hHeld bn14 ht14 hWd14 HX14 HMd14
      obtain ⟨Wd15, hWd15⟩ : ∃ X, W7.drew = X := ⟨_, rfl⟩
      have hd15 : Below W7.heap.size W7 Wd15 := by rw [← hWd15]; exact (Below.refl _ W7).drew
      have md15 := HMMW7.out.keep hd15
      have ht15 := top_any Wd15 (HN.out Wd15 md15.bel) HU.out a hal
      rw [HQ.out] at ht15
      obtain ⟨zv15, hzv15⟩ : ∃ z : Int, Wd15.cell? ⟨gz, q, none⟩ = some (.int .i64 z) := by
        obtain ⟨_, _, ⟨z1, k3, _⟩, z2, k4, _⟩ := md15.cells hql
        exact ⟨_, k4⟩
      have HX15 : Hid (∀ Z, Below Wd15.heap.size Wd15 Z → Z.cell? ⟨M, 2, none⟩ = some (.slice (some ⟨gz, 0, none⟩) N.length N.length) ∧ Z.cell? ⟨gz, q, none⟩ = some (.int .i64 zv15)) := fun Z hZ => by
        obtain ⟨⟨k0, k1, k2⟩, _, _, _⟩ := md15.cells hql
        have hl := md15.lt
        exact ⟨kc hZ (by omega) k2, kc hZ (by omega) hzv15⟩
      have HMd15 : Hid (Mes W1 Wd15 M gs gd gz N.length st5 ∧ Below W7.heap.size W7 Wd15) := ⟨md15, hd15⟩
      clear md15 hd15 hzv15 HMMW7
      go_wp2
      refine wp_region_held_drew (S := fun Z => Below Wd15.heap.size Wd15 Z) (by kernel_rfl) (by rw [hWd15]; exact Below.refl _ _) (fun hHeld => ?_)
      rw [hWd15] at hHeld ⊢
      refine take_mk 0 (.int .i64 s) rfl (by kernel_rfl) (by kernel_rfl) (by kernel_rfl) (fun _ _ _ h => h) (Or.inl ⟨by rfl, fun Z hZ => by go_simp⟩) (by assumption) ?_
      try simp only [Act.put, List.setIfInBounds_toArray, List.set_cons_zero, List.set_cons_succ]
      refine take_mk 1 (.pointer (some ⟨M, 0, none⟩)) rfl (by kernel_rfl) (by kernel_rfl) (by kernel_rfl) (fun _ _ _ h => h) (Or.inl ⟨by rfl, fun Z hZ => by go_simp⟩) (by assumption) ?_
      try simp only [Act.put, List.setIfInBounds_toArray, List.set_cons_zero, List.set_cons_succ]
      refine take_mk 2 (.pointer (some ⟨M, 0, none⟩)) rfl (by kernel_rfl) (by kernel_rfl) (by kernel_rfl) (fun _ _ _ h => h) (Or.inl ⟨by rfl, fun Z hZ => by go_simp⟩) (by assumption) ?_
      try simp only [Act.put, List.setIfInBounds_toArray, List.set_cons_zero, List.set_cons_succ]
      refine take_mk 3 (.pointer (some ⟨M, 2, none⟩)) rfl (by kernel_rfl) (by kernel_rfl) (by kernel_rfl) (fun _ _ _ h => h) (Or.inl ⟨by rfl, fun Z hZ => by go_simp⟩) (by assumption) ?_
      try simp only [Act.put, List.setIfInBounds_toArray, List.set_cons_zero, List.set_cons_succ]
      refine take_mk 4 (.slice (some ⟨gz, 0, none⟩) N.length N.length) rfl (by kernel_rfl) (by kernel_rfl) (by kernel_rfl) (fun _ _ _ h => h) (Or.inl ⟨by rfl, fun Z hZ => by obtain ⟨y0, y1⟩ := HX15.out Z hZ; go_simp⟩) (by assumption) ?_
      try simp only [Act.put, List.setIfInBounds_toArray, List.set_cons_zero, List.set_cons_succ]
      refine take_mk 5 (.pointer (some ⟨B, 0, none⟩)) rfl (by kernel_rfl) (by kernel_rfl) (by kernel_rfl) (fun _ _ _ h => h) (Or.inl ⟨by rfl, fun Z hZ => by go_simp⟩) (by assumption) ?_
      try simp only [Act.put, List.setIfInBounds_toArray, List.set_cons_zero, List.set_cons_succ]
      refine take_mk 6 (.int .i64 (a : Nat)) rfl (by kernel_rfl) (by kernel_rfl) (by kernel_rfl) (fun _ _ _ h => h) (Or.inl ⟨by rfl, fun Z hZ => by go_simp⟩) (by assumption) ?_
      try simp only [Act.put, List.setIfInBounds_toArray, List.set_cons_zero, List.set_cons_succ]
      refine wpAnyH_ready (rs := [7]) (by kernel_rfl) (by simp) (AllReadyH.cons (o := ⟨_, _, _, _, _, _⟩) rfl (fun K hK => ?_) AllReadyH.nil)
      rw [if_pos (by rfl)]
      go_simp
      refine ht15.mono ?_
      rintro e W9 ⟨rfl, bn15⟩
      refine hK.out _ _ bn15 (fun _ => ?_)
      clear hK K
      try simp only [Act.put, List.setIfInBounds_toArray, List.set_cons_zero, List.set_cons_succ]
      refine take_mk 8 (.pointer (some ⟨gz, q, none⟩)) rfl (by kernel_rfl) (by kernel_rfl) (by kernel_rfl) (fun _ _ _ h => h) (Or.inl ⟨by rfl, fun Z hZ => by go_simp⟩) (by assumption) ?_
      try simp only [Act.put, List.setIfInBounds_toArray, List.set_cons_zero, List.set_cons_succ]
      refine take_mk 9 (.int .i64 zv15) rfl (by kernel_rfl) (by kernel_rfl) (by kernel_rfl) (fun _ _ _ h => h) (Or.inl ⟨by rfl, fun Z hZ => by obtain ⟨y0, y1⟩ := HX15.out Z hZ; go_simp⟩) (by assumption) ?_
      try simp only [Act.put, List.setIfInBounds_toArray, List.set_cons_zero, List.set_cons_succ]
      refine take_mk 10 (.int .i64 (IntKind.i64.wrap (s + zv15))) rfl (by kernel_rfl) (by kernel_rfl) (by kernel_rfl) (fun _ _ _ h => h) (Or.inl ⟨by rfl, fun Z hZ => by go_simp⟩) (by assumption) ?_
      try simp only [Act.put, List.setIfInBounds_toArray, List.set_cons_zero, List.set_cons_succ]
      refine wpAnyH_ready (rs := [11]) (by kernel_rfl) (by simp) (AllReadyH.cons (o := ⟨_, _, _, _, _, _⟩) rfl (fun K hK => ?_) AllReadyH.nil)
      rw [if_pos (by rfl)]
      go_simp
      refine hK.out _ _ bn15 (fun _ => ?_)
      clear hK K
      try simp only [Act.put, List.setIfInBounds_toArray, List.set_cons_zero, List.set_cons_succ]
      refine take_mk 12 (.int .i64 (min (IntKind.i64.wrap (s + zv15)) 1000000)) rfl (by kernel_rfl) (by kernel_rfl) (by kernel_rfl) (fun _ _ _ h => h) (Or.inl ⟨by rfl, fun Z hZ => by go_simp⟩) (by assumption) ?_
      try simp only [Act.put, List.setIfInBounds_toArray, List.set_cons_zero, List.set_cons_succ]
      refine wpAnyH_done (by kernel_rfl) ?_ _
      try simp only [Act.put]
      have HMMW9 : Hid (Mes W1 W9 M gs gd gz N.length st5) := HMd15.out.1.keep bn15
      have HBW9 : Hid (Below W7.heap.size W7 W9) := HMd15.out.2.trans (bn15.mono HMd15.out.2.size)
      clear hHeld bn15 ht15 hWd15 HX15 HMd15
      have HBz : Hid (Below W5.heap.size W5 W9) := HBW7.out.trans (HBW9.out.mono HBW7.out.size)
      go_wp2
      go_roundw
      case rel => exact ⟨k + 1, _, _, rfl, rfl, by have := HLt.out; go_num, HLt.out, st5, by rw [HTk.out]; exact HL.out.next HM5.out.1 HM5.out.2 HZ6.out.1 HZ6.out.2.1 HZ6.out.2.2 HBz.out⟩
      case measure => have := HLt.out; simp [intOf]; omega
    · have hkI : ¬ (k : Int) < (dp.args.length : Int) := by omega
      have HL : Hid (AskL W1 W M gs gd gz N ρ st p dp.args m wr st') := by have := hL; rw [List.take_of_length_le (by omega)] at this; exact this
      obtain ⟨⟨k0, k1, k2⟩, ⟨s0, s1⟩, ⟨zd, d0, d1⟩, zz, z0, z1⟩ := hL.mes.cells HP.out.2
      obtain ⟨n1, n2, n3, n4, n5, n6⟩ := hL.mes.ne
      have hla : ∀ a ∈ dp.args, ρ a < N.length := fun a ha => HT.out.lt a (HBe.out p dp HD.out a ha)
      have HF : Hid (∀ x y : Int, AskP W1 W M gs gd gz N ρ st i (.returned (.bool true)) (((wr.setCell ⟨gd, p, none⟩ (.int .i64 x)).setCell ⟨gz, p, none⟩ (.int .i64 y)).setCell ⟨gs, p, none⟩ (.int .i64 2))) := fun x y => HL.out.last HD.out HP.out.1 HSt.out hla x y
      have m1 := Ne.symm n1
      have m2 := Ne.symm n2
      have m3 := Ne.symm n3
      have m4 := Ne.symm n4
      have m5 := Ne.symm n5
      have m6 := Ne.symm n6
      clear hL HI hargs hla
      go_wp2
      refine bodyPost_ret (v := .bool true) (by simp [results, Try.results51, go_sem]) rfl ?_
      exact HF.out _ _

end Go.Proofs.Ytiklbkkimmgbcaa
