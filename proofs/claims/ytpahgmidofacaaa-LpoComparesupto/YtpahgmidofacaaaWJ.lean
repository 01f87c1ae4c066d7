import Derived.Test.YtpahgmidofacaaaWH

/-
  byHeads.
-/
namespace Go.Proofs.Ytpahgmidofacaaa
open Go.RowKit Go.Maps

set_option maxHeartbeats 400000 in
theorem nan_any (x : Int) (w : World) : Calls Try.prog 92 #[.int .i64 x] w fun e w' => e = .returned (.bool false) ∧ w' = w := by
  go_enter Try.func92, Try.ntmps92
  go_wp2
  all_goals go_ret
  all_goals refine ⟨ret_bool ?_, rfl⟩
  all_goals simp

set_option maxHeartbeats 1000000 in
theorem cmpInt_any (x y : Int) (w : World) :
    Calls Try.prog 78 #[.int .i64 x, .int .i64 y] w fun e w' => e = .returned (.int .i64 (cI x y)) ∧ w' = w := by
  go_enter Try.func78, Try.ntmps78
  go_wp2_with (go_at_call 92; refine (nan_any _ _).mono ?_; rintro e w' ⟨rfl, rfl⟩)
  all_goals (go_ret; refine ⟨?_, rfl⟩; unfold cI Lib.compareInt; (repeat' split) <;> first | rfl | (exfalso; omega))

section
variable {g : Sg} {ρ : ByteArray × Nat → Nat} {ν : Int → Nat} {nw : Nat} {L : List T} {w0 : World} {bc bp bf bm : Nat} {vp : Value} {s : Int}

theorem take_eq_all {a b : List T} (h : a.length = b.length) (k : Nat) (hk : a.length ≤ k) (e : a.take k = b.take k) : a = b := by
  rw [List.take_of_length_le hk, List.take_of_length_le (by omega)] at e
  exact e

set_option maxRecDepth 100000 in
set_option maxHeartbeats 4000000 in
theorem byheads_any (H : Lst g ρ ν nw L) (hOk : CmpOk w0 g L bc bp bf bm vp s) {i j : Nat} (hi : i < L.length) (hj : j < L.length) (hij : i ≠ j)
    {b1 q1 : Nat} {sA1 : Value} {ar1 : List Nat} {sV1 : Value} {ws1 : List Nat} (h1 : PtAt ρ ν nw L w0 i L[i] b1 q1 sA1 ar1 sV1 ws1)
    {b2 q2 : Nat} {sA2 : Value} {ar2 : List Nat} {sV2 : Value} {ws2 : List Nat} (h2 : PtAt ρ ν nw L w0 j L[j] b2 q2 sA2 ar2 sV2 ws2)
    (n1 : L[i].fn.size ≠ 0) (n2 : L[j].fn.size ≠ 0) (hs : ∀ x ∈ L[i].args, ∀ y ∈ L[j].args, x.size + y.size ≤ s) (w : World) (hC : Cm w0 g L bc bp bf bm vp w) :
    Calls Try.prog 70 #[.pointer (some ⟨b1, q1, none⟩), .pointer (some ⟨b2, q2, none⟩), cmpF bc bp bf] w fun e W' => ∃ (o : Int) (n : Nat), e = .returned (.tuple #[.int .i64 o, .int .i64 (n : Int)]) ∧ BH g ρ L[i] L[j] o n ∧ Cm w0 g L bc bp bf bm vp W' ∧ Only [bm] w W' := by
  obtain ⟨ra1, rc1, rfl, hc1, hm1⟩ := h1.ra.slice
  obtain ⟨ra2, rc2, rfl, hc2, hm2⟩ := h2.ra.slice
  have HH : Hid (Lst g ρ ν nw L ∧ CmpOk w0 g L bc bp bf bm vp s ∧ PtAt ρ ν nw L w0 i L[i] b1 q1 (.slice ra1 ar1.length rc1) ar1 sV1 ws1 ∧ PtAt ρ ν nw L w0 j L[j] b2 q2 (.slice ra2 ar2.length rc2) ar2 sV2 ws2 ∧ (∀ x ∈ L[i].args, ∀ y ∈ L[j].args, x.size + y.size ≤ s) ∧ Cm w0 g L bc bp bf bm vp w) := ⟨H, hOk, h1, h2, hs, hC⟩
  have k1 := h1.keep hC.bel (Nat.le_refl _)
  have k2 := h2.keep hC.bel (Nat.le_refl _)
  have c1 := cell_far k1.lt k1.c1
  have d1 := cell_far k2.lt k2.c1
  obtain ⟨r1, e1⟩ : ∃ x, L[i].rk ρ = x := ⟨_, rfl⟩
  obtain ⟨r2, e2⟩ : ∃ x, L[j].rk ρ = x := ⟨_, rfl⟩
  have HE : Hid (L[i].rk ρ = r1 ∧ L[j].rk ρ = r2) := ⟨e1, e2⟩
  rw [e1] at c1
  rw [e2] at d1
  clear e1 e2
  by_cases hr : r1 = r2
  · -- one symbol
    obtain ⟨hf, hn⟩ : L[i].fn = L[j].fn ∧ L[i].args.length = L[j].args.length := by
      obtain ⟨S, R, hS⟩ := H.rk
      exact same_of_rk R n1 n2 (hS _ (List.getElem_mem hi)) (hS _ (List.getElem_mem hj)) (by rw [HE.out.1, HE.out.2, hr])
    have HN : Hid (L[i].args.length = L[j].args.length ∧ ar1.length = L[i].args.length ∧ ar2.length = L[j].args.length ∧ L[i].args ≠ L[j].args) := by
      refine ⟨hn, h1.alen, h2.alen, fun e => hij (nd_inj H.nd hi hj ?_)⟩
      have v1 : L[i].v = 0 := by
        rcases shape_cases (H.sh _ (List.getElem_mem hi)) with ⟨k, _⟩ | ⟨_, k, _⟩
        · exact absurd k n1
        · exact k
      have v2 : L[j].v = 0 := by
        rcases shape_cases (H.sh _ (List.getElem_mem hj)) with ⟨k, _⟩ | ⟨_, k, _⟩
        · exact absurd k n2
        · exact k
      exact same_ext (v1.trans v2.symm) hf e
    subst hr
    clear h1 h2 H hOk hs hC k1 k2 hf hn n1 n2
    have eg := eg47
    go_enter Try.func70, Try.ntmps70
    go_wp2
    refine wp_region_far (by kernel_rfl) ?_
    repeat (first | go_big_quiet_step (fail) | quiet_step (fail))
    refine wpQuiet_nil ?_
    intro _ hw'
    obtain ⟨pf, rfl⟩ := hw'
    have HW : Hid (Cm w0 g L bc bp bf bm vp (far w pf) ∧ Only [bm] w (far w pf)) := ⟨HH.out.2.2.2.2.2.only (below_far w pf), Only.of_below (below_far w pf)⟩
    clear c1 d1
    generalize far w pf = W1 at HW ⊢
    have c2 := (HH.out.2.2.1.keep HW.out.1.bel (Nat.le_refl _)).c2
    go_wp2
    go_loopw [33] (fun vi wr => ∃ k : Nat, vi = .int .i64 k ∧ k ≤ ar1.length ∧ wr = W1 ∧ Hid (L[i].args.take k = L[j].args.take k)) (fun vi _ => ar1.length - (intOf vi).toNat)
    case atStart => exact ⟨0, rfl, Nat.zero_le _, rfl, by show _ = _; simp⟩
    case round =>
      obtain ⟨k, rfl, hk, hwr, HT⟩ := hrel
      subst hwr
      by_cases hlt : k < ar1.length
      · have hlt2 : k < ar2.length := by have := HN.out; omega
        have hka : k < L[i].args.length := by have := HN.out; omega
        have hkb : k < L[j].args.length := by have := HN.out; omega
        obtain ⟨x1, o1, rfl, hbl, hcell⟩ := (HH.out.2.2.1.keep HW.out.1.bel (Nat.le_refl _)).ra.nth hlt
        obtain ⟨x2, o2, rfl, hbl2, hcell2⟩ := (HH.out.2.2.2.1.keep HW.out.1.bel (Nat.le_refl _)).ra.nth hlt2
        have d2 := (HH.out.2.2.2.1.keep HW.out.1.bel (Nat.le_refl _)).c2
        obtain ⟨hl1, hg1⟩ := Idx.get HH.out.2.2.1.ax hlt hka
        obtain ⟨hl2, hg2⟩ := Idx.get HH.out.2.2.2.1.ax hlt2 hkb
        have ta : L[i].args.take (k + 1) = L[i].args.take k ++ [L[i].args[k]] := List.take_succ_eq_append_getElem hka
        have tb : L[j].args.take (k + 1) = L[j].args.take k ++ [L[j].args[k]] := List.take_succ_eq_append_getElem hkb
        by_cases hx : ar1[k] = ar2[k]
        · have HT2 : Hid (L[i].args.take (k + 1) = L[j].args.take (k + 1)) := by
            show _ = _
            rw [ta, tb, HT.out, ← hg1, ← hg2]
            simp only [hx]
          have hne : ((ar1[k] : Int) != (ar2[k] : Int)) = false := by rw [hx]; simp
          clear hg1 hg2 ta tb hx
          go_wp2
          go_roundw
          case rel => exact ⟨k + 1, by go_num, by omega, trivial, HT2⟩
          case measure => simp [intOf]; omega
        · have hne : ((ar1[k] : Int) != (ar2[k] : Int)) = true := by rw [bne_iff_ne]; omega
          have hne' : ar1[k] ≠ ar2[k] := hx
          have hcall := HH.out.2.1 ar1[k] ar2[k] hl1 hl2 (by rw [hg1, hg2]; exact HH.out.2.2.2.2.1 _ (List.getElem_mem hka) _ (List.getElem_mem hkb)) wr HW.out.1
          have HB : Hid (BH g ρ L[i] L[j] (pcmp g L[ar1[k]] L[ar2[k]]) (k + 1)) := by
            refine .inr (.inr ⟨HE.out.1.trans HE.out.2.symm, L[i].args.take k, L[i].args[k], L[j].args[k], L[i].args.drop (k + 1), L[j].args.drop (k + 1), by simp, ?_, ?_, by rw [hg1, hg2], by simp; omega⟩)
            · rw [HT.out]; simp
            · rw [← hg1, ← hg2]
              exact fun e => hx (nd_inj HH.out.1.nd hl1 hl2 e)
          clear hg1 hg2 ta tb hx
          generalize pcmp g L[ar1[k]] L[ar2[k]] = z at hcall HB
          go_wp2_with (first | (go_at_fn 47; refine hcall.mono ?_; rintro e W2 ⟨rfl, hC2, hO2⟩; have HD : Hid (Cm w0 g L bc bp bf bm vp W2 ∧ Only [bm] wr W2) := ⟨hC2, hO2⟩; clear hC2 hO2))
          (try simp only [Exit.inBlock, Exit.then]); refine bodyPost_ret (results_tmp2 rfl _ _ _) rfl ?_
          exact ⟨z, k + 1, by go_num, HB.out, HD.out.1, HW.out.2.trans HD.out.2 (by simp)⟩
      · exfalso
        have hn := HN.out
        exact hn.2.2.2 (take_eq_all hn.1 k (by omega) HT.out)
  · -- two symbols
    have hcm : ∀ W, Below w.heap.size w W → Calls Try.prog 78 #[.int .i64 (r1 : Int), .int .i64 (r2 : Int)] W fun e w' => e = .returned (.int .i64 (cI r1 r2)) ∧ Below W.heap.size W w' := fun W _ => (cmpInt_any r1 r2 W).mono fun e w' ⟨h1, h2⟩ => ⟨h1, h2 ▸ Below.refl _ _⟩
    have HB : Hid (BH g ρ L[i] L[j] (cI r1 r2) 0) := by
      show BH _ _ _ _ _ _
      unfold BH cI Lib.compareInt
      rw [HE.out.1, HE.out.2]
      rcases Nat.lt_trichotomy r1 r2 with h | h | h
      · rw [if_pos (by omega)]
        exact .inr (.inl ⟨h, rfl, rfl⟩)
      · exact absurd h hr
      · rw [if_neg (by omega), if_pos (by omega)]
        exact .inl ⟨h, rfl, rfl⟩
    have hne : ((r1 : Int) != (r2 : Int)) = true := by rw [bne_iff_ne]; omega
    have hne2 : (r1 != r2) = true := by rw [bne_iff_ne]; exact hr
    generalize cI (r1 : Int) (r2 : Int) = z at hcm HB
    clear h1 h2 H hOk hs hC k1 k2 n1 n2 hr
    go_enter Try.func70, Try.ntmps70
    go_wp2
    refine wp_region_far (by kernel_rfl) ?_
    repeat (first | go_big_quiet_step (fail) | quiet_step (fail))
    refine wpQuiet_nil ?_
    intro _ hw'
    obtain ⟨pf, rfl⟩ := hw'
    have hW := below_far w pf
    have k1 := (HH.out.2.2.1.keep HH.out.2.2.2.2.2.bel (Nat.le_refl _)).keep hW (Nat.le_refl _)
    have k2 := (HH.out.2.2.2.1.keep HH.out.2.2.2.2.2.bel (Nat.le_refl _)).keep hW (Nat.le_refl _)
    have HW : Hid (Below w.heap.size w (far w pf)) := hW
    have hcm2 : ∀ W, Below (far w pf).heap.size (far w pf) W → Calls Try.prog 78 #[.int .i64 (r1 : Int), .int .i64 (r2 : Int)] W fun e w' => e = .returned (.int .i64 z) ∧ Below W.heap.size W w' := fun W hb => hcm W (hW.trans (hb.mono hW.size))
    clear c1 d1 hcm hW
    have c1 := cell_far k1.lt k1.c1
    have d1 := cell_far k2.lt k2.c1
    rw [HE.out.1] at c1
    rw [HE.out.2] at d1
    clear k1 k2
    generalize far w pf = W1 at HW hcm2 c1 d1 ⊢
    go_wp2
    refine wp_region_far (by kernel_rfl) ?_
    repeat (first | go_big_quiet_step (exact calls_far hcm2 _) | quiet_step (exact calls_far hcm2 _))
    refine wpQuiet_nil ?_
    intro _ hw'
    obtain ⟨pf2, rfl⟩ := hw'
    go_wp2
    (try simp only [Exit.inBlock, Exit.then]); refine bodyPost_ret (results_tmp2 rfl _ _ _) rfl ?_
    have hb2 := HW.out.trans ((below_far W1 pf2).mono HW.out.size)
    exact ⟨z, 0, rfl, HB.out, HH.out.2.2.2.2.2.only hb2, Only.of_below hb2⟩
end

end Go.Proofs.Ytpahgmidofacaaa

/-
  decide.
-/
namespace Go.Proofs.Ytpahgmidofacaaa
open Go.RowKit Go.Maps

/-- The last ones of a row. -/
theorem RowAt.dropV {α : Type} {f : α → Value} {W : World} {l : List α} {a : Option Addr} {c : Nat} (h : RowAt f W (.slice a l.length c) l) (n : Nat) (hn : n ≤ l.length) : RowAt f W (.slice (if c = n then a else a.map (·.add n)) (l.length - n) (c - n)) (l.drop n) := by
  obtain ⟨a', c', h1, h2, h3, h4⟩ := h
  cases h1
  refine ⟨_, c - n, by rw [List.length_drop], by rw [List.length_drop]; omega, by omega, fun h0 => ?_⟩
  rw [List.length_drop] at h0
  obtain ⟨b, o, hlt, rfl, hc⟩ := h4 (by omega)
  refine ⟨b, o + n, hlt, ?_, fun i hi => ?_⟩
  · rw [if_neg (by omega)]
    show some (Addr.add _ n) = _
    unfold Addr.add
    by_cases hz : n = 0
    · subst hz; rfl
    · rw [if_neg hz]
  · have := hc (n + i) (by rw [List.length_drop] at hi; omega)
    rw [List.getElem_drop, Nat.add_assoc]
    exact this

section
variable {g : Sg} {ρ : ByteArray × Nat → Nat} {ν : Int → Nat} {nw : Nat} {L : List T} {w0 : World} {bc bp bf bm : Nat} {vp : Value} {s : Int}

set_option maxRecDepth 100000 in
set_option maxHeartbeats 4000000 in
theorem decide_any (H : Lst g ρ ν nw L) (hOk : CmpOk w0 g L bc bp bf bm vp s) {i j : Nat} (hi : i < L.length) (hj : j < L.length) (hij : i ≠ j)
    {b1 q1 : Nat} {sA1 : Value} {ar1 : List Nat} {sV1 : Value} {ws1 : List Nat} (h1 : PtAt ρ ν nw L w0 i L[i] b1 q1 sA1 ar1 sV1 ws1)
    {b2 q2 : Nat} {sA2 : Value} {ar2 : List Nat} {sV2 : Value} {ws2 : List Nat} (h2 : PtAt ρ ν nw L w0 j L[j] b2 q2 sA2 ar2 sV2 ws2)
    (n1 : L[i].fn.size ≠ 0) (n2 : L[j].fn.size ≠ 0) (hs : L[i].size + L[j].size ≤ s + 1) (w : World) (hC : Cm w0 g L bc bp bf bm vp w) :
    Calls Try.prog 50 #[.pointer (some ⟨b1, q1, none⟩), .pointer (some ⟨b2, q2, none⟩), cmpF bc bp bf] w fun e W' => e = .returned (.int .i64 (pcmp g L[i] L[j])) ∧ Cm w0 g L bc bp bf bm vp W' ∧ Only [bm] w W' := by
  have hcall := byheads_any H hOk hi hj hij h1 h2 n1 n2 (fun x hx y hy => by have := arg_lt hx; have := arg_lt hy; omega) w hC
  obtain ⟨ra1, rc1, rfl, hc1, hm1⟩ := h1.ra.slice
  obtain ⟨ra2, rc2, rfl, hc2, hm2⟩ := h2.ra.slice
  have HH : Hid (Lst g ρ ν nw L ∧ CmpOk w0 g L bc bp bf bm vp s ∧ PtAt ρ ν nw L w0 i L[i] b1 q1 (.slice ra1 ar1.length rc1) ar1 sV1 ws1 ∧ PtAt ρ ν nw L w0 j L[j] b2 q2 (.slice ra2 ar2.length rc2) ar2 sV2 ws2 ∧ L[i].size + L[j].size ≤ s + 1 ∧ L[i].fn.size ≠ 0 ∧ L[j].fn.size ≠ 0) := ⟨H, hOk, h1, h2, hs, n1, n2⟩
  clear H hOk h1 h2 hs n1 n2 hC
  go_enter Try.func50, Try.ntmps50
  go_wp2_with fail
  refine hcall.mono ?_
  rintro e W1 ⟨o, n, rfl, hBH, hC1, hO1⟩
  obtain ⟨hn1, hn2, hdec⟩ := dec_all HH.out.1 (List.getElem_mem hi) (List.getElem_mem hj) HH.out.2.2.2.2.2.1 HH.out.2.2.2.2.2.2 hBH
  have l1 := HH.out.2.2.1.alen
  have l2 := HH.out.2.2.2.1.alen
  have m1 : (n : Int) ≤ (ar1.length : Int) := by omega
  have m2 : (n : Int) ≤ (ar2.length : Int) := by omega
  have HX : Hid (Cm w0 g L bc bp bf bm vp W1 ∧ Only [bm] w W1 ∧ (n ≤ ar1.length ∧ n ≤ ar2.length)) := ⟨hC1, hO1, by omega, by omega⟩
  have k1 := HH.out.2.2.1.keep hC1.bel (Nat.le_refl _)
  have k2 := HH.out.2.2.2.1.keep hC1.bel (Nat.le_refl _)
  have c2 := cell_far k1.lt k1.c2
  have d2 := cell_far k2.lt k2.c2
  clear hcall hBH hC1 hO1 k1 k2 l1 l2 hn1 hn2
  have HDec : Hid _ := hdec
  clear hdec
  go_wp2
  refine wp_region_far (by kernel_rfl) ?_
  repeat (first | go_big_quiet_step (fail) | quiet_step (fail))
  refine wpQuiet_nil ?_
  intro _ hw'
  obtain ⟨pf, rfl⟩ := hw'
  have hbf := below_far W1 pf
  have R1 := HH.out.2.2.1.ra.dropV n HX.out.2.2.1
  have R2 := HH.out.2.2.2.1.ra.dropV n HX.out.2.2.2
  have I1 : Idx L (ar1.drop n) (L[i].args.drop n) := Idx.drop HH.out.2.2.1.ax n
  have I2 : Idx L (ar2.drop n) (L[j].args.drop n) := Idx.drop HH.out.2.2.2.1.ax n
  have hC2 := HX.out.1.only hbf
  have HO : Hid (Only [bm] w (far W1 pf)) := HX.out.2.1.trans (Only.of_below (B := [bm]) hbf) (by simp)
  generalize (if rc1 = n then ra1 else Option.map (fun x => x.add n) ra1) = x1 at R1 ⊢
  generalize (if rc2 = n then ra2 else Option.map (fun x => x.add n) ra2) = x2 at R2 ⊢
  have s1 : ∀ t ∈ L[i].args.drop n, t.size + L[j].size ≤ s := fun t ht => by
    have := arg_lt (List.mem_of_mem_drop ht)
    have := HH.out.2.2.2.2.1
    omega
  have s2 : ∀ t ∈ L[j].args.drop n, t.size + L[i].size ≤ s := fun t ht => by
    have := arg_lt (List.mem_of_mem_drop ht)
    have := HH.out.2.2.2.2.1
    omega
  have ov1 := over_any HH.out.2.1 hi HH.out.2.2.1 (ar2.drop n) _ _ I2 R2 (fun t ht => by have := s2 t ht; omega) _ hC2
  have ov2 := over_any HH.out.2.1 hj HH.out.2.2.2.1 (ar1.drop n) _ _ I1 R1 (fun t ht => by have := s1 t ht; omega) _ hC2
  have re1 := reach_any HH.out.2.1 hj HH.out.2.2.2.1 (ar1.drop n) _ _ I1 R1 s1 _ hC2
  have re2 := fun W hW => reach_any HH.out.2.1 hi HH.out.2.2.1 (ar2.drop n) _ _ I2 R2 s2 W hW
  have q1 := rch_any (g := g) (b := L[j]) I1
  have q2 := rch_any (g := g) (b := L[i]) I2
  clear c2 d2 R1 R2 I1 I2 s1 s2 hC2 hbf m1 m2
  generalize far W1 pf = W2 at ov1 ov2 re1 HO ⊢
  rcases HDec.out with ⟨rfl, k⟩ | ⟨rfl, k⟩ | ⟨h1, h2, k1, k⟩ | ⟨h1, h2, k1, k2, k⟩ | ⟨h1, h2, k1, k2, k⟩
  · rw [k] at ov1
    clear k ov2 re1 re2 q1 q2 HDec
    go_wp2_with (first | (go_at_call 71; refine ov1.mono ?_; rintro e W3 ⟨rfl, hC3, hO3⟩; have HD : Hid (Cm w0 g L bc bp bf bm vp W3 ∧ Only [bm] W2 W3) := ⟨hC3, hO3⟩; clear hC3 hO3))
    go_ret
    exact ⟨rfl, HD.out.1, HO.out.trans HD.out.2 (by simp)⟩
  · have hr : -2 ≤ ovr g L[j] (L[i].args.drop n) ∧ ovr g L[j] (L[i].args.drop n) ≤ 2 := by
      unfold ovr
      split
      · omega
      · split <;> omega
    have ht := turned_any _ hr
    rw [k] at ht
    clear k ov1 re1 re2 q1 q2 HDec hr
    go_wp2_with fail
    refine ov2.mono ?_
    rintro e W3 ⟨rfl, hC3, hO3⟩
    have HD : Hid (Cm w0 g L bc bp bf bm vp W3 ∧ Only [bm] W2 W3) := ⟨hC3, hO3⟩
    clear hC3 hO3
    go_wp2_with fail
    refine (ht W3).mono ?_
    rintro e W4 ⟨rfl, hW4⟩
    subst hW4
    go_wp2
    go_ret
    exact ⟨rfl, HD.out.1, HO.out.trans HD.out.2 (by simp)⟩
  all_goals
    have g1 : (o == 1) = false := by rw [beq_eq_false_iff_ne]; exact h1
    have g2 : (o == -1) = false := by rw [beq_eq_false_iff_ne]; exact h2
    clear h1 h2 ov1 ov2 HDec
  · rw [q1.2 k1] at re1
    have HV : Hid (pcmp g L[i] L[j] = 1) := k
    clear k k1 q1 q2 re2
    go_wp2_with fail
    refine re1.mono ?_
    rintro e W3 ⟨rfl, hC3, hO3⟩
    have HD : Hid (Cm w0 g L bc bp bf bm vp W3 ∧ Only [bm] W2 W3) := ⟨hC3, hO3⟩
    clear hC3 hO3
    go_wp2
    go_ret
    exact ⟨ret_i64 HV.out.symm, HD.out.1, HO.out.trans HD.out.2 (by simp)⟩
  · have e1 : (ar1.drop n).any (rqL g L L[j]) = false := by
      cases e : (ar1.drop n).any (rqL g L L[j])
      · rfl
      · exact absurd (q1.1 e) k1
    rw [e1] at re1
    rw [q2.2 k2] at re2
    have HV : Hid (pcmp g L[i] L[j] = -1) := k
    clear k k1 k2 q1 q2 e1
    go_wp2_with fail
    refine re1.mono ?_
    rintro e W3 ⟨rfl, hC3, hO3⟩
    have re2' := re2 W3 hC3
    have HD : Hid (Cm w0 g L bc bp bf bm vp W3 ∧ Only [bm] W2 W3) := ⟨hC3, hO3⟩
    clear hC3 hO3 re2
    go_wp2_with fail
    refine re2'.mono ?_
    rintro e W4 ⟨rfl, hC4, hO4⟩
    have HD2 : Hid (Cm w0 g L bc bp bf bm vp W4 ∧ Only [bm] W3 W4) := ⟨hC4, hO4⟩
    clear hC4 hO4
    go_wp2
    go_ret
    exact ⟨ret_i64 HV.out.symm, HD2.out.1, (HO.out.trans HD.out.2 (by simp)).trans HD2.out.2 (by simp)⟩
  · have e1 : (ar1.drop n).any (rqL g L L[j]) = false := by
      cases e : (ar1.drop n).any (rqL g L L[j])
      · rfl
      · exact absurd (q1.1 e) k1
    have e2 : (ar2.drop n).any (rqL g L L[i]) = false := by
      cases e : (ar2.drop n).any (rqL g L L[i])
      · rfl
      · exact absurd (q2.1 e) k2
    rw [e1] at re1
    rw [e2] at re2
    have HV : Hid (pcmp g L[i] L[j] = 2) := k
    clear k k1 k2 q1 q2 e1 e2
    go_wp2_with fail
    refine re1.mono ?_
    rintro e W3 ⟨rfl, hC3, hO3⟩
    have re2' := re2 W3 hC3
    have HD : Hid (Cm w0 g L bc bp bf bm vp W3 ∧ Only [bm] W2 W3) := ⟨hC3, hO3⟩
    clear hC3 hO3 re2
    go_wp2_with fail
    refine re2'.mono ?_
    rintro e W4 ⟨rfl, hC4, hO4⟩
    have HD2 : Hid (Cm w0 g L bc bp bf bm vp W4 ∧ Only [bm] W3 W4) := ⟨hC4, hO4⟩
    clear hC4 hO4
    go_wp2
    go_ret
    exact ⟨ret_i64 HV.out.symm, HD2.out.1, (HO.out.trans HD.out.2 (by simp)).trans HD2.out.2 (by simp)⟩
end

end Go.Proofs.Ytpahgmidofacaaa
