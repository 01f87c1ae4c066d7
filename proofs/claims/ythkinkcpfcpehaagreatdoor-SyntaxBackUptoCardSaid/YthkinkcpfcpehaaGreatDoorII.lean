import Derived.Test.YthkinkcpfcpehaaGreatDoorIE
namespace Go.Proofs.YthkinkcpfcpehaaGreatDoor
set_option maxRecDepth 100000
set_option maxHeartbeats 16000000
section
open Go.RowKit Go.Maps
theorem MapIs.zero {W : World} {b : Nat} {m : Value → Option Value} (h : MapIs W 9 b m 0) {s : ByteArray} (hs : s.size ≤ maxLen) : m (.string s) = none := by
  obtain ⟨D, -, hsz, hk⟩ := h
  obtain ⟨h1, -⟩ := hk (.string s) _ (key9 hs)
  cases hm : m (.string s) with
  | none => rfl
  | some v =>
    have h2 := (h1 v hm).1
    exfalso
    cases D with
    | map es =>
      have : es = [] := List.eq_nil_of_length_eq_zero (by simpa [Maps.size] using hsz)
      subst this
      simp [Maps.has] at h2
    | _ => simp [Maps.has] at h2
theorem free_open {P : Nat → Prop} {f : Fm} (hsh : shB f = true) (hcl : ¬ clF (fun _ => 0) f) (hn : f.nsm) (hz : f.size ≤ 1000000) {sl sr sk : Value} {w : World} (h : FmP P w f sl sr sk) (hP : ∀ k, P k → k < w.heap.size) :
    Calls Tryz.prog 19 #[fval f sl sr sk] w fun e w' => ∃ a k c, e = .returned (.slice a k c) ∧ 0 < k ∧ k ≤ 4194304 ∧ Below w.heap.size w w' := by
  have hb0 := below_box w (fbox f sl sr sk)
  have hz0 := (MapKept.heap_alloc w (fbox f sl sr sk)).1
  have hs0 : (w.alloc (fbox f sl sr sk)).heap.size = w.heap.size + 1 := World.size_alloc _ _
  have hf0 : FmP (fun k => k < w.heap.size) (w.alloc (fbox f sl sr sk)) f sl sr sk := h.keep hb0.size (fun k hk hl => ⟨hP k hk, hb0.block k hl⟩)
  obtain ⟨la, lc, rfl, _, _⟩ := h.l.slice'
  obtain ⟨ra, rc, rfl, _, _⟩ := h.r.slice'
  obtain ⟨ka, kc', rfl, _, _⟩ := h.k.slice
  obtain ⟨W0, hW0⟩ : ∃ X : World, w.alloc (fbox f (.slice la f.l.args.length lc) (.slice ra f.r.args.length rc) (.slice ka f.kids.length kc')) = X := ⟨_, rfl⟩
  obtain ⟨R, hR⟩ : ∃ R, w.heap.size = R := ⟨_, rfl⟩
  rw [hW0] at hb0 hz0 hs0 hf0
  rw [hR] at hb0 hz0 hs0 hf0
  have hsc := newScope_any W0
  have HW0 := hidR hW0
  have HR := hidR hR
  have HC := hidR (And.intro hcl (And.intro hn (And.intro hz hsh)))
  have H0 := hidR (And.intro hb0 (And.intro hz0 (And.intro hs0 hf0)))
  clear h hP hcl hn hz hb0 hz0 hs0 hf0 hW0 hsh
  go_enter Tryz.func19, Tryz.ntmps19
  go_upto_region 1 with fail
  try simp only [hR]
  rw [show _ = W0 from HW0.out]
  clear HW0 hR
  go_wp2_with fail
  refine hsc.mono ?_
  rintro e W1 ⟨mb, mm, rfl, hne, hmb, hmm, n1, n2, hb1⟩
  have hbS := below_box W1 (.cells #[.map (some mb), .map (some mm)] 52)
  have hzS := (MapKept.heap_alloc W1 (.cells #[.map (some mb), .map (some mm)] 52)).1
  have hs1 := hb1.size
  have hs0 := H0.out.2.2.1
  have hm1 := n1.lt
  have hm2 := n2.lt
  obtain ⟨S, hS⟩ : ∃ S, W1.heap.size = S := ⟨_, rfl⟩
  obtain ⟨W2, hW2⟩ : ∃ X : World, W1.alloc (.cells #[.map (some mb), .map (some mm)] 52) = X := ⟨_, rfl⟩
  have hs2 : W2.heap.size = S + 1 := by rw [← hW2, World.size_alloc, hS]
  rw [hW2] at hbS hzS
  rw [hS] at hzS
  have hzR2 : W2.heap[R]? = some (fbox f (.slice la f.l.args.length lc) (.slice ra f.r.args.length rc) (.slice ka f.kids.length kc')) := (hbS.block R (by omega)).trans ((hb1.block R (by omega)).trans H0.out.2.1)
  have hb3 := below_box W2 (fbox f (.slice la f.l.args.length lc) (.slice ra f.r.args.length rc) (.slice ka f.kids.length kc'))
  have hz3 := (MapKept.heap_alloc W2 (fbox f (.slice la f.l.args.length lc) (.slice ra f.r.args.length rc) (.slice ka f.kids.length kc'))).1
  obtain ⟨W3, hW3⟩ : ∃ X : World, W2.alloc (fbox f (.slice la f.l.args.length lc) (.slice ra f.r.args.length rc) (.slice ka f.kids.length kc')) = X := ⟨_, rfl⟩
  rw [hW3] at hb3 hz3
  rw [hs2] at hz3
  have hf3 : FmP (fun k => k ≠ mb ∧ k ≠ mm) W3 f (.slice la f.l.args.length lc) (.slice ra f.r.args.length rc) (.slice ka f.kids.length kc') := H0.out.2.2.2.keep (by have := hb3.size; omega) (fun k hk hl => ⟨by omega, (hb3.block k (by omega)).trans ((hbS.block k (by omega)).trans (hb1.block k hl))⟩)
  have hks := kids_one hz3 (show S + 1 ≠ mb ∧ S + 1 ≠ mm by omega) hf3
  have hsz0 : Fm.size.sizes [f] = f.size := by rw [Fm.size.sizes, Fm.size.sizes, Int.add_zero]
  have hma := meetAlld_any (mb := mb) (mm := mm) hne [f] (fun _ => none) (fun _ => none) 0 0 0 W3 _ (fun a ha => by simp only [List.mem_singleton] at ha; subst ha; exact HC.out.2.2.2) (fun s => ⟨by simp, by simp⟩) (by rw [hsz0]; have := HC.out.2.2.1; omega) (by rw [hsz0]; have := HC.out.2.2.1; omega) (by rw [hsz0]; have := HC.out.2.2.1; omega) (fun a ha => by simp only [List.mem_singleton] at ha; subst ha; exact HC.out.2.1) (n1.same ((hb3.block mb (by omega)).trans (hbS.block mb hm1))) ⟨n2.same ((hb3.block mm (by omega)).trans (hbS.block mm hm2)), fun s => ⟨by simp, by simp⟩⟩ hks
  have HX : Hid (Below R w W3 ∧ W3.heap[S]? = some (.cells #[.map (some mb), .map (some mm)] 52 (0, 0)) ∧ mb ≠ mm ∧ S ≠ mb ∧ S ≠ mm ∧ R ≤ mb ∧ R ≤ mm) := by
    refine ⟨H0.out.1.trans ((hb1.trans ((hbS.trans (hb3.mono hbS.size)).mono hs1)).mono (by omega)), (hb3.block S (by omega)).trans hzS, hne, by omega, by omega, by omega, by omega⟩
  have HW2 := hidR hW2
  have HW3 := hidR hW3
  have s0 : W2.cell? ⟨S, 0, none⟩ = some (.map (some mb)) := cell_store (vs := [_, _]) hzS rfl
  have s1 : W2.cell? ⟨S, 1, none⟩ = some (.map (some mm)) := cell_store (vs := [_, _]) hzS rfl
  obtain ⟨⟨g0, g1, g2, g3, g4, g5, g6, g7, g8⟩, -⟩ := f_cells hzR2
  have HSS := hidR hs2
  have HSZ := hidR hsz0
  clear hsc hne hmb hmm n1 n2 hb1 hbS hzS hs1 hs0 hm1 hm2 hW2 hW3 hzR2 hb3 hz3 hf3 hks hsz0 H0
  go_upto_region 2 with fail
  try simp only [hS]
  rw [show _ = W2 from HW2.out]
  clear HW2 hS hs2
  have hma' : Calls Tryz.prog 45 #[.agg #[.map (some mb), .map (some mm)], .slice (some ⟨W2.heap.size, 0, none⟩) 1 1] (W2.alloc (fbox f (.slice la f.l.args.length lc) (.slice ra f.r.args.length rc) (.slice ka f.kids.length kc'))) (MAQ mb mm (fun _ => none) (fun _ => none) 0 0 [f] W3) := by
    rw [HSS.out, HW3.out]
    exact hma
  clear hma HW3
  go_wp2_with fail
  refine hma'.mono ?_
  rintro e W4 ⟨rfl, -, -, g', k', -, -, -, ht4, hk4, ho4, he4⟩
  have hzS4 : W4.heap[S]? = some (.cells #[.map (some mb), .map (some mm)] 52 (0, 0)) := (ho4.block S (Array.getElem?_eq_some_iff.1 HX.out.2.1).1 (by have := HX.out.2.2.2; simp; omega)).trans HX.out.2.1
  obtain ⟨k, hk, hmap⟩ := ht4.nm.m
  have hk0 : 0 < k ∧ k ≤ 4194304 := by
    refine ⟨?_, ?_⟩
    · rcases Nat.eq_zero_or_pos k with e | e
      · exfalso
        subst e
        have hE : Emp g' := fun s hs => by
          have h1 := hmap.zero hs
          cases hg : g' s with
          | none => rfl
          | some c => rw [smp, hg] at h1; cases h1
        exact HC.out.1 ((he4 hE).2 f (by simp))
      · exact e
    · have h1 := HC.out.2.2.1
      have h2 := HSZ.out
      rw [h2] at hk4
      omega
  have HK0 := hidR hk0
  have hky := keys_any (some mm) W4
  have hst := sorted_keys hmap hk0.2
  have s1' : W4.cell? ⟨S, 1, none⟩ = some (.map (some mm)) := cell_store (vs := [_, _]) hzS4 rfl
  have HB4 : Hid (Below w.heap.size w W4) := by
    show Below _ _ _
    rw [HR.out]
    exact HX.out.1.trans ⟨ho4.os, ho4.tape, ho4.output, ho4.size, fun j hj => ho4.block j (by have h1 := HX.out.1.size; have h2 : w.heap.size = R := HR.out; omega) (by have := HX.out.2.2.2.2.2; simp; omega)⟩
  clear hma' ho4 hzS4 ht4 hmap hk hk0 hk4 he4 s0 s1 g0 g1 g2 g3 g4 g5 g6 g7 g8
  go_wp2_with fail
  refine hky.mono ?_
  rintro e W5 ⟨rfl, rfl⟩
  clear hky
  go_wp2_with fail
  refine hst.mono ?_
  rintro e W6 ⟨a, c, rfl, hb6⟩
  have HF : Hid (Below w.heap.size w W6) := HB4.out.trans (hb6.mono HB4.out.size)
  clear hst hb6
  go_wp2
  go_ret
  exact ⟨a, k, c, rfl, HK0.out.1, HK0.out.2, HF.out⟩
end
section
open Go.RowKit
def SelfAt (f : Fm) : Prop := ∀ (P Q : Nat → Prop) (sl sr sk sl2 sr2 sk2 : Value) (w : World), FmP P w f sl sr sk → FmP Q w f sl2 sr2 sk2 → Calls Tryz.prog 20 #[fval f sl sr sk, fval f sl2 sr2 sk2] w fun e w' => e = .returned (.bool true) ∧ Below w.heap.size w w'
theorem eqff_self {l : List Fm} (ih : ∀ a ∈ l, SelfAt a) {P Q : Nat → Prop} {ka kb : Option Addr} {c d : Nat} {w : World} (ha : KidsP P w (.slice ka l.length c) l) (hb : KidsP Q w (.slice kb l.length d) l) (hc : l.length ≤ 9223372036854775807) :
    Calls Tryz.prog 49 #[.slice ka l.length c, .slice kb l.length d, .func (.func 20) #[] #[]] w fun e w' => e = .returned (.bool true) ∧ Below w.heap.size w w' := by
  have h3 : ((l.length : Int) != (l.length : Int)) = false := by simp
  go_enter Tryz.func49, Tryz.ntmps49
  go_wp2
  go_loopw [17] (fun i wr => ∃ k : Nat, k ≤ l.length ∧ i = .int .i64 k ∧ Hid (Below w.heap.size w wr)) (fun i _ => l.length - (intOf i).toNat)
  case atStart => exact ⟨0, Nat.zero_le _, rfl, Below.refl _ _⟩
  case round =>
    obtain ⟨k, hk, rfl, hw⟩ := hrel
    have hs1 := ha.grow hw.out
    have hs2 := hb.grow hw.out
    by_cases hlt : k < l.length
    · obtain ⟨b, o, sl, sr, sk, rfl, _, hlt2, ⟨z0, z1, ⟨z2, z3, z4⟩, ⟨z5, z6, z7⟩, z8⟩, hss⟩ := hs1.nth hlt
      obtain ⟨b', o', sl2, sr2, sk2, rfl, _, hlt2', ⟨v0, v1, ⟨v2, v3, v4⟩, ⟨v5, v6, v7⟩, v8⟩, hss2⟩ := hs2.nth hlt
      obtain ⟨a1, c1, rfl, _, _⟩ := hss.l.slice'
      obtain ⟨a2, c2, rfl, _, _⟩ := hss.r.slice'
      obtain ⟨a3, c3, rfl, _, _⟩ := hss.k.slice
      obtain ⟨a4, c4, rfl, _, _⟩ := hss2.l.slice'
      obtain ⟨a5, c5, rfl, _, _⟩ := hss2.r.slice'
      obtain ⟨a6, c6, rfl, _, _⟩ := hss2.k.slice
      have hbx := below_box2 wr (fbox l[k] (.slice a1 l[k].l.args.length c1) (.slice a2 l[k].r.args.length c2) (.slice a3 l[k].kids.length c3)) (fbox l[k] (.slice a4 l[k].l.args.length c4) (.slice a5 l[k].r.args.length c5) (.slice a6 l[k].kids.length c6))
      have hb1 := below_box wr (fbox l[k] (.slice a1 l[k].l.args.length c1) (.slice a2 l[k].r.args.length c2) (.slice a3 l[k].kids.length c3))
      have hz1 := (MapKept.heap_alloc wr (fbox l[k] (.slice a1 l[k].l.args.length c1) (.slice a2 l[k].r.args.length c2) (.slice a3 l[k].kids.length c3))).1
      have hcl := ih l[k] (List.getElem_mem hlt) _ _ _ _ _ _ _ _ _ (hss.grow hbx) (hss2.grow hbx)
      generalize l[k] = u at z0 z1 z2 z3 z4 z5 z6 z7 z8 v0 v1 v2 v3 v4 v5 v6 v7 v8 hcl hbx hb1 hz1
      obtain ⟨W1, hW1⟩ : ∃ X : World, wr.alloc (fbox u (.slice a1 u.l.args.length c1) (.slice a2 u.r.args.length c2) (.slice a3 u.kids.length c3)) = X := ⟨_, rfl⟩
      rw [hW1] at hbx hcl hb1 hz1
      obtain ⟨W2, hW2⟩ : ∃ X : World, W1.alloc (fbox u (.slice a4 u.l.args.length c4) (.slice a5 u.r.args.length c5) (.slice a6 u.kids.length c6)) = X := ⟨_, rfl⟩
      have hb2 := below_box W1 (fbox u (.slice a4 u.l.args.length c4) (.slice a5 u.r.args.length c5) (.slice a6 u.kids.length c6))
      have hz2 := (MapKept.heap_alloc W1 (fbox u (.slice a4 u.l.args.length c4) (.slice a5 u.r.args.length c5) (.slice a6 u.kids.length c6))).1
      rw [hW2] at hbx hcl hb2 hz2
      have hz1' := (hb2.block wr.heap.size (Array.getElem?_eq_some_iff.1 hz1).1).trans hz1
      obtain ⟨⟨p0, p1, p2, p3, p4, p5, p6, p7, p8⟩, -⟩ := f_cells hz1'
      obtain ⟨⟨q0, q1, q2, q3, q4, q5, q6, q7, q8⟩, -⟩ := f_cells hz2
      have w0 := kc hb1 hlt2' v0
      have w1 := kc hb1 hlt2' v1
      have w2 := kc hb1 hlt2' v2
      have w3 := kc hb1 hlt2' v3
      have w4 := kc hb1 hlt2' v4
      have w5 := kc hb1 hlt2' v5
      have w6 := kc hb1 hlt2' v6
      have w7 := kc hb1 hlt2' v7
      have w8 := kc hb1 hlt2' v8
      have HB : Hid (Below wr.heap.size wr W2 ∧ wr.heap.size ≤ W2.heap.size) := ⟨hbx, hbx.size⟩
      have HH := hw
      have HW1 := hidR hW1
      have HW2 := hidR hW2
      clear ha hb hs1 hs2 hss hss2 hbx hb1 hb2 hz1 hz2 hz1' hW1 hW2 v0 v1 v2 v3 v4 v5 v6 v7 v8 hw
      go_upto_region 6 with fail
      rw [show _ = W1 from HW1.out]
      go_upto_region 7 with fail
      rw [show _ = W2 from HW2.out]
      clear HW1 HW2
      go_wp2_with fail
      refine hcl.mono ?_
      rintro e W3 ⟨rfl, hb3⟩
      have HN : Hid (Below w.heap.size w W3) := HH.out.trans ((HB.out.1.trans (hb3.mono HB.out.2)).mono HH.out.size)
      clear hcl hb3 z0 z1 z2 z3 z4 z5 z6 z7 z8 w0 w1 w2 w3 w4 w5 w6 w7 w8 p0 p1 p2 p3 p4 p5 p6 p7 p8 q0 q1 q2 q3 q4 q5 q6 q7 q8
      go_wp2
      go_roundw
      case rel => exact ⟨k + 1, by omega, by go_num, HN.out⟩
      case measure => simp [intOf]; omega
    · clear hs1 hs2 ha hb
      go_wp2
      go_ret
      exact ⟨rfl, hw.out⟩
theorem fsame_self (f : Fm) : SelfAt f := by
  refine Fm.ind (P := SelfAt) (fun f ih => ?_) f
  intro P Q sl sr sk sl2 sr2 sk2 w h h2
  obtain ⟨la, lc, rfl, _, _⟩ := h.l.slice'
  obtain ⟨ra, rc, rfl, _, _⟩ := h.r.slice'
  obtain ⟨ka, kd1, rfl, hkc, hkm⟩ := h.k.slice
  obtain ⟨la2, lc2, rfl, _, _⟩ := h2.l.slice'
  obtain ⟨ra2, rc2, rfl, _, _⟩ := h2.r.slice'
  obtain ⟨ka2, kd2, rfl, _, _⟩ := h2.k.slice
  have hkm' : kd1 ≤ 9223372036854775807 := by unfold maxLen at hkm; omega
  obtain ⟨n, hn⟩ : ∃ n, f.kids.length = n := ⟨_, rfl⟩
  have HN := hidR hn
  have HA1 : Hid (∀ X, Below w.heap.size w X → FmP P X f (.slice la f.l.args.length lc) (.slice ra f.r.args.length rc) (.slice ka f.kids.length kd1)) := fun X hX => h.grow hX
  have HA2 : Hid (∀ X, Below w.heap.size w X → FmP Q X f (.slice la2 f.l.args.length lc2) (.slice ra2 f.r.args.length rc2) (.slice ka2 f.kids.length kd2)) := fun X hX => h2.grow hX
  have HG := hidR ih
  rw [hn] at hkc HA1 HA2 ⊢
  have hnl : n ≤ 9223372036854775807 := by omega
  obtain ⟨R, hR⟩ : ∃ R, w.heap.size = R := ⟨_, rfl⟩
  have hs1 : (w.alloc (fbox f (.slice la f.l.args.length lc) (.slice ra f.r.args.length rc) (.slice ka n kd1))).heap.size = R + 1 := by rw [World.size_alloc, hR]
  have hI0 : S2 w R f (.slice la f.l.args.length lc) (.slice ra f.r.args.length rc) (.slice ka n kd1) (.slice la2 f.l.args.length lc2) (.slice ra2 f.r.args.length rc2) (.slice ka2 n kd2) ((w.alloc (fbox f (.slice la f.l.args.length lc) (.slice ra f.r.args.length rc) (.slice ka n kd1))).alloc (fbox f (.slice la2 f.l.args.length lc2) (.slice ra2 f.r.args.length rc2) (.slice ka2 n kd2))) := by
    have e1 := (MapKept.heap_alloc w (fbox f (.slice la f.l.args.length lc) (.slice ra f.r.args.length rc) (.slice ka n kd1))).1
    have e2 := (MapKept.heap_alloc (w.alloc (fbox f (.slice la f.l.args.length lc) (.slice ra f.r.args.length rc) (.slice ka n kd1))) (fbox f (.slice la2 f.l.args.length lc2) (.slice ra2 f.r.args.length rc2) (.slice ka2 n kd2))).1
    have hb := below_box2 w (fbox f (.slice la f.l.args.length lc) (.slice ra f.r.args.length rc) (.slice ka n kd1)) (fbox f (.slice la2 f.l.args.length lc2) (.slice ra2 f.r.args.length rc2) (.slice ka2 n kd2))
    rw [hs1] at e2
    rw [hR] at e1 hb
    exact ⟨hb, ((below_box (w.alloc (fbox f (.slice la f.l.args.length lc) (.slice ra f.r.args.length rc) (.slice ka n kd1))) (fbox f (.slice la2 f.l.args.length lc2) (.slice ra2 f.r.args.length rc2) (.slice ka2 n kd2))).block R (by rw [hs1]; omega)).trans e1, e2⟩
  rw [hR] at HA1 HA2
  have hC : ∀ X, S2 w R f (.slice la f.l.args.length lc) (.slice ra f.r.args.length rc) (.slice ka n kd1) (.slice la2 f.l.args.length lc2) (.slice ra2 f.r.args.length rc2) (.slice ka2 n kd2) X → (X.cell? ⟨R, 0, none⟩ = some (.int .i64 f.k) ∧ X.cell? ⟨R, 1, none⟩ = some (.string f.nm) ∧ X.cell? ⟨R, 2, none⟩ = some (.int .i64 f.l.v) ∧ X.cell? ⟨R, 3, none⟩ = some (.string f.l.fn) ∧ X.cell? ⟨R, 4, none⟩ = some (.slice la f.l.args.length lc) ∧ X.cell? ⟨R, 5, none⟩ = some (.int .i64 f.r.v) ∧ X.cell? ⟨R, 6, none⟩ = some (.string f.r.fn) ∧ X.cell? ⟨R, 7, none⟩ = some (.slice ra f.r.args.length rc) ∧ X.cell? ⟨R, 8, none⟩ = some (.slice ka n kd1)) ∧ (X.cell? ⟨R + 1, 0, none⟩ = some (.int .i64 f.k) ∧ X.cell? ⟨R + 1, 1, none⟩ = some (.string f.nm) ∧ X.cell? ⟨R + 1, 2, none⟩ = some (.int .i64 f.l.v) ∧ X.cell? ⟨R + 1, 3, none⟩ = some (.string f.l.fn) ∧ X.cell? ⟨R + 1, 4, none⟩ = some (.slice la2 f.l.args.length lc2) ∧ X.cell? ⟨R + 1, 5, none⟩ = some (.int .i64 f.r.v) ∧ X.cell? ⟨R + 1, 6, none⟩ = some (.string f.r.fn) ∧ X.cell? ⟨R + 1, 7, none⟩ = some (.slice ra2 f.r.args.length rc2) ∧ X.cell? ⟨R + 1, 8, none⟩ = some (.slice ka2 n kd2)) := fun X hX =>
    ⟨(f_cells hX.b1).1, (f_cells hX.b2).1⟩
  have hsz : Hid (∀ X, S2 w R f (.slice la f.l.args.length lc) (.slice ra f.r.args.length rc) (.slice ka n kd1) (.slice la2 f.l.args.length lc2) (.slice ra2 f.r.args.length rc2) (.slice ka2 n kd2) X → R < X.heap.size ∧ R + 1 < X.heap.size) := fun X hX => ⟨(Array.getElem?_eq_some_iff.1 hX.b1).1, (Array.getElem?_eq_some_iff.1 hX.b2).1⟩
  have hbl : Hid (∀ X, S2 w R f (.slice la f.l.args.length lc) (.slice ra f.r.args.length rc) (.slice ka n kd1) (.slice la2 f.l.args.length lc2) (.slice ra2 f.r.args.length rc2) (.slice ka2 n kd2) X → Below R w X) := fun X hX => hX.bel
  have hkp : Hid (∀ X Y, S2 w R f (.slice la f.l.args.length lc) (.slice ra f.r.args.length rc) (.slice ka n kd1) (.slice la2 f.l.args.length lc2) (.slice ra2 f.r.args.length rc2) (.slice ka2 n kd2) X → Below X.heap.size X Y → S2 w R f (.slice la f.l.args.length lc) (.slice ra f.r.args.length rc) (.slice ka n kd1) (.slice la2 f.l.args.length lc2) (.slice ra2 f.r.args.length rc2) (.slice ka2 n kd2) Y) := fun X Y hX hb => hX.keep hb
  obtain ⟨S, hS⟩ : ∃ S, S2 w R f (.slice la f.l.args.length lc) (.slice ra f.r.args.length rc) (.slice ka n kd1) (.slice la2 f.l.args.length lc2) (.slice ra2 f.r.args.length rc2) (.slice ka2 n kd2) = S := ⟨_, rfl⟩
  rw [hS] at hI0 hC hbl hkp hsz
  obtain ⟨W0, hW0⟩ : ∃ X, (w.alloc (fbox f (.slice la f.l.args.length lc) (.slice ra f.r.args.length rc) (.slice ka n kd1))).alloc (fbox f (.slice la2 f.l.args.length lc2) (.slice ra2 f.r.args.length rc2) (.slice ka2 n kd2)) = X := ⟨_, rfl⟩
  rw [hW0] at hI0
  have HW0 := hidR hW0
  have hL : Hid (∀ X, S X → Calls Tryz.prog 48 #[.agg #[.int .i64 f.l.v, .string f.l.fn, .slice la f.l.args.length lc], .agg #[.int .i64 f.l.v, .string f.l.fn, .slice la2 f.l.args.length lc2]] X fun e X' => e = .returned (.bool true) ∧ S X') := fun X hX =>
    (tsame_any f.l f.l _ _ X (HA1.out X (hbl.out X hX)).l.args (HA2.out X (hbl.out X hX)).l.args).mono fun _ _ ⟨he, hb⟩ => ⟨by rw [he, same_iff.2 rfl], hkp.out _ _ hX hb⟩
  have hRr : Hid (∀ X, S X → Calls Tryz.prog 48 #[.agg #[.int .i64 f.r.v, .string f.r.fn, .slice ra f.r.args.length rc], .agg #[.int .i64 f.r.v, .string f.r.fn, .slice ra2 f.r.args.length rc2]] X fun e X' => e = .returned (.bool true) ∧ S X') := fun X hX =>
    (tsame_any f.r f.r _ _ X (HA1.out X (hbl.out X hX)).r.args (HA2.out X (hbl.out X hX)).r.args).mono fun _ _ ⟨he, hb⟩ => ⟨by rw [he, same_iff.2 rfl], hkp.out _ _ hX hb⟩
  have hK : Hid (∀ X, S X → Calls Tryz.prog 49 #[.slice ka n kd1, .slice ka2 n kd2, .func (.func 20) #[] #[]] X fun e X' => e = .returned (.bool true) ∧ S X') := fun X hX => by
    have h1 := (HA1.out X (hbl.out X hX)).k
    have h2 := (HA2.out X (hbl.out X hX)).k
    rw [← HN.out] at h1 h2 ⊢
    exact (eqff_self HG.out h1 h2 (by rw [HN.out]; exact hnl)).mono fun _ _ ⟨he, hb⟩ => ⟨he, hkp.out _ _ hX hb⟩
  have k1 : (f.k == f.k) = true := by simp
  have k2 : (f.nm.toList == f.nm.toList) = true := by simp
  have HRW := hidR hR
  clear hS h h2 ih hn hkm hW0
  go_enter Tryz.func20, Tryz.ntmps20
  go_upto_region 1 with fail
  try simp only [hs1, hR]
  rw [show _ = W0 from HW0.out]
  clear HW0 hs1
  obtain ⟨⟨x0, x1, x2, x3, x4, x5, x6, x7, x8⟩, ⟨y0, y1, y2, y3, y4, y5, y6, y7, y8⟩⟩ := hC _ hI0
  have hcl := hL.out _ hI0
  go_wp2_with fail
  refine hcl.mono ?_
  rintro e W1 ⟨rfl, hI1⟩
  clear x0 x1 x2 x3 x4 x5 x6 x7 x8 y0 y1 y2 y3 y4 y5 y6 y7 y8 hcl hI0 hL
  obtain ⟨⟨x0, x1, x2, x3, x4, x5, x6, x7, x8⟩, ⟨y0, y1, y2, y3, y4, y5, y6, y7, y8⟩⟩ := hC _ hI1
  have hcr := hRr.out _ hI1
  go_wp2_with fail
  refine hcr.mono ?_
  rintro e W2 ⟨rfl, hI2⟩
  clear x0 x1 x2 x3 x4 x5 x6 x7 x8 y0 y1 y2 y3 y4 y5 y6 y7 y8 hcr hI1 hRr
  obtain ⟨⟨x0, x1, x2, x3, x4, x5, x6, x7, x8⟩, ⟨y0, y1, y2, y3, y4, y5, y6, y7, y8⟩⟩ := hC _ hI2
  have hck := hK.out _ hI2
  go_wp2_with fail
  refine hck.mono ?_
  rintro e W3 ⟨rfl, hI3⟩
  have HF : Hid (Below w.heap.size w W3) := by show Below _ _ _; rw [HRW.out]; exact hbl.out _ hI3
  clear x0 x1 x2 x3 x4 x5 x6 x7 x8 y0 y1 y2 y3 y4 y5 y6 y7 y8 hck hI2 hK k1 k2
  go_wp2
  go_ret
  exact ⟨rfl, HF.out⟩
end
section
open Go.RowKit Go.Maps
open Lx (agg_store wpList_store_run row_block row_keep row_slice)
theorem back_walk {f : Fm} (hn : f.nsm) (hd : f.depth ≤ 1048577) (hz : wrap64 f.size = f.size) {sl sr sk : Value} {w : World} (h : FmP (fun k => k < w.heap.size) w f sl sr sk) (hsg : Sg w) :
    Calls Tryz.prog 6 #[fval f sl sr sk] w fun e w' => e = .returned (.bool true) ∧ Below w.heap.size w w' := by
  have hb0 := below_box w (fbox f sl sr sk)
  have hz0 := (MapKept.heap_alloc w (fbox f sl sr sk)).1
  have hs0 : (w.alloc (fbox f sl sr sk)).heap.size = w.heap.size + 1 := World.size_alloc _ _
  have hlt : 0 < w.heap.size := (Array.getElem?_eq_some_iff.1 hsg).1
  obtain ⟨la, lc, rfl, _, _⟩ := h.l.slice'
  obtain ⟨ra, rc, rfl, _, _⟩ := h.r.slice'
  obtain ⟨ka, kc, rfl, _, _⟩ := h.k.slice
  have hf0 : FmP (fun k => k < w.heap.size) (w.alloc (fbox f (.slice la f.l.args.length lc) (.slice ra f.r.args.length rc) (.slice ka f.kids.length kc))) f (.slice la f.l.args.length lc) (.slice ra f.r.args.length rc) (.slice ka f.kids.length kc) := h.keep hb0.size (fun k hk hl => ⟨hk, hb0.block k hl⟩)
  have hrt := right_any hn hd hz hf0
  have hsg0 : Sg (w.alloc (fbox f (.slice la f.l.args.length lc) (.slice ra f.r.args.length rc) (.slice ka f.kids.length kc))) := (hb0.block 0 hlt).trans hsg
  obtain ⟨W0, hW0⟩ : ∃ X : World, w.alloc (fbox f (.slice la f.l.args.length lc) (.slice ra f.r.args.length rc) (.slice ka f.kids.length kc)) = X := ⟨_, rfl⟩
  obtain ⟨R, hR⟩ : ∃ R, w.heap.size = R := ⟨_, rfl⟩
  rw [hW0] at hb0 hz0 hs0 hf0 hrt hsg0
  rw [hR] at hz0 hs0 hlt hb0 hf0
  have hk : ∀ X, Below (R + 1) W0 X → Sg X ∧ X.heap[R]? = some (fbox f (.slice la f.l.args.length lc) (.slice ra f.r.args.length rc) (.slice ka f.kids.length kc)) ∧ FmP (fun k => k < R) X f (.slice la f.l.args.length lc) (.slice ra f.r.args.length rc) (.slice ka f.kids.length kc) ∧ Below w.heap.size w X ∧ R < X.heap.size := by
    intro X hX
    have := hX.size
    rw [hR]
    exact ⟨(hX.block 0 (by omega)).trans hsg0, (hX.block R (by omega)).trans hz0, hf0.keep this (fun k hk hl => ⟨hk, hX.block k (by omega)⟩), hb0.trans (hX.mono (by omega)), by omega⟩
  have HK := hidR hk
  have HW0 := hidR hW0
  have HC := hidR (And.intro hn (And.intro (fun h0 : rightE f = 0 => rightE_sh h0) (fun h0 : rightE f = 0 => rightE_lim h0)))
  have HF := hidR (fun (h0 : rightE f = 0) (hc : clF (fun _ => 0) f) => fof_back h0 hc)
  have HS0 := hidR hs0
  have HE : Hid (showL f = if rightE f = 0 then shF f else []) := rfl
  have HSH := hidR (fun (X : World) (h3 : FmP (fun k => k < R) X f (.slice la f.l.args.length lc) (.slice ra f.r.args.length rc) (.slice ka f.kids.length kc)) (hP : ∀ k, k < R → k < X.heap.size) (hs : Sg X) => fshow_any hn hd hz (fun h0 => by
    have h1 := shF_len f (rightE_sh h0)
    have h2 := (rightE_lim h0).2.1
    omega) h3 hP hs)
  obtain ⟨⟨n0, n1, n2, n3, n4, n5, n6, n7, n8⟩, -⟩ := f_cells hz0
  obtain ⟨rE, hrE⟩ : ∃ r, rightE f = r := ⟨_, rfl⟩
  rw [hrE] at hrt HC HF HE
  clear h hsg hb0 hz0 hs0 hf0 hsg0 hlt hW0 hn hd hz hrE hk
  go_enter Tryz.func6, Tryz.ntmps6
  go_upto_region 1 with fail
  try simp only [hR]
  rw [show _ = W0 from HW0.out]
  clear HW0
  go_wp2_with fail
  refine hrt.mono ?_
  rintro e W1 ⟨rfl, hb1⟩
  clear hrt n0 n1 n2 n3 n4 n5 n6 n7 n8
  have hB1 : Below (R + 1) W0 W1 := hb1.mono (by have := HS0.out; omega)
  obtain ⟨k1, k2, k3, k4, k5⟩ := HK.out W1 hB1
  by_cases he : rE = 0
  case neg =>
    have hne : (rE != 0) = true := by simpa using he
    have hal := alive_any W1 k1
    have HB := hidR k4
    clear hb1 hB1 k1 k2 k3 k4 k5 he
    go_wp2_with fail
    refine hal.mono ?_
    rintro e W2 ⟨rfl, hb2⟩
    have HX := hidR (HB.out.trans (hb2.mono HB.out.size))
    clear hal hb2
    go_wp2_with fail
    go_ret
    exact ⟨rfl, HX.out⟩
  case pos =>
  subst he
  have hlim := HC.out.2.2 rfl
  have hsh := HC.out.2.1 rfl
  obtain ⟨⟨n0, n1, n2, n3, n4, n5, n6, n7, n8⟩, -⟩ := f_cells k2
  by_cases hcl : clF (fun _ => 0) f
  case neg =>
    have hfr := free_open hsh hcl HC.out.1 (by omega) k3 (fun k hk => by omega)
    have H1 := hidR (And.intro hB1 (And.intro k5 k1))
    clear hb1 hB1 k1 k2 k3 k4 k5 hcl hlim hsh
    go_wp2_with fail
    refine hfr.mono ?_
    rintro e W2 ⟨a, k, c, rfl, hk0, hk4, hb2⟩
    have hpos : decide ((0 : Int) < (k : Int)) = true := by simpa using hk0
    have hB2 : Below (R + 1) W0 W2 := H1.out.1.trans (hb2.mono (by have := H1.out.2.1; omega))
    obtain ⟨k1, k2, k3, k4, k5⟩ := HK.out W2 hB2
    have hal := alive_any W2 k1
    have HB := hidR k4
    clear hfr hb2 hB2 k1 k2 k3 k4 k5 n0 n1 n2 n3 n4 n5 n6 n7 n8
    go_wp2_with fail
    refine hal.mono ?_
    rintro e W3 ⟨rfl, hb2⟩
    have HX := hidR (HB.out.trans (hb2.mono HB.out.size))
    clear hal hb2
    go_wp2_with fail
    go_ret
    exact ⟨rfl, HX.out⟩
  case pos =>
  have hfr := free_closed hcl HC.out.1 (by omega) k3 (fun k hk => by omega)
  have HB1 := hidR (And.intro hB1 k5)
  have HFR := hidR (HF.out rfl hcl)
  have HSL := hidR hlim.2.1
  have HSS := hidR hsh
  clear hb1 hB1 k1 k2 k3 k4 k5 hcl hlim hsh
  go_wp2_with fail
  refine hfr.mono ?_
  rintro e W2 ⟨a, c, rfl, hb2⟩
  have hB2 : Below (R + 1) W0 W2 := HB1.out.1.trans (hb2.mono (by have := HB1.out.2; omega))
  obtain ⟨k1, k2, k3, k4, k5⟩ := HK.out W2 hB2
  have hshow := HSH.out W2 k3 (fun k hk => by omega) k1
  rw [show showL f = shF f from by rw [HE.out]; simp] at hshow
  have HB2 := hidR (And.intro hB2 k5)
  clear hfr n0 n1 n2 n3 n4 n5 n6 n7 n8
  obtain ⟨⟨n0, n1, n2, n3, n4, n5, n6, n7, n8⟩, -⟩ := f_cells k2
  clear hb2 hB2 k1 k2 k3 k4 k5
  go_wp2_with fail
  refine hshow.mono ?_
  rintro e W3 ⟨rfl, hb3⟩
  have hB3 : Below (R + 1) W0 W3 := HB2.out.1.trans (hb3.mono (by have := HB2.out.2; omega))
  obtain ⟨k1, k2, k3, k4, k5⟩ := HK.out W3 hB3
  have hff := fof_any (Lx.ofL (shF f)) W3 (by
    rw [Lx.ofL_size]
    have h1 := shF_len f HSS.out
    have h2 := HSL.out
    omega) k1
  have HB3 := hidR (And.intro hB3 k5)
  clear hshow n0 n1 n2 n3 n4 n5 n6 n7 n8 hb3 hB3 k1 k2 k3 k4 k5
  go_wp2_with fail
  refine hff.mono ?_
  clear hff
  rintro e W4 ⟨g, gl, gr, gk, a, er, hr, rfl, hfm, hb4⟩
  obtain ⟨rfl, rfl, rfl⟩ := hr.one HFR.out
  clear hr
  obtain ⟨ma, mc, rfl, -, -⟩ := hfm.l.slice'
  obtain ⟨na, nc, rfl, -, -⟩ := hfm.r.slice'
  obtain ⟨oa, oc, rfl, -, -⟩ := hfm.k.slice
  have hbB := below_box W4 (fbox g (.slice ma g.l.args.length mc) (.slice na g.r.args.length nc) (.slice oa g.kids.length oc))
  have hzG := (MapKept.heap_alloc W4 (fbox g (.slice ma g.l.args.length mc) (.slice na g.r.args.length nc) (.slice oa g.kids.length oc))).1
  obtain ⟨G, hG⟩ : ∃ G, W4.heap.size = G := ⟨_, rfl⟩
  obtain ⟨WB, hWB⟩ : ∃ X, W4.alloc (fbox g (.slice ma g.l.args.length mc) (.slice na g.r.args.length nc) (.slice oa g.kids.length oc)) = X := ⟨_, rfl⟩
  rw [hWB] at hbB hzG
  rw [hG] at hzG
  have hB4 : Below (R + 1) W0 WB := HB3.out.1.trans ((hb4.trans (hbB.mono hb4.size)).mono (by have := HB3.out.2; omega))
  obtain ⟨k1, k2, k3, k4, k5⟩ := HK.out WB hB4
  have hgB := hfm.grow hbB
  have hsm := fsame_self g _ _ _ _ _ _ _ _ WB k3 hgB
  have HB4 := hidR (And.intro hB4 k5)
  have HWB := hidR hWB
  obtain ⟨⟨n0, n1, n2, n3, n4, n5, n6, n7, n8⟩, -⟩ := f_cells k2
  obtain ⟨⟨m0, m1, m2, m3, m4, m5, m6, m7, m8⟩, -⟩ := f_cells hzG
  clear hbB hzG hgB hWB hb4 hfm k1 k2 k3 k4 k5 hB4
  go_upto_region 4 with fail
  try simp only [hG]
  rw [show _ = WB from HWB.out]
  clear HWB hG
  go_wp2_with fail
  refine hsm.mono ?_
  clear hsm
  rintro e W5 ⟨rfl, hb5⟩
  have hB5 : Below (R + 1) W0 W5 := HB4.out.1.trans (hb5.mono (by have := HB4.out.2; omega))
  obtain ⟨k1, k2, k3, k4, k5⟩ := HK.out W5 hB5
  have hal := alive_any W5 k1
  have HB := hidR k4
  clear n0 n1 n2 n3 n4 n5 n6 n7 n8 m0 m1 m2 m3 m4 m5 m6 m7 m8 hb5 hB5 k1 k2 k3 k4 k5
  go_wp2_with fail
  refine hal.mono ?_
  clear hal
  rintro e W6 ⟨rfl, hb6⟩
  have HX := hidR (HB.out.trans (hb6.mono HB.out.size))
  clear hb6
  go_wp2_with fail
  go_ret
  exact ⟨rfl, HX.out⟩
end
