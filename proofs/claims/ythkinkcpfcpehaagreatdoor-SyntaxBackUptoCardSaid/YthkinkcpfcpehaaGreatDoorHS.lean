import Derived.Test.YthkinkcpfcpehaaGreatDoorHP
import Derived.Test.YthkinkcpfcpehaaGreatDoorHK
namespace Go.Proofs.YthkinkcpfcpehaaGreatDoor
set_option maxRecDepth 100000
set_option maxHeartbeats 16000000
section
open Go.RowKit Go.Maps
open Classical in
/-- All variables are bound, by quantifiers that are met so often. -/
noncomputable def upQ (k : Int) (nm : ByteArray) (q : ByteArray → Int) : ByteArray → Int := if k = 7 ∨ k = 8 then fun s => if s = nm then q s + 1 else q s else q
def clF : (ByteArray → Int) → Fm → Prop
  | q, .mk k n l r ks => clT q l ∧ clT q r ∧ clFs (upQ k n q) ks
where clFs : (ByteArray → Int) → List Fm → Prop
  | _, [] => True
  | q, a :: r => clF q a ∧ clFs q r
theorem clFs_mem {q : ByteArray → Int} : ∀ {l : List Fm}, clF.clFs q l → ∀ a ∈ l, clF q a
  | b :: r, h, a, ha => by
    rw [clF.clFs] at h
    rcases List.mem_cons.1 ha with rfl | ha
    · exact h.1
    · exact clFs_mem h.2 a ha
theorem clF_eq {q : ByteArray → Int} {f : Fm} (h : clF q f) : clT q f.l ∧ clT q f.r ∧ clF.clFs (upQ f.k f.nm q) f.kids := by cases f; rw [clF] at h; exact h
theorem fm_pos (f : Fm) : 1 ≤ f.size := by have := fdepth_pos f; have := fdepth_size f; omega
theorem size_kid (f : Fm) : 1 + Fm.size.sizes f.kids ≤ f.size := by
  have h := fm_size_eq f
  have h1 := tsize_pos f.l
  have h2 := tsize_pos f.r
  split at h <;> omega
/-- The map of what is bound, as far as it is asked. -/
abbrev gq (f : ByteArray → Option Int) : ByteArray → Int := fun s => (f s).getD 0
def MAP (mb : Nat) (f : ByteArray → Option Int) (n : Int) (w : World) (e : Ending) (w' : World) : Prop :=
  e = .returned (.tuple #[]) ∧ ∃ (f' : ByteArray → Option Int) (n' : Nat), (∀ s, (f' s).getD 0 = (f s).getD 0) ∧ (n' : Int) ≤ n ∧ Nm w' mb f' n' ∧ Only [mb] w w'
def MAc (mb mm : Nat) (l : List Fm) : Prop := ∀ (f : ByteArray → Option Int) (n : Nat) (K : Int) (w : World) (sl : Value), clF.clFs (gq f) l → (∀ s, 0 ≤ (f s).getD 0 ∧ (f s).getD 0 ≤ K) → K + Fm.size.sizes l ≤ 4194304 → n + 2 * Fm.size.sizes l ≤ 8388608 → (∀ a ∈ l, a.nsm) → Nm w mb f n → KidsP (fun k => k ≠ mb) w sl l →
  Calls Tryz.prog 45 #[.agg #[.map (some mb), .map (some mm)], sl] w (MAP mb f (n + 2 * Fm.size.sizes l) w)
/-- The closure that meets a quantifier's kids. -/
theorem scope_closure {mb mm R G : Nat} {u : Fm} {a1 a2 a3 : Option Addr} {c1 c2 c3 : Nat} {X : World} {e : Ending → World → Prop} (hR : X.heap[R]? = some (.cells #[.map (some mb), .map (some mm)] 52 (0, 0))) (hG : X.heap[G]? = some (fbox u (.slice a1 u.l.args.length c1) (.slice a2 u.r.args.length c2) (.slice a3 u.kids.length c3)))
    (hc : Calls Tryz.prog 45 #[.agg #[.map (some mb), .map (some mm)], .slice a3 u.kids.length c3] X fun e' w' => e' = .returned (.tuple #[]) ∧ e e' w') :
    Calls Tryz.prog 86 #[.pointer (some ⟨R, 0, none⟩), .pointer (some ⟨G, 0, none⟩)] X fun e' w' => e' = .returned (.tuple #[]) ∧ e e' w' := by
  have r0 : X.cell? ⟨R, 0, none⟩ = some (.map (some mb)) := cell_store (vs := [_, _]) hR rfl
  have r1 : X.cell? ⟨R, 1, none⟩ = some (.map (some mm)) := cell_store (vs := [_, _]) hR rfl
  have g8 := (f_cells hG).1.2.2.2.2.2.2.2.2
  clear hR hG
  go_enter Tryz.func86, Tryz.ntmps86
  go_wp2_with fail
  refine hc.mono ?_
  rintro e' W2 ⟨rfl, he⟩
  have HE := hidR he
  clear hc he
  go_wp2
  refine bodyPost_end (results_none rfl _ _ _) rfl ?_
  exact ⟨rfl, HE.out⟩
theorem meetAll_step {mb mm : Nat} {l : List Fm} (ih : ∀ a ∈ l, MAc mb mm a.kids) : MAc mb mm l := by
  intro f n K w sl hcl hq hK hn hns hf hks
  have hb0 := below_box w (.cells #[.map (some mb), .map (some mm)] 52)
  have hz0 := (MapKept.heap_alloc w (.cells #[.map (some mb), .map (some mm)] 52)).1
  obtain ⟨ka, kc', rfl, hkc, hkm⟩ := hks.slice
  have hmb := hf.lt
  have HKS : Hid (∀ X, Only [mb] w X → KidsP (fun k => k ≠ mb) X (.slice ka l.length kc') l) := fun X hX => hks.keep hX.size (fun k hk hl => ⟨hk, hX.block k hl (by simpa using hk)⟩)
  obtain ⟨W0, hW0⟩ : ∃ X : World, w.alloc (.cells #[.map (some mb), .map (some mm)] 52) = X := ⟨_, rfl⟩
  obtain ⟨R, hR⟩ : ∃ R, w.heap.size = R := ⟨_, rfl⟩
  rw [hW0] at hb0 hz0
  rw [hR] at hz0 hmb
  obtain ⟨N, hN⟩ : ∃ N, l.length = N := ⟨_, rfl⟩
  have HN := hidR hN
  have hkm' : kc' ≤ 9223372036854775807 := by unfold maxLen at hkm; omega
  rw [hN] at hkc HKS ⊢
  have HI := hidR ih
  have HC := hidR (And.intro hcl (And.intro hq (And.intro hK (And.intro hn hns))))
  have H0 := hidR (And.intro (Only.of_below (B := [mb]) hb0) (And.intro hz0 (hf.same (hb0.block mb hf.lt))))
  have HW0 := hidR hW0
  have hRm : R ≠ mb := by omega
  have hNl : N ≤ 9223372036854775807 := by omega
  clear hf hks ih hcl hq hK hn hns hb0 hz0 hW0 hN hkm
  go_enter Tryz.func45, Tryz.ntmps45
  go_upto_region 1 with fail
  try simp only [hR]
  rw [show _ = W0 from HW0.out]
  clear HW0
  go_wp2
  go_loopw [5, 8] (fun v5 vi wr => ∃ i : Nat, vi = .int .i64 i ∧ i ≤ N ∧ Hid (Only [mb] w wr ∧ wr.heap[R]? = some (.cells #[.map (some mb), .map (some mm)] 52 (0, 0)) ∧ ∃ (f' : ByteArray → Option Int) (n' : Nat), (∀ s, (f' s).getD 0 = (f s).getD 0) ∧ (n' : Int) + 2 * Fm.size.sizes (l.drop i) ≤ n + 2 * Fm.size.sizes l ∧ Nm wr mb f' n')) (fun v5 vi _ => N - (intOf vi).toNat)
  case atStart => exact ⟨0, rfl, Nat.zero_le _, H0.out.1, H0.out.2.1, f, n, fun _ => rfl, by rw [List.drop_zero]; exact Int.le_refl _, H0.out.2.2⟩
  case round =>
    obtain ⟨i, rfl, hi, HW⟩ := hrel
    by_cases hlt : i < N
    · have hil : i < l.length := by rw [HN.out]; exact hlt
      obtain ⟨hon, hzR, f1, n1, hsame, hbud, hnm⟩ := HW.out
      have hgq : gq f1 = gq f := funext hsame
      have hks := HKS.out wr hon
      rw [← HN.out] at hks
      obtain ⟨b, o, sl, sr, sk, rfl, hbm, hlt2, ⟨y0, y1, ⟨y2, y3, y4⟩, ⟨y5, y6, y7⟩, y8⟩, hss⟩ := hks.nth hil
      obtain ⟨a1, c1, rfl, hac1, ham1⟩ := hss.l.slice'
      obtain ⟨a2, c2, rfl, hac2, ham2⟩ := hss.r.slice'
      obtain ⟨a3, c3, rfl, _, _⟩ := hss.k.slice
      have hmem := List.getElem_mem hil
      have hstep := sizes_step hil
      have hcla := clF_eq (clFs_mem HC.out.1 _ hmem)
      have hnsa := HC.out.2.2.2.2 _ hmem
      have hsz1 := size_kid l[i]
      have hspos := sizes_pos (l.drop (i + 1))
      have htot : Fm.size.sizes (l.drop i) ≤ Fm.size.sizes l := by
        have h1 : ∀ (q : List Fm) (j : Nat), Fm.size.sizes (q.drop j) ≤ Fm.size.sizes q := by
          intro q
          induction q with
          | nil => intro j; simp
          | cons a r ihq =>
            intro j
            cases j with
            | zero => exact Int.le_refl _
            | succ j => rw [List.drop_succ_cons, Fm.size.sizes]; have := ihq j; have := fm_pos a; omega
        exact h1 l i
      have hk0 := sizes_pos l[i].kids
      have HB : Hid (l[i].size + Fm.size.sizes (l.drop (i + 1)) = Fm.size.sizes (l.drop i) ∧ Fm.size.sizes (l.drop i) ≤ Fm.size.sizes l ∧ 1 + Fm.size.sizes l[i].kids ≤ l[i].size ∧ 0 ≤ Fm.size.sizes (l.drop (i + 1)) ∧ 0 ≤ Fm.size.sizes l[i].kids ∧ (n1 : Int) + 2 * Fm.size.sizes (l.drop i) ≤ n + 2 * Fm.size.sizes l ∧ n + 2 * Fm.size.sizes l ≤ 8388608) := ⟨hstep.symm, htot, hsz1, hspos, hk0, hbud, HC.out.2.2.2.1⟩
      have hbG := below_box wr (fbox l[i] (.slice a1 l[i].l.args.length c1) (.slice a2 l[i].r.args.length c2) (.slice a3 l[i].kids.length c3))
      have hzG := (MapKept.heap_alloc wr (fbox l[i] (.slice a1 l[i].l.args.length c1) (.slice a2 l[i].r.args.length c2) (.slice a3 l[i].kids.length c3))).1
      have hmlt := hnm.lt
      obtain ⟨G, hG⟩ : ∃ G, wr.heap.size = G := ⟨_, rfl⟩
      obtain ⟨X1, hX1⟩ : ∃ X : World, wr.alloc (fbox l[i] (.slice a1 l[i].l.args.length c1) (.slice a2 l[i].r.args.length c2) (.slice a3 l[i].kids.length c3)) = X := ⟨_, rfl⟩
      rw [hX1] at hbG hzG
      rw [hG] at hzG hmlt
      have hGm : G ≠ mb := by omega
      have HX : Hid (∀ X, Only [mb] X1 X → Only [mb] w X ∧ X.heap[R]? = some (.cells #[.map (some mb), .map (some mm)] 52 (0, 0)) ∧ X.heap[G]? = some (fbox l[i] (.slice a1 l[i].l.args.length c1) (.slice a2 l[i].r.args.length c2) (.slice a3 l[i].kids.length c3)) ∧ FmP (fun k => k ≠ mb) X l[i] (.slice a1 l[i].l.args.length c1) (.slice a2 l[i].r.args.length c2) (.slice a3 l[i].kids.length c3)) := fun X hX => by
        have hox : Only [mb] wr X := (Only.of_below (B := [mb]) hbG).trans hX (fun r hr => .inl hr)
        exact ⟨hon.trans hox (fun r hr => .inl hr), (hox.block R (Array.getElem?_eq_some_iff.1 hzR).1 (by simpa using hRm)).trans hzR, (hX.block G (Array.getElem?_eq_some_iff.1 hzG).1 (by simpa using hGm)).trans hzG, hss.keep hox.size (fun k hk hl => ⟨hk, hox.block k hl (by simpa using hk)⟩)⟩
      have hnm1 := hnm.same (hbG.block mb hnm.lt)
      have hpa := pair_at (w := X1) (HX.out X1 (Only.of_below (Below.refl _ _))).2.2.2.l.args (HX.out X1 (Only.of_below (Below.refl _ _))).2.2.2.r.args
      have hb2 := below_box X1 (.cells #[.int .i64 l[i].l.v, .string l[i].l.fn, .slice a1 l[i].l.args.length c1, .int .i64 l[i].r.v, .string l[i].r.fn, .slice a2 l[i].r.args.length c2] 24)
      have hmt := meetTerms_any (mb := mb) (mm := mm) (n := n1) (f := f1) [l[i].l, l[i].r] (by
          intro a ha
          show clT (gq f1) a
          rw [hgq]
          simp only [List.mem_cons, List.not_mem_nil, or_false] at ha
          rcases ha with rfl | rfl
          · exact hcla.1
          · exact hcla.2.1) (by
          intro a ha
          simp only [List.mem_cons, List.not_mem_nil, or_false] at ha
          rcases ha with rfl | rfl
          · exact Fm.nsm_l hnsa
          · exact Fm.nsm_r hnsa) (by simp) _ _ (hnm1.same (hb2.block mb hnm1.lt)) hpa
      have HQ := hidR (And.intro hcla.2.2 (And.intro hnsa (And.intro (HI.out _ hmem) (And.intro hsame (And.intro hgq hnm1)))))
      have HXX := hidR hX1
      have HB2 := hidR hb2
      generalize l[i] = u at y0 y1 y2 y3 y4 y5 y6 y7 y8 HB HX hmt HQ HXX HB2
      obtain ⟨-, hzR1, hzG1, -⟩ := HX.out X1 (Only.of_below (Below.refl _ _))
      have r0 : X1.cell? ⟨R, 0, none⟩ = some (.map (some mb)) := cell_store (vs := [_, _]) hzR1 rfl
      have r1 : X1.cell? ⟨R, 1, none⟩ = some (.map (some mm)) := cell_store (vs := [_, _]) hzR1 rfl
      obtain ⟨⟨g0, g1, g2, g3, g4, g5, g6, g7, g8⟩, -⟩ := f_cells hzG1
      clear hon hzR hsame hbud hnm hgq hks hss hstep hcla hnsa hsz1 hspos htot hk0 hbG hzG hX1 hnm1 hpa hb2 hmem hmlt hzR1 hzG1 hlt2 hbm
      go_upto_region 4 with fail
      try simp only [hG]
      rw [show _ = X1 from HXX.out]
      clear HXX hG
      go_wp2_with fail
      refine hmt.mono ?_
      rintro e X2 ⟨rfl, hb3⟩
      have hbX2 : Below X1.heap.size X1 X2 := HB2.out.trans (hb3.mono HB2.out.size)
      clear hmt hb3 r0 r1 g0 g1 g2 g3 g4 g5 g6 g7 g8
      obtain ⟨ho2, hzR2, hzG2, hf2⟩ := HX.out X2 (Only.of_below hbX2)
      have hiq := isQuant_any hf2
      have hnm2 := HQ.out.2.2.2.2.2.same (hbX2.block mb HQ.out.2.2.2.2.2.lt)
      have HB3 := hidR (And.intro hbX2 hnm2)
      obtain ⟨⟨g0, g1, g2, g3, g4, g5, g6, g7, g8⟩, -⟩ := f_cells hzG2
      obtain ⟨b1, hb1⟩ : ∃ x, qB u = x := ⟨_, rfl⟩
      rw [hb1] at hiq
      have HQB := hidR hb1
      clear ho2 hzR2 hzG2 hf2 hnm2 hbX2 hb1
      go_wp2_with fail
      refine hiq.mono ?_
      rintro e X3 ⟨rfl, hb4⟩
      have hb13 : Below X1.heap.size X1 X3 := HB3.out.1.trans (hb4.mono HB3.out.1.size)
      have hnm3 := HB3.out.2.same (hb4.block mb HB3.out.2.lt)
      clear hiq g0 g1 g2 g3 g4 g5 g6 g7 g8 hb4
      obtain ⟨ho3, hzR3, hzG3, hf3⟩ := HX.out X3 (Only.of_below hb13)
      obtain ⟨⟨g0, g1, g2, g3, g4, g5, g6, g7, g8⟩, -⟩ := f_cells hzG3
      have r0 : X3.cell? ⟨R, 0, none⟩ = some (.map (some mb)) := cell_store (vs := [_, _]) hzR3 rfl
      have r1 : X3.cell? ⟨R, 1, none⟩ = some (.map (some mm)) := cell_store (vs := [_, _]) hzR3 rfl
      cases b1 with
      | false =>
        have hup : upQ u.k u.nm (gq f) = gq f := by
          unfold upQ
          rw [if_neg]
          have h5 : (decide (u.k = 7) || decide (u.k = 8)) = false := HQB.out
          rw [Bool.or_eq_false_iff, decide_eq_false_iff_not, decide_eq_false_iff_not] at h5
          omega
        have hcl := HQ.out.1
        rw [hup, ← HQ.out.2.2.2.2.1] at hcl
        have hB := HB.out
        have hrec := HQ.out.2.2.1 f1 n1 K X3 _ hcl (fun s => by rw [HQ.out.2.2.2.1]; exact HC.out.2.1 s) (by have := HC.out.2.2.1; omega) (by omega) (Fm.nsm_kids HQ.out.2.1) hnm3 hf3.k
        have HB13 := hidR hb13
        clear hb13 hnm3 ho3 hzR3 hzG3 hf3 hup hcl hB
        go_wp2_with fail
        refine hrec.mono ?_
        rintro e X4 ⟨rfl, f4, n4, hs4, hn4, hm4, ho4⟩
        have HM : Hid (Only [mb] w X4 ∧ X4.heap[R]? = some (.cells #[.map (some mb), .map (some mm)] 52 (0, 0)) ∧ ∃ (f' : ByteArray → Option Int) (n' : Nat), (∀ s, (f' s).getD 0 = (f s).getD 0) ∧ (n' : Int) + 2 * Fm.size.sizes (l.drop (i + 1)) ≤ n + 2 * Fm.size.sizes l ∧ Nm X4 mb f' n') := by
          obtain ⟨q1, q2, -, -⟩ := HX.out X4 ((Only.of_below (B := [mb]) HB13.out).trans ho4 (fun r hr => .inl hr))
          exact ⟨q1, q2, f4, n4, fun s => by rw [hs4, HQ.out.2.2.2.1], by have := HB.out; omega, hm4⟩
        clear hrec hs4 hn4 hm4 ho4 g0 g1 g2 g3 g4 g5 g6 g7 g8 r0 r1
        go_wp2
        go_roundw
        case rel => exact ⟨i + 1, by go_num, by omega, HM.out⟩
        case measure => simp [intOf]; omega
      | true =>
        have hup : upQ u.k u.nm (gq f) = fun s => if s = u.nm then gq f s + 1 else gq f s := by
          unfold upQ
          rw [if_pos]
          have h5 : (decide (u.k = 7) || decide (u.k = 8)) = true := HQB.out
          rw [Bool.or_eq_true, decide_eq_true_iff, decide_eq_true_iff] at h5
          exact h5
        have hcl := HQ.out.1
        rw [hup] at hcl
        have hB := HB.out
        have hKq := HC.out.2.1 u.nm
        have hKK := HC.out.2.2.1
        have hsn := HQ.out.2.2.2.1
        have hbN := below_box X3 (.cells #[.string u.nm] 9)
        have hzN := (MapKept.heap_alloc X3 (.cells #[.string u.nm] 9)).1
        have hmlt3 := hnm3.lt
        have hfs : u.nm.size ≤ maxLen := by have := Fm.nsm_nm HQ.out.2.1; unfold maxLen; omega
        have hgf : gq (fput f1 u.nm ((f1 u.nm).getD 0 + 1)) = fun s => if s = u.nm then gq f s + 1 else gq f s := by
          funext s
          show (fput f1 u.nm ((f1 u.nm).getD 0 + 1) s).getD 0 = _
          rw [fput_getD, hsn]
          split
          · rename_i h; rw [h]
          · rw [hsn]
        have hwi := within1 (mm := mm) (n' := n1 + 1 + 2 * (Fm.size.sizes u.kids).toNat) (p1 := .pointer (some ⟨R, 0, none⟩)) (p2 := .pointer (some ⟨G, 0, none⟩)) (hnm3.same (hbN.block mb hmlt3)) hzN (by omega) hfs (by rw [hsn]; exact hKq.1) (by rw [hsn]; omega) (by omega) (by omega) (fun X hX hoX => by
          have ho1X : Only [mb] X1 X := (Only.of_below (B := [mb]) (hb13.trans (hbN.mono hb13.size))).trans hoX (fun r hr => .inl hr)
          obtain ⟨-, q2, q3, q4⟩ := HX.out X ho1X
          have hrec := HQ.out.2.2.1 (fput f1 u.nm ((f1 u.nm).getD 0 + 1)) (n1 + 1) (K + 1) X _ (by rw [hgf]; exact hcl) (fun s => by
            rw [fput_getD, hsn]
            have h1 := HC.out.2.1 s
            split
            · rename_i h; omega
            · rw [hsn]; omega) (by omega) (by omega) (Fm.nsm_kids HQ.out.2.1) hX q4.k
          refine (scope_closure (e := fun _ w' => ∃ f', (∀ s, (f' s).getD 0 = (fput f1 u.nm ((f1 u.nm).getD 0 + 1) s).getD 0) ∧ Nm w' mb f' (n1 + 1 + 2 * (Fm.size.sizes u.kids).toNat) ∧ Only [mb] X w') q2 q3 (hrec.mono ?_))
          rintro e' w' ⟨rfl, f5, n5, hs5, hn5, hm5, ho5⟩
          exact ⟨rfl, f5, hs5, hm5.more (by omega), ho5⟩)
        have HB13 := hidR (hb13.trans (hbN.mono hb13.size))
        clear hb13 hnm3 ho3 hzR3 hzG3 hf3 hup hcl hB hKq hKK hbN hzN hmlt3 hfs hgf
        have HSN := hidR hsn
        clear hsn
        go_wp2_with fail
        refine hwi.mono ?_
        rintro e X4 ⟨rfl, f4, hs4, hm4, ho4⟩
        have HM : Hid (Only [mb] w X4 ∧ X4.heap[R]? = some (.cells #[.map (some mb), .map (some mm)] 52 (0, 0)) ∧ ∃ (f' : ByteArray → Option Int) (n' : Nat), (∀ s, (f' s).getD 0 = (f s).getD 0) ∧ (n' : Int) + 2 * Fm.size.sizes (l.drop (i + 1)) ≤ n + 2 * Fm.size.sizes l ∧ Nm X4 mb f' n') := by
          obtain ⟨q1, q2, -, -⟩ := HX.out X4 ((Only.of_below (B := [mb]) HB13.out).trans ho4 (fun r hr => .inl hr))
          exact ⟨q1, q2, f4, _, fun s => by rw [hs4, HSN.out], by have := HB.out; omega, hm4⟩
        clear hwi hs4 hm4 ho4 g0 g1 g2 g3 g4 g5 g6 g7 g8 r0 r1
        go_wp2
        go_roundw
        case rel => exact ⟨i + 1, by go_num, by omega, HM.out⟩
        case measure => simp [intOf]; omega
    · have hin : i = N := by omega
      subst hin
      have HX : Hid (∃ (f' : ByteArray → Option Int) (n' : Nat), (∀ s, (f' s).getD 0 = (f s).getD 0) ∧ (n' : Int) ≤ n + 2 * Fm.size.sizes l ∧ Nm wr mb f' n' ∧ Only [mb] w wr) := by
        obtain ⟨q1, -, f', n', q2, q3, q4⟩ := HW.out
        rw [← HN.out, List.drop_length, Fm.size.sizes] at q3
        exact ⟨f', n', q2, by omega, q4, q1⟩
      go_wp2
      refine bodyPost_end (results_none rfl _ _ _) rfl ?_
      exact ⟨rfl, HX.out⟩
theorem meetKids {mb mm : Nat} (f : Fm) : MAc mb mm f.kids := by
  refine Fm.ind (P := fun f => MAc mb mm f.kids) (fun f ih => ?_) f
  exact meetAll_step ih
theorem meetAll_any {mb mm : Nat} (l : List Fm) : MAc mb mm l := meetAll_step fun a _ => meetKids a
end
section
open Go.RowKit Go.Maps
theorem free_closed {P : Nat → Prop} {f : Fm} (hcl : clF (fun _ => 0) f) (hn : f.nsm) (hz : f.size ≤ 1000000) {sl sr sk : Value} {w : World} (h : FmP P w f sl sr sk) (hP : ∀ k, P k → k < w.heap.size) :
    Calls Tryz.prog 19 #[fval f sl sr sk] w fun e w' => ∃ a c, e = .returned (.slice a 0 c) ∧ Below w.heap.size w w' := by
  have hb0 := below_box w (fbox f sl sr sk)
  have hz0 := (MapKept.heap_alloc w (fbox f sl sr sk)).1
  have hs0 : (w.alloc (fbox f sl sr sk)).heap.size = w.heap.size + 1 := World.size_alloc _ _
  have hf0 : FmP (fun k => k < w.heap.size) (w.alloc (fbox f sl sr sk)) f sl sr sk := h.keep hb0.size (fun k hk hl => ⟨hP k hk, hb0.block k hl⟩)
  obtain ⟨la, lc, rfl, _, _⟩ := h.l.slice'
  obtain ⟨ra, rc, rfl, _, _⟩ := h.r.slice'
  obtain ⟨ka, kc', rfl, _, _⟩ := h.k.slice
  obtain ⟨W0, hW0⟩ : ∃ X : World, w.alloc (fbox f (.slice la f.l.args.length lc) (.slice ra f.r.args.length rc) (.slice ka f.kids.length kc')) = X := ⟨_, rfl⟩
  obtain ⟨R, hR⟩ : ∃ R, w.heap.size = R := ⟨_, rfl⟩
  rw [hW0] at hb0 hz0 hs0 hf0
  rw [hR] at hb0 hz0 hs0 hf0
  have hsc := newScope_any W0
  have HW0 := hidR hW0
  have HR := hidR hR
  have HC := hidR (And.intro hcl (And.intro hn hz))
  have H0 := hidR (And.intro hb0 (And.intro hz0 (And.intro hs0 hf0)))
  clear h hP hcl hn hz hb0 hz0 hs0 hf0 hW0
  go_enter Tryz.func19, Tryz.ntmps19
  go_upto_region 1 with fail
  try simp only [hR]
  rw [show _ = W0 from HW0.out]
  clear HW0 hR
  go_wp2_with fail
  refine hsc.mono ?_
  rintro e W1 ⟨mb, mm, rfl, hne, hmb, hmm, n1, n2, hb1⟩
  have hbS := below_box W1 (.cells #[.map (some mb), .map (some mm)] 52)
  have hzS := (MapKept.heap_alloc W1 (.cells #[.map (some mb), .map (some mm)] 52)).1
  have hs1 := hb1.size
  have hs0 := H0.out.2.2.1
  have hm1 := n1.lt
  have hm2 := n2.lt
  obtain ⟨S, hS⟩ : ∃ S, W1.heap.size = S := ⟨_, rfl⟩
  obtain ⟨W2, hW2⟩ : ∃ X : World, W1.alloc (.cells #[.map (some mb), .map (some mm)] 52) = X := ⟨_, rfl⟩
  have hs2 : W2.heap.size = S + 1 := by rw [← hW2, World.size_alloc, hS]
  rw [hW2] at hbS hzS
  rw [hS] at hzS
  have hzR2 : W2.heap[R]? = some (fbox f (.slice la f.l.args.length lc) (.slice ra f.r.args.length rc) (.slice ka f.kids.length kc')) := (hbS.block R (by omega)).trans ((hb1.block R (by omega)).trans H0.out.2.1)
  have hb3 := below_box W2 (fbox f (.slice la f.l.args.length lc) (.slice ra f.r.args.length rc) (.slice ka f.kids.length kc'))
  have hz3 := (MapKept.heap_alloc W2 (fbox f (.slice la f.l.args.length lc) (.slice ra f.r.args.length rc) (.slice ka f.kids.length kc'))).1
  obtain ⟨W3, hW3⟩ : ∃ X : World, W2.alloc (fbox f (.slice la f.l.args.length lc) (.slice ra f.r.args.length rc) (.slice ka f.kids.length kc')) = X := ⟨_, rfl⟩
  rw [hW3] at hb3 hz3
  rw [hs2] at hz3
  have hf3 : FmP (fun k => k ≠ mb) W3 f (.slice la f.l.args.length lc) (.slice ra f.r.args.length rc) (.slice ka f.kids.length kc') := H0.out.2.2.2.keep (by have := hb3.size; omega) (fun k hk hl => ⟨by omega, (hb3.block k (by omega)).trans ((hbS.block k (by omega)).trans (hb1.block k hl))⟩)
  have hks := kids_one hz3 (show S + 1 ≠ mb by omega) hf3
  have hsz0 : Fm.size.sizes [f] = f.size := by rw [Fm.size.sizes, Fm.size.sizes, Int.add_zero]
  have hma := meetAll_any (mb := mb) (mm := mm) [f] (fun _ => none) 0 0 W3 _ (by rw [clF.clFs, clF.clFs]; exact ⟨HC.out.1, trivial⟩) (fun s => ⟨by simp, by simp⟩) (by rw [hsz0]; have := HC.out.2.2; omega) (by rw [hsz0]; have := HC.out.2.2; omega) (fun a ha => by simp only [List.mem_singleton] at ha; subst ha; exact HC.out.2.1) (n1.same ((hb3.block mb (by omega)).trans (hbS.block mb hm1))) hks
  have HX : Hid (Below R w W3 ∧ Nm W3 mm (fun _ => none) 0 ∧ W3.heap[S]? = some (.cells #[.map (some mb), .map (some mm)] 52 (0, 0)) ∧ mb ≠ mm ∧ S ≠ mb ∧ R ≤ mb) := by
    refine ⟨H0.out.1.trans ((hb1.trans ((hbS.trans (hb3.mono hbS.size)).mono hs1)).mono (by omega)), n2.same ((hb3.block mm (by omega)).trans (hbS.block mm hm2)), (hb3.block S (by omega)).trans hzS, hne, by omega, by omega⟩
  have HW2 := hidR hW2
  have HW3 := hidR hW3
  have s0 : W2.cell? ⟨S, 0, none⟩ = some (.map (some mb)) := cell_store (vs := [_, _]) hzS rfl
  have s1 : W2.cell? ⟨S, 1, none⟩ = some (.map (some mm)) := cell_store (vs := [_, _]) hzS rfl
  obtain ⟨⟨g0, g1, g2, g3, g4, g5, g6, g7, g8⟩, -⟩ := f_cells hzR2
  have HSS := hidR hs2
  clear hsc hne hmb hmm n1 n2 hb1 hbS hzS hs1 hs0 hm1 hm2 hW2 hW3 hzR2 hb3 hz3 hf3 hks hsz0 H0
  go_upto_region 2 with fail
  try simp only [hS]
  rw [show _ = W2 from HW2.out]
  clear HW2 hS hs2
  have hma' : Calls Tryz.prog 45 #[.agg #[.map (some mb), .map (some mm)], .slice (some ⟨W2.heap.size, 0, none⟩) 1 1] (W2.alloc (fbox f (.slice la f.l.args.length lc) (.slice ra f.r.args.length rc) (.slice ka f.kids.length kc'))) (MAP mb (fun _ => none) (0 + 2 * Fm.size.sizes [f]) W3) := by
    rw [HSS.out, HW3.out]
    exact hma
  clear hma HW3
  go_wp2_with fail
  refine hma'.mono ?_
  rintro e W4 ⟨rfl, -, -, -, -, -, ho4⟩
  have hzS4 : W4.heap[S]? = some (.cells #[.map (some mb), .map (some mm)] 52 (0, 0)) := (ho4.block S (Array.getElem?_eq_some_iff.1 HX.out.2.2.1).1 (by have := HX.out.2.2.2.2.1; simpa using this)).trans HX.out.2.2.1
  have hmm4 : Nm W4 mm (fun _ => none) 0 := HX.out.2.1.same (ho4.block mm HX.out.2.1.lt (by have := HX.out.2.2.2.1; simp; omega))
  obtain ⟨k, hk, hmap⟩ := hmm4.m
  have hk0 : k = 0 := by omega
  subst hk0
  have hky := keys_any (some mm) W4
  have hst := sorted_keys hmap (by omega)
  have s1' : W4.cell? ⟨S, 1, none⟩ = some (.map (some mm)) := cell_store (vs := [_, _]) hzS4 rfl
  have HB4 : Hid (Below w.heap.size w W4) := by
    show Below _ _ _
    rw [HR.out]
    exact HX.out.1.trans ⟨ho4.os, ho4.tape, ho4.output, ho4.size, fun j hj => ho4.block j (by have h1 := HX.out.1.size; have h2 : w.heap.size = R := HR.out; omega) (by have := HX.out.2.2.2.2.2; simp; omega)⟩
  clear hma' ho4 hzS4 hmm4 hmap hk s0 s1 g0 g1 g2 g3 g4 g5 g6 g7 g8
  go_wp2_with fail
  refine hky.mono ?_
  rintro e W5 ⟨rfl, rfl⟩
  clear hky
  go_wp2_with fail
  refine hst.mono ?_
  rintro e W6 ⟨a, c, rfl, hb6⟩
  have HF : Hid (Below w.heap.size w W6) := HB4.out.trans (hb6.mono HB4.out.size)
  clear hst hb6
  go_wp2
  go_ret
  exact ⟨a, c, rfl, HF.out⟩
end
section
open Go.RowKit Go.Maps
open Lx (agg_store wpList_store_run row_block row_keep row_slice)
/-- Numbers below K are told as names, wherever no block but these two has turned. -/
def NumO (K rb M : Nat) (w : World) : Prop := ∀ (n : Nat), n < K → ∀ W, Only [rb, M] w W → Calls Tryz.prog 73 #[.int .i64 (n : Nat)] W fun e w' => e = .returned (.string (nmS n)) ∧ Below W.heap.size W w'
theorem NumO.next {K rb M : Nat} {w w' : World} (h : NumO K rb M w) (ho : Only [rb, M] w w') : NumO K rb M w' := fun n hn W hW => h n hn W (ho.trans hW (fun _r hr => .inl hr))
theorem NumO.c {K rb M : Nat} {w : World} (h : NumO K rb M w) : NumC K w := fun n hn W hW => h n hn W (Only.of_below hW)
theorem rnT_congr {g g' : ByteArray → Option Int} (h : ∀ s, (g s).getD 0 = (g' s).getD 0) (t : T) : rnT g t = rnT g' t := by
  refine T.ind (P := fun t => rnT g t = rnT g' t) (fun t ih => ?_) t
  rw [rnT_eq, rnT_eq]
  have h1 : gN g t.fn = gN g' t.fn := by unfold gN; rw [h]
  have h2 : t.args.map (rnT g) = t.args.map (rnT g') := List.map_congr_left ih
  rw [h1, h2]
/-- A formula with its bound variables named anew, and the next number. -/
noncomputable def cnF : (ByteArray → Option Int) → Nat → Fm → Fm × Nat
  | g, nx, .mk k n l r ks =>
    let b := decide (k = 7) || decide (k = 8)
    let p := cnFs (if b = true then fput g n (nx : Nat) else g) (if b = true then nx + 1 else nx) ks
    (.mk k (if b = true then nmS nx else e0) (rnT g l) (rnT g r) p.1, p.2)
where cnFs : (ByteArray → Option Int) → Nat → List Fm → List Fm × Nat
  | _, nx, [] => ([], nx)
  | g, nx, a :: r =>
    let p := cnF g nx a
    let q := cnFs g p.2 r
    (p.1 :: q.1, q.2)
theorem cnF_eq (g : ByteArray → Option Int) (nx : Nat) (f : Fm) : cnF g nx f = (.mk f.k (if qB f = true then nmS nx else e0) (rnT g f.l) (rnT g f.r) (cnF.cnFs (if qB f = true then fput g f.nm (nx : Nat) else g) (if qB f = true then nx + 1 else nx) f.kids).1, (cnF.cnFs (if qB f = true then fput g f.nm (nx : Nat) else g) (if qB f = true then nx + 1 else nx) f.kids).2) := by cases f; rw [cnF]; rfl
/-- The name has its outer number again. -/
theorem undo_any {I P2 F3 rb M n : Nat} {nx ou : Int} {g : ByteArray → Option Int} {_nm : ByteArray} {f : Fm} {sl sr sk : Value} {w : World} (hI : w.heap[I]? = some (.cells #[.int .i64 ou] 3 (0, 0))) (hP : w.heap[P2]? = some (.cells #[.pointer (some ⟨rb, 0, none⟩)] 112 (0, 0))) (hF : w.heap[F3]? = some (fbox f sl sr sk)) (hr : RN w rb M nx g n) (hs : f.nm.size ≤ maxLen) (hn : n < maxLen) (hM : I ≠ M ∧ P2 ≠ M ∧ F3 ≠ M ∧ rb ≠ M) :
    CallsD Tryz.prog 74 #[.pointer (some ⟨I, 0, none⟩), .pointer (some ⟨P2, 0, none⟩), .pointer (some ⟨F3, 0, none⟩)] .returning w fun e u' w' => u' = .returning ∧ (e = .returned (.tuple #[]) ∧ Nm w' M (fput g f.nm ou) (n + 1) ∧ Only [M] w w') := by
  have i0 : w.cell? ⟨I, 0, none⟩ = some (.int .i64 ou) := cell_store (vs := [_]) hI rfl
  have p0 : w.cell? ⟨P2, 0, none⟩ = some (.pointer (some ⟨rb, 0, none⟩)) := cell_store (vs := [_]) hP rfl
  have f1 := (f_cells hF).1.2.1
  have r1 : w.cell? ⟨rb, 1, none⟩ = some (.map (some M)) := cell_store (vs := [_, _]) hr.box rfl
  obtain ⟨W', hrun, hnm, hon⟩ := (hr.nm.same (W' := w.drew) rfl).put hn hs ou
  have HF : Hid (Nm W' M (fput g f.nm ou) (n + 1) ∧ Only [M] w W') := ⟨hnm, (Only.of_below (B := [M]) (Below.refl _ w).drew).trans hon (fun r hr => .inl hr)⟩
  have sM : ∀ {b j : Nat} {v : Value}, b ≠ M → b < w.heap.size → w.cell? ⟨b, j, none⟩ = some v → W'.cell? ⟨b, j, none⟩ = some v := fun {b j v} hb hl hc => (World.cell?_of_block (a := ⟨b, j, none⟩) (hon.block b hl (by simpa using hb))).trans hc
  have s0 : W'.cell? ⟨P2, 0, none⟩ = some (.pointer (some ⟨rb, 0, none⟩)) ∧ W'.cell? ⟨rb, 1, none⟩ = some (.map (some M)) ∧ W'.cell? ⟨F3, 1, none⟩ = some (.string f.nm) ∧ W'.cell? ⟨I, 0, none⟩ = some (.int .i64 ou) := ⟨sM hM.2.1 (Array.getElem?_eq_some_iff.1 hP).1 p0, sM hM.2.2.2 (Array.getElem?_eq_some_iff.1 hr.box).1 r1, sM hM.2.2.1 (Array.getElem?_eq_some_iff.1 hF).1 f1, sM hM.1 (Array.getElem?_eq_some_iff.1 hI).1 i0⟩
  clear hI hP hF hr hn hs hnm hon sM
  refine (callsD_of_wp Tryz.func74 rfl (R := fun e w' => e = .returned (.tuple #[]) ∧ Nm w' M (fput g f.nm ou) (n + 1) ∧ Only [M] w w') ?_)
  simp only [Tryz.ntmps74, List.size_toArray, List.length_cons, List.length_nil, Nat.reduceAdd, Nat.reduceSub, Array.replicate_succ, Array.replicate_zero, List.push_toArray, List.append_toArray, List.nil_append, List.cons_append]
  refine wp_region_held_drew (S := fun X => X.cell? ⟨P2, 0, none⟩ = some (.pointer (some ⟨rb, 0, none⟩)) ∧ X.cell? ⟨rb, 1, none⟩ = some (.map (some M)) ∧ X.cell? ⟨F3, 1, none⟩ = some (.string f.nm) ∧ X.cell? ⟨I, 0, none⟩ = some (.int .i64 ou)) (by kernel_rfl) ⟨p0, r1, f1, i0⟩ (fun hHeld => ?_)
  refine Lx.take_mk 0 (.pointer (some ⟨rb, 0, none⟩)) rfl (by kernel_rfl) (by kernel_rfl) (by kernel_rfl) (fun _ _ _ h => h) (Or.inl ⟨by rfl, ?_⟩) (by first | assumption | trivial) ?_
  · intro w hSw; obtain ⟨q0, q1, q2, q3⟩ := hSw; (try dsimp only at hSw); go_simp
  try simp only [Act.put, List.setIfInBounds_toArray, List.set_cons_zero, List.set_cons_succ]
  refine Lx.take_mk 1 (.pointer (some ⟨rb, 0, none⟩)) rfl (by kernel_rfl) (by kernel_rfl) (by kernel_rfl) (fun _ _ _ h => h) (Or.inl ⟨by rfl, ?_⟩) (by first | assumption | trivial) ?_
  · intro w hSw; (try dsimp only at hSw); go_simp
  try simp only [Act.put, List.setIfInBounds_toArray, List.set_cons_zero, List.set_cons_succ]
  refine Lx.take_mk 2 (.pointer (some ⟨rb, 1, none⟩)) rfl (by kernel_rfl) (by kernel_rfl) (by kernel_rfl) (fun _ _ _ h => h) (Or.inl ⟨by rfl, ?_⟩) (by first | assumption | trivial) ?_
  · intro w hSw; (try dsimp only at hSw); go_simp
  try simp only [Act.put, List.setIfInBounds_toArray, List.set_cons_zero, List.set_cons_succ]
  refine Lx.take_mk 3 (.map (some M)) rfl (by kernel_rfl) (by kernel_rfl) (by kernel_rfl) (fun _ _ _ h => h) (Or.inl ⟨by rfl, ?_⟩) (by first | assumption | trivial) ?_
  · intro w hSw; obtain ⟨q0, q1, q2, q3⟩ := hSw; (try dsimp only at hSw); go_simp
  try simp only [Act.put, List.setIfInBounds_toArray, List.set_cons_zero, List.set_cons_succ]
  refine Lx.take_mk 4 (.pointer (some ⟨F3, 1, none⟩)) rfl (by kernel_rfl) (by kernel_rfl) (by kernel_rfl) (fun _ _ _ h => h) (Or.inl ⟨by rfl, ?_⟩) (by first | assumption | trivial) ?_
  · intro w hSw; (try dsimp only at hSw); go_simp
  try simp only [Act.put, List.setIfInBounds_toArray, List.set_cons_zero, List.set_cons_succ]
  refine Lx.take_mk 5 (.string f.nm) rfl (by kernel_rfl) (by kernel_rfl) (by kernel_rfl) (fun _ _ _ h => h) (Or.inl ⟨by rfl, ?_⟩) (by first | assumption | trivial) ?_
  · intro w hSw; obtain ⟨q0, q1, q2, q3⟩ := hSw; (try dsimp only at hSw); go_simp
  try simp only [Act.put, List.setIfInBounds_toArray, List.set_cons_zero, List.set_cons_succ]
  refine Lx.take_mk 6 (.int .i64 ou) rfl (by kernel_rfl) (by kernel_rfl) (by kernel_rfl) (fun _ _ _ h => h) (Or.inl ⟨by rfl, ?_⟩) (by first | assumption | trivial) ?_
  · intro w hSw; obtain ⟨q0, q1, q2, q3⟩ := hSw; (try dsimp only at hSw); go_simp
  try simp only [Act.put, List.setIfInBounds_toArray, List.set_cons_zero, List.set_cons_succ]
  refine wpAnyH_ready (rs := [7]) (by kernel_rfl) (by simp) ?_
  refine AllReadyH.cons rfl (fun K hK => ?_) AllReadyH.nil
  go_simp
  refine hK.out _ _ s0 (fun hHeld => ?_)
  clear hK K
  try simp only [Act.put, List.getElem_toArray, List.getElem_cons_succ, List.getElem_cons_zero, List.setIfInBounds_toArray, List.set_cons_zero, List.set_cons_succ]
  refine wpAnyH_done (by kernel_rfl) ?_ _
  go_wp2
  refine bodyPost_end (results_none rfl _ _ _) rfl ?_
  exact ⟨rfl, HF.out.1, HF.out.2⟩
end
