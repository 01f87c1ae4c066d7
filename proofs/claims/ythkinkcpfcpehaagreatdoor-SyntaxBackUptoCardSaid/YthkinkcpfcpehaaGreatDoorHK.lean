import Derived.Test.YthkinkcpfcpehaaGreatDoorHJ
namespace Go.Proofs.YthkinkcpfcpehaaGreatDoor
set_option maxRecDepth 100000
set_option maxHeartbeats 16000000
open Go.RowKit Go.Shelf
theorem KidsP.at1 {P : Nat → Prop} {X : World} {ka : Option Addr} {kc n : Nat} {l : List Fm} (h : KidsP P X (.slice ka n kc) l) {a : Fm} (hl : l = [a]) :
    ∃ b o a1 c1 a2 c2 a3 c3, ka = some ⟨b, o, none⟩ ∧ (X.cell? ⟨b, o, none⟩ = some (.int .i64 a.k) ∧ X.cell? ⟨b, o + 1, none⟩ = some (.string a.nm) ∧ X.cell? ⟨b, o + 2, none⟩ = some (.int .i64 a.l.v) ∧ X.cell? ⟨b, o + 3, none⟩ = some (.string a.l.fn) ∧ X.cell? ⟨b, o + 4, none⟩ = some (.slice a1 a.l.args.length c1) ∧ X.cell? ⟨b, o + 5, none⟩ = some (.int .i64 a.r.v) ∧ X.cell? ⟨b, o + 6, none⟩ = some (.string a.r.fn) ∧ X.cell? ⟨b, o + 7, none⟩ = some (.slice a2 a.r.args.length c2) ∧ X.cell? ⟨b, o + 8, none⟩ = some (.slice a3 a.kids.length c3)) ∧ FmP P X a (.slice a1 a.l.args.length c1) (.slice a2 a.r.args.length c2) (.slice a3 a.kids.length c3) := by
  subst hl
  obtain ⟨b, o, sl, sr, sk, rfl, _, _, ⟨y0, y1, ⟨y2, y3, y4⟩, ⟨y5, y6, y7⟩, y8⟩, hf⟩ := h.nth (i := 0) (by simp)
  simp only [List.getElem_cons_zero] at y0 y1 y2 y3 y4 y5 y6 y7 y8 hf
  obtain ⟨a1, c1, rfl, _, _⟩ := hf.l.slice'
  obtain ⟨a2, c2, rfl, _, _⟩ := hf.r.slice'
  obtain ⟨a3, c3, rfl, _, _⟩ := hf.k.slice
  simp only [Nat.zero_mul, Nat.add_zero] at y0 y1 y2 y3 y4 y5 y6 y7 y8
  exact ⟨b, o, a1, c1, a2, c2, a3, c3, rfl, ⟨y0, y1, y2, y3, y4, y5, y6, y7, y8⟩, hf⟩
theorem KidsP.at2 {P : Nat → Prop} {X : World} {ka : Option Addr} {kc n : Nat} {l : List Fm} (h : KidsP P X (.slice ka n kc) l) {g a : Fm} (hl : l = [g, a]) :
    ∃ b o a1 c1 a2 c2 a3 c3, ka = some ⟨b, o, none⟩ ∧ (X.cell? ⟨b, o + 9, none⟩ = some (.int .i64 a.k) ∧ X.cell? ⟨b, o + 9 + 1, none⟩ = some (.string a.nm) ∧ X.cell? ⟨b, o + 9 + 2, none⟩ = some (.int .i64 a.l.v) ∧ X.cell? ⟨b, o + 9 + 3, none⟩ = some (.string a.l.fn) ∧ X.cell? ⟨b, o + 9 + 4, none⟩ = some (.slice a1 a.l.args.length c1) ∧ X.cell? ⟨b, o + 9 + 5, none⟩ = some (.int .i64 a.r.v) ∧ X.cell? ⟨b, o + 9 + 6, none⟩ = some (.string a.r.fn) ∧ X.cell? ⟨b, o + 9 + 7, none⟩ = some (.slice a2 a.r.args.length c2) ∧ X.cell? ⟨b, o + 9 + 8, none⟩ = some (.slice a3 a.kids.length c3)) ∧ FmP P X a (.slice a1 a.l.args.length c1) (.slice a2 a.r.args.length c2) (.slice a3 a.kids.length c3) := by
  subst hl
  obtain ⟨b, o, sl, sr, sk, rfl, _, _, ⟨y0, y1, ⟨y2, y3, y4⟩, ⟨y5, y6, y7⟩, y8⟩, hf⟩ := h.nth (i := 1) (by simp)
  simp only [List.getElem_cons_succ, List.getElem_cons_zero] at y0 y1 y2 y3 y4 y5 y6 y7 y8 hf
  obtain ⟨a1, c1, rfl, _, _⟩ := hf.l.slice'
  obtain ⟨a2, c2, rfl, _, _⟩ := hf.r.slice'
  obtain ⟨a3, c3, rfl, _, _⟩ := hf.k.slice
  simp only [Nat.one_mul] at y0 y1 y2 y3 y4 y5 y6 y7 y8
  exact ⟨b, o, a1, c1, a2, c2, a3, c3, rfl, ⟨y0, y1, y2, y3, y4, y5, y6, y7, y8⟩, hf⟩
theorem KidsP.at20 {P : Nat → Prop} {X : World} {ka : Option Addr} {kc n : Nat} {l : List Fm} (h : KidsP P X (.slice ka n kc) l) {a g : Fm} (hl : l = [a, g]) :
    ∃ b o a1 c1 a2 c2 a3 c3, ka = some ⟨b, o, none⟩ ∧ (X.cell? ⟨b, o, none⟩ = some (.int .i64 a.k) ∧ X.cell? ⟨b, o + 1, none⟩ = some (.string a.nm) ∧ X.cell? ⟨b, o + 2, none⟩ = some (.int .i64 a.l.v) ∧ X.cell? ⟨b, o + 3, none⟩ = some (.string a.l.fn) ∧ X.cell? ⟨b, o + 4, none⟩ = some (.slice a1 a.l.args.length c1) ∧ X.cell? ⟨b, o + 5, none⟩ = some (.int .i64 a.r.v) ∧ X.cell? ⟨b, o + 6, none⟩ = some (.string a.r.fn) ∧ X.cell? ⟨b, o + 7, none⟩ = some (.slice a2 a.r.args.length c2) ∧ X.cell? ⟨b, o + 8, none⟩ = some (.slice a3 a.kids.length c3)) ∧ FmP P X a (.slice a1 a.l.args.length c1) (.slice a2 a.r.args.length c2) (.slice a3 a.kids.length c3) := by
  subst hl
  obtain ⟨b, o, sl, sr, sk, rfl, _, _, ⟨y0, y1, ⟨y2, y3, y4⟩, ⟨y5, y6, y7⟩, y8⟩, hf⟩ := h.nth (i := 0) (by simp)
  simp only [List.getElem_cons_zero] at y0 y1 y2 y3 y4 y5 y6 y7 y8 hf
  obtain ⟨a1, c1, rfl, _, _⟩ := hf.l.slice'
  obtain ⟨a2, c2, rfl, _, _⟩ := hf.r.slice'
  obtain ⟨a3, c3, rfl, _, _⟩ := hf.k.slice
  simp only [Nat.zero_mul, Nat.add_zero] at y0 y1 y2 y3 y4 y5 y6 y7 y8
  exact ⟨b, o, a1, c1, a2, c2, a3, c3, rfl, ⟨y0, y1, y2, y3, y4, y5, y6, y7, y8⟩, hf⟩
theorem kids_count {f : Fm} (h : shB f = true) : (f.kids.length : Int) = kidsN f.k ∧ ∀ a ∈ f.kids, shB a = true := by
  have h1 := shB_eq f
  rw [h] at h1
  have h2 := h1.symm
  simp only [Bool.and_eq_true, decide_eq_true_eq] at h2
  exact ⟨h2.1, List.all_eq_true.1 h2.2.2.2⟩
theorem kind_of {k : Int} {n : Nat} (h : (n : Int) = kidsN k) : k = 1 ∨ k = 2 ∨ k = 3 ∨ k = 4 ∨ k = 5 ∨ k = 6 ∨ k = 7 ∨ k = 8 ∨ k = 9 ∨ k = 10 := by
  unfold kidsN at h
  split at h
  · omega
  · split at h
    · omega
    · split at h <;> omega
theorem wformula_any (f : Fm) : f.nsm → shB f = true → WFc f := by
  refine Fm.ind (P := fun f => f.nsm → shB f = true → WFc f) (fun f ih => ?_) f
  intro hn hsh B l w sl sr sk h hf hs hB hlen
  have hS0 := WS.start h hf hs hB
  obtain ⟨W0, hW0⟩ : ∃ X : World, w.alloc (fbox f sl sr sk) = X := ⟨_, rfl⟩
  obtain ⟨R, hR⟩ : ∃ R, w.heap.size = R := ⟨_, rfl⟩
  rw [hW0, hR] at hS0
  obtain ⟨la, lc, rfl, _, _⟩ := hf.l.slice'
  obtain ⟨ra, rc, rfl, _, _⟩ := hf.r.slice'
  obtain ⟨ka, kc, rfl, hkc, hkm⟩ := hf.k.slice
  have HE := hidR (shF_eq f)
  have HW0 := hidR hW0
  have HL := hidR hlen
  have HN := hidR hn
  have HK := hidR (fun a (ha : a ∈ f.kids) => ih a ha (Fm.nsm_kids hn a ha) ((kids_count hsh).2 a ha))
  have HS0 := hidR hS0
  have hcnt := (kids_count hsh).1
  obtain ⟨n0, n1, n2, n3, n4, n5, n6, n7, n8⟩ := hS0.cells
  clear h hf hs hB hlen hn hsh ih hS0 hW0 hkm
  have hkd := kind_of hcnt
  have HCN := hidR hcnt
  have HKD := hidR hkd
  clear hcnt hkd
  go_enter Tryz.func35, Tryz.ntmps35
  go_upto_region 1 with fail
  try simp only [hR]
  rw [show _ = W0 from HW0.out]
  clear HW0
  have hcnt := HCN.out
  rcases HKD.out with hk | hk | hk | hk | hk | hk | hk | hk | hk | hk
  · rw [hk] at n0
    have sgx : W0.cell? ⟨0, 1, none⟩ = some (.string ⟨#[]⟩) := cell_storeR HS0.out.sg rfl
    have HEE : Hid (shF f = shA f ⟨#[61]⟩) := by show _ = _; rw [HE.out]; unfold shJ; rw [if_pos hk]
    clear HE HK hcnt
    clear HCN HKD
    have hwa := watom_any HN.out ⟨#[61]⟩ HS0.out.wr HS0.out.fm (by have := HL.out; rw [HEE.out] at this; exact this)
    simp only [fval, hk] at hwa
    clear hk
    go_wp2_with fail
    refine hwa.mono ?_
    rintro e W2 ⟨rfl, hw2, hk2⟩
    have HX : Hid (Wr B (l ++ shF f) W2 ∧ Kp B w W2) := ⟨by rw [HEE.out]; exact hw2, HS0.out.kp.trans hk2⟩
    clear hwa hw2 hk2
    go_wp2
    refine bodyPost_end (results_none rfl _ _ _) rfl ?_
    exact ⟨rfl, HX.out.1, HX.out.2⟩
  · rw [hk] at n0
    have sgx : W0.cell? ⟨0, 2, none⟩ = some (.string ⟨#[126]⟩) := cell_storeR HS0.out.sg rfl
    have hks : ∃ a, f.kids = [a] := by
      rw [hk] at hcnt
      have h1 : f.kids.length = 1 := by have : (f.kids.length : Int) = 1 := hcnt; omega
      match hh : f.kids, h1 with
      | [a], _ => exact ⟨a, rfl⟩
    obtain ⟨a, hks⟩ := hks
    have hkl : f.kids.length = 1 := by rw [hks]; rfl
    have hWa := HK.out a (by rw [hks]; simp)
    have HEE : Hid (shF f = shNg a (shF a)) := by show _ = _; rw [HE.out]; unfold shJ; rw [if_neg (by rw [hk]; decide), if_pos hk, hks]; rfl
    have hna : a.nsm := Fm.nsm_kids HN.out a (by rw [hks]; simp)
    obtain ⟨b, o, a1, c1, a2, c2, a3, c3, rfl, ⟨y0, y1, y2, y3, y4, y5, y6, y7, y8⟩, hfa⟩ := HS0.out.fm.k.at1 hks
    have hwn := wneg_any hna hWa HS0.out.wr hfa HS0.out.sg HS0.out.B0 (by have := HL.out; rw [HEE.out] at this; exact this)
    rw [hkl] at n8 hkc
    clear HE HK hcnt hk hks hkl hna hWa hfa
    clear HCN HKD
    go_wp2_with fail
    refine hwn.mono ?_
    rintro e W2 ⟨rfl, hw2, hk2⟩
    have HX : Hid (Wr B (l ++ shF f) W2 ∧ Kp B w W2) := ⟨by rw [HEE.out]; exact hw2, HS0.out.kp.trans hk2⟩
    clear hwn hw2 hk2
    go_wp2
    refine bodyPost_end (results_none rfl _ _ _) rfl ?_
    exact ⟨rfl, HX.out.1, HX.out.2⟩
  · rw [hk] at n0
    have sgx : W0.cell? ⟨0, 3, none⟩ = some (.string ⟨#[38]⟩) := cell_storeR HS0.out.sg rfl
    have hks : ∃ a b, f.kids = [a, b] := by
      rw [hk] at hcnt
      have h1 : f.kids.length = 2 := by have : (f.kids.length : Int) = 2 := hcnt; omega
      match hh : f.kids, h1 with
      | [a, b], _ => exact ⟨a, b, rfl⟩
    obtain ⟨ga, gb, hks⟩ := hks
    have hkl : f.kids.length = 2 := by rw [hks]; rfl
    have hWa := HK.out ga (by rw [hks]; simp)
    have hWb := HK.out gb (by rw [hks]; simp)
    have HEE : Hid (shF f = [40] ++ shF ga ++ ([32] ++ (⟨#[38]⟩ : ByteArray).data.toList ++ [32]) ++ shF gb ++ [41]) := by show _ = _; rw [HE.out]; unfold shJ; rw [if_neg (by rw [hk]; decide), if_neg (by rw [hk]; decide), if_neg (by rw [hk]; decide), if_neg (by rw [hk]; decide), hks, hk]; rfl
    have HLL : Hid (l.length + (1 + (shF ga).length + (1 + 1 + 1) + (shF gb).length + 1) ≤ 140737488355328) := by
      have := HL.out
      rw [HEE.out] at this
      simp only [List.length_append, List.length_cons, List.length_nil] at this
      exact this
    have hp := put1 HS0.out.wr ⟨#[40]⟩ (by have := HLL.out; show l.length + 1 ≤ _; omega)
    have HWa := hidR hWa
    have HWb := hidR hWb
    have HKS := hidR (And.intro hks hkl)
    clear HE HK hcnt hk hks hkl hWa hWb
    clear HCN HKD
    go_wp2_with fail
    refine hp.mono ?_
    rintro e W2 ⟨rfl, hw2, hk2⟩
    have hS2 := HS0.out.next hw2 hk2
    clear hp hw2 hk2 n0 n1 n2 n3 n4 n5 n6 n7 n8 sgx HS0
    obtain ⟨n0, n1, n2, n3, n4, n5, n6, n7, n8⟩ := hS2.cells
    obtain ⟨b, o, a1, c1, a2, c2, a3, c3, rfl, ⟨y0, y1, y2, y3, y4, y5, y6, y7, y8⟩, hfa⟩ := hS2.fm.k.at20 HKS.out.1
    rw [HKS.out.2] at n8 hkc
    have hwf := HWa.out B _ W2 _ _ _ hS2.wr hfa hS2.sg hS2.B0 (by have := HLL.out; simp only [List.length_append]; show l.length + 1 + _ ≤ _; omega)
    have HS2 := hidR hS2
    clear hS2 hfa
    go_wp2_with fail
    refine hwf.mono ?_
    rintro e W3 ⟨rfl, hw3, hk3⟩
    have hS3 := HS2.out.next hw3 hk3
    clear hwf hw3 hk3 n0 n1 n2 n3 n4 n5 n6 n7 n8 y0 y1 y2 y3 y4 y5 y6 y7 y8 HS2
    have hp := put3 hS3.wr ⟨#[32]⟩ ⟨#[38]⟩ ⟨#[32]⟩ (by have := HLL.out; simp only [List.length_append]; show l.length + 1 + _ + (1 + 1 + 1) ≤ _; omega)
    have HS3 := hidR hS3
    clear hS3
    go_wp2_with fail
    refine hp.mono ?_
    rintro e W4 ⟨rfl, hw4, hk4⟩
    have hS4 := HS3.out.next hw4 hk4
    clear hp hw4 hk4 HS3
    obtain ⟨n0, n1, n2, n3, n4, n5, n6, n7, n8⟩ := hS4.cells
    obtain ⟨b', o', a1', c1', a2', c2', a3', c3', heq, ⟨y0, y1, y2, y3, y4, y5, y6, y7, y8⟩, hfb⟩ := hS4.fm.k.at2 HKS.out.1
    cases heq
    rw [HKS.out.2] at n8
    have hwf := HWb.out B _ W4 _ _ _ hS4.wr hfb hS4.sg hS4.B0 (by have := HLL.out; simp only [List.length_append, List.length_cons, List.length_nil]; show l.length + 1 + _ + (1 + 1 + 1) + _ ≤ _; omega)
    have HS4 := hidR hS4
    clear hS4 hfb
    go_wp2_with fail
    refine hwf.mono ?_
    rintro e W5 ⟨rfl, hw5, hk5⟩
    have hS5 := HS4.out.next hw5 hk5
    clear hwf hw5 hk5 n0 n1 n2 n3 n4 n5 n6 n7 n8 y0 y1 y2 y3 y4 y5 y6 y7 y8 HS4
    have hp := put1 hS5.wr ⟨#[41]⟩ (by have := HLL.out; simp only [List.length_append, List.length_cons, List.length_nil]; show l.length + 1 + _ + (1 + 1 + 1) + _ + 1 ≤ _; omega)
    have HS5 := hidR hS5
    clear hS5
    go_wp2_with fail
    refine hp.mono ?_
    rintro e W6 ⟨rfl, hw6, hk6⟩
    have HX : Hid (Wr B (l ++ shF f) W6 ∧ Kp B w W6) := ⟨by
      rw [HEE.out]
      have h9 : l ++ (⟨#[40]⟩ : ByteArray).data.toList ++ shF ga ++ ((⟨#[32]⟩ : ByteArray).data.toList ++ (⟨#[38]⟩ : ByteArray).data.toList ++ (⟨#[32]⟩ : ByteArray).data.toList) ++ shF gb ++ (⟨#[41]⟩ : ByteArray).data.toList = l ++ ([40] ++ shF ga ++ ([32] ++ (⟨#[38]⟩ : ByteArray).data.toList ++ [32]) ++ shF gb ++ [41]) := by simp only [List.append_assoc]
      rw [← h9]; exact hw6, HS5.out.kp.trans hk6⟩
    clear hp hw6 hk6
    go_wp2
    refine bodyPost_end (results_none rfl _ _ _) rfl ?_
    exact ⟨rfl, HX.out.1, HX.out.2⟩
  · rw [hk] at n0
    have sgx : W0.cell? ⟨0, 4, none⟩ = some (.string ⟨#[124]⟩) := cell_storeR HS0.out.sg rfl
    have hks : ∃ a b, f.kids = [a, b] := by
      rw [hk] at hcnt
      have h1 : f.kids.length = 2 := by have : (f.kids.length : Int) = 2 := hcnt; omega
      match hh : f.kids, h1 with
      | [a, b], _ => exact ⟨a, b, rfl⟩
    obtain ⟨ga, gb, hks⟩ := hks
    have hkl : f.kids.length = 2 := by rw [hks]; rfl
    have hWa := HK.out ga (by rw [hks]; simp)
    have hWb := HK.out gb (by rw [hks]; simp)
    have HEE : Hid (shF f = [40] ++ shF ga ++ ([32] ++ (⟨#[124]⟩ : ByteArray).data.toList ++ [32]) ++ shF gb ++ [41]) := by show _ = _; rw [HE.out]; unfold shJ; rw [if_neg (by rw [hk]; decide), if_neg (by rw [hk]; decide), if_neg (by rw [hk]; decide), if_neg (by rw [hk]; decide), hks, hk]; rfl
    have HLL : Hid (l.length + (1 + (shF ga).length + (1 + 1 + 1) + (shF gb).length + 1) ≤ 140737488355328) := by
      have := HL.out
      rw [HEE.out] at this
      simp only [List.length_append, List.length_cons, List.length_nil] at this
      exact this
    have hp := put1 HS0.out.wr ⟨#[40]⟩ (by have := HLL.out; show l.length + 1 ≤ _; omega)
    have HWa := hidR hWa
    have HWb := hidR hWb
    have HKS := hidR (And.intro hks hkl)
    clear HE HK hcnt hk hks hkl hWa hWb
    clear HCN HKD
    go_wp2_with fail
    refine hp.mono ?_
    rintro e W2 ⟨rfl, hw2, hk2⟩
    have hS2 := HS0.out.next hw2 hk2
    clear hp hw2 hk2 n0 n1 n2 n3 n4 n5 n6 n7 n8 sgx HS0
    obtain ⟨n0, n1, n2, n3, n4, n5, n6, n7, n8⟩ := hS2.cells
    obtain ⟨b, o, a1, c1, a2, c2, a3, c3, rfl, ⟨y0, y1, y2, y3, y4, y5, y6, y7, y8⟩, hfa⟩ := hS2.fm.k.at20 HKS.out.1
    rw [HKS.out.2] at n8 hkc
    have hwf := HWa.out B _ W2 _ _ _ hS2.wr hfa hS2.sg hS2.B0 (by have := HLL.out; simp only [List.length_append]; show l.length + 1 + _ ≤ _; omega)
    have HS2 := hidR hS2
    clear hS2 hfa
    go_wp2_with fail
    refine hwf.mono ?_
    rintro e W3 ⟨rfl, hw3, hk3⟩
    have hS3 := HS2.out.next hw3 hk3
    clear hwf hw3 hk3 n0 n1 n2 n3 n4 n5 n6 n7 n8 y0 y1 y2 y3 y4 y5 y6 y7 y8 HS2
    have hp := put3 hS3.wr ⟨#[32]⟩ ⟨#[124]⟩ ⟨#[32]⟩ (by have := HLL.out; simp only [List.length_append]; show l.length + 1 + _ + (1 + 1 + 1) ≤ _; omega)
    have HS3 := hidR hS3
    clear hS3
    go_wp2_with fail
    refine hp.mono ?_
    rintro e W4 ⟨rfl, hw4, hk4⟩
    have hS4 := HS3.out.next hw4 hk4
    clear hp hw4 hk4 HS3
    obtain ⟨n0, n1, n2, n3, n4, n5, n6, n7, n8⟩ := hS4.cells
    obtain ⟨b', o', a1', c1', a2', c2', a3', c3', heq, ⟨y0, y1, y2, y3, y4, y5, y6, y7, y8⟩, hfb⟩ := hS4.fm.k.at2 HKS.out.1
    cases heq
    rw [HKS.out.2] at n8
    have hwf := HWb.out B _ W4 _ _ _ hS4.wr hfb hS4.sg hS4.B0 (by have := HLL.out; simp only [List.length_append, List.length_cons, List.length_nil]; show l.length + 1 + _ + (1 + 1 + 1) + _ ≤ _; omega)
    have HS4 := hidR hS4
    clear hS4 hfb
    go_wp2_with fail
    refine hwf.mono ?_
    rintro e W5 ⟨rfl, hw5, hk5⟩
    have hS5 := HS4.out.next hw5 hk5
    clear hwf hw5 hk5 n0 n1 n2 n3 n4 n5 n6 n7 n8 y0 y1 y2 y3 y4 y5 y6 y7 y8 HS4
    have hp := put1 hS5.wr ⟨#[41]⟩ (by have := HLL.out; simp only [List.length_append, List.length_cons, List.length_nil]; show l.length + 1 + _ + (1 + 1 + 1) + _ + 1 ≤ _; omega)
    have HS5 := hidR hS5
    clear hS5
    go_wp2_with fail
    refine hp.mono ?_
    rintro e W6 ⟨rfl, hw6, hk6⟩
    have HX : Hid (Wr B (l ++ shF f) W6 ∧ Kp B w W6) := ⟨by
      rw [HEE.out]
      have h9 : l ++ (⟨#[40]⟩ : ByteArray).data.toList ++ shF ga ++ ((⟨#[32]⟩ : ByteArray).data.toList ++ (⟨#[124]⟩ : ByteArray).data.toList ++ (⟨#[32]⟩ : ByteArray).data.toList) ++ shF gb ++ (⟨#[41]⟩ : ByteArray).data.toList = l ++ ([40] ++ shF ga ++ ([32] ++ (⟨#[124]⟩ : ByteArray).data.toList ++ [32]) ++ shF gb ++ [41]) := by simp only [List.append_assoc]
      rw [← h9]; exact hw6, HS5.out.kp.trans hk6⟩
    clear hp hw6 hk6
    go_wp2
    refine bodyPost_end (results_none rfl _ _ _) rfl ?_
    exact ⟨rfl, HX.out.1, HX.out.2⟩
  · rw [hk] at n0
    have sgx : W0.cell? ⟨0, 5, none⟩ = some (.string ⟨#[61, 62]⟩) := cell_storeR HS0.out.sg rfl
    have hks : ∃ a b, f.kids = [a, b] := by
      rw [hk] at hcnt
      have h1 : f.kids.length = 2 := by have : (f.kids.length : Int) = 2 := hcnt; omega
      match hh : f.kids, h1 with
      | [a, b], _ => exact ⟨a, b, rfl⟩
    obtain ⟨ga, gb, hks⟩ := hks
    have hkl : f.kids.length = 2 := by rw [hks]; rfl
    have hWa := HK.out ga (by rw [hks]; simp)
    have hWb := HK.out gb (by rw [hks]; simp)
    have HEE : Hid (shF f = [40] ++ shF ga ++ ([32] ++ (⟨#[61, 62]⟩ : ByteArray).data.toList ++ [32]) ++ shF gb ++ [41]) := by show _ = _; rw [HE.out]; unfold shJ; rw [if_neg (by rw [hk]; decide), if_neg (by rw [hk]; decide), if_neg (by rw [hk]; decide), if_neg (by rw [hk]; decide), hks, hk]; rfl
    have HLL : Hid (l.length + (1 + (shF ga).length + (1 + 2 + 1) + (shF gb).length + 1) ≤ 140737488355328) := by
      have := HL.out
      rw [HEE.out] at this
      simp only [List.length_append, List.length_cons, List.length_nil] at this
      exact this
    have hp := put1 HS0.out.wr ⟨#[40]⟩ (by have := HLL.out; show l.length + 1 ≤ _; omega)
    have HWa := hidR hWa
    have HWb := hidR hWb
    have HKS := hidR (And.intro hks hkl)
    clear HE HK hcnt hk hks hkl hWa hWb
    clear HCN HKD
    go_wp2_with fail
    refine hp.mono ?_
    rintro e W2 ⟨rfl, hw2, hk2⟩
    have hS2 := HS0.out.next hw2 hk2
    clear hp hw2 hk2 n0 n1 n2 n3 n4 n5 n6 n7 n8 sgx HS0
    obtain ⟨n0, n1, n2, n3, n4, n5, n6, n7, n8⟩ := hS2.cells
    obtain ⟨b, o, a1, c1, a2, c2, a3, c3, rfl, ⟨y0, y1, y2, y3, y4, y5, y6, y7, y8⟩, hfa⟩ := hS2.fm.k.at20 HKS.out.1
    rw [HKS.out.2] at n8 hkc
    have hwf := HWa.out B _ W2 _ _ _ hS2.wr hfa hS2.sg hS2.B0 (by have := HLL.out; simp only [List.length_append]; show l.length + 1 + _ ≤ _; omega)
    have HS2 := hidR hS2
    clear hS2 hfa
    go_wp2_with fail
    refine hwf.mono ?_
    rintro e W3 ⟨rfl, hw3, hk3⟩
    have hS3 := HS2.out.next hw3 hk3
    clear hwf hw3 hk3 n0 n1 n2 n3 n4 n5 n6 n7 n8 y0 y1 y2 y3 y4 y5 y6 y7 y8 HS2
    have hp := put3 hS3.wr ⟨#[32]⟩ ⟨#[61, 62]⟩ ⟨#[32]⟩ (by have := HLL.out; simp only [List.length_append]; show l.length + 1 + _ + (1 + 2 + 1) ≤ _; omega)
    have HS3 := hidR hS3
    clear hS3
    go_wp2_with fail
    refine hp.mono ?_
    rintro e W4 ⟨rfl, hw4, hk4⟩
    have hS4 := HS3.out.next hw4 hk4
    clear hp hw4 hk4 HS3
    obtain ⟨n0, n1, n2, n3, n4, n5, n6, n7, n8⟩ := hS4.cells
    obtain ⟨b', o', a1', c1', a2', c2', a3', c3', heq, ⟨y0, y1, y2, y3, y4, y5, y6, y7, y8⟩, hfb⟩ := hS4.fm.k.at2 HKS.out.1
    cases heq
    rw [HKS.out.2] at n8
    have hwf := HWb.out B _ W4 _ _ _ hS4.wr hfb hS4.sg hS4.B0 (by have := HLL.out; simp only [List.length_append, List.length_cons, List.length_nil]; show l.length + 1 + _ + (1 + 2 + 1) + _ ≤ _; omega)
    have HS4 := hidR hS4
    clear hS4 hfb
    go_wp2_with fail
    refine hwf.mono ?_
    rintro e W5 ⟨rfl, hw5, hk5⟩
    have hS5 := HS4.out.next hw5 hk5
    clear hwf hw5 hk5 n0 n1 n2 n3 n4 n5 n6 n7 n8 y0 y1 y2 y3 y4 y5 y6 y7 y8 HS4
    have hp := put1 hS5.wr ⟨#[41]⟩ (by have := HLL.out; simp only [List.length_append, List.length_cons, List.length_nil]; show l.length + 1 + _ + (1 + 2 + 1) + _ + 1 ≤ _; omega)
    have HS5 := hidR hS5
    clear hS5
    go_wp2_with fail
    refine hp.mono ?_
    rintro e W6 ⟨rfl, hw6, hk6⟩
    have HX : Hid (Wr B (l ++ shF f) W6 ∧ Kp B w W6) := ⟨by
      rw [HEE.out]
      have h9 : l ++ (⟨#[40]⟩ : ByteArray).data.toList ++ shF ga ++ ((⟨#[32]⟩ : ByteArray).data.toList ++ (⟨#[61, 62]⟩ : ByteArray).data.toList ++ (⟨#[32]⟩ : ByteArray).data.toList) ++ shF gb ++ (⟨#[41]⟩ : ByteArray).data.toList = l ++ ([40] ++ shF ga ++ ([32] ++ (⟨#[61, 62]⟩ : ByteArray).data.toList ++ [32]) ++ shF gb ++ [41]) := by simp only [List.append_assoc]
      rw [← h9]; exact hw6, HS5.out.kp.trans hk6⟩
    clear hp hw6 hk6
    go_wp2
    refine bodyPost_end (results_none rfl _ _ _) rfl ?_
    exact ⟨rfl, HX.out.1, HX.out.2⟩
  · rw [hk] at n0
    have sgx : W0.cell? ⟨0, 6, none⟩ = some (.string ⟨#[60, 61, 62]⟩) := cell_storeR HS0.out.sg rfl
    have hks : ∃ a b, f.kids = [a, b] := by
      rw [hk] at hcnt
      have h1 : f.kids.length = 2 := by have : (f.kids.length : Int) = 2 := hcnt; omega
      match hh : f.kids, h1 with
      | [a, b], _ => exact ⟨a, b, rfl⟩
    obtain ⟨ga, gb, hks⟩ := hks
    have hkl : f.kids.length = 2 := by rw [hks]; rfl
    have hWa := HK.out ga (by rw [hks]; simp)
    have hWb := HK.out gb (by rw [hks]; simp)
    have HEE : Hid (shF f = [40] ++ shF ga ++ ([32] ++ (⟨#[60, 61, 62]⟩ : ByteArray).data.toList ++ [32]) ++ shF gb ++ [41]) := by show _ = _; rw [HE.out]; unfold shJ; rw [if_neg (by rw [hk]; decide), if_neg (by rw [hk]; decide), if_neg (by rw [hk]; decide), if_neg (by rw [hk]; decide), hks, hk]; rfl
    have HLL : Hid (l.length + (1 + (shF ga).length + (1 + 3 + 1) + (shF gb).length + 1) ≤ 140737488355328) := by
      have := HL.out
      rw [HEE.out] at this
      simp only [List.length_append, List.length_cons, List.length_nil] at this
      exact this
    have hp := put1 HS0.out.wr ⟨#[40]⟩ (by have := HLL.out; show l.length + 1 ≤ _; omega)
    have HWa := hidR hWa
    have HWb := hidR hWb
    have HKS := hidR (And.intro hks hkl)
    clear HE HK hcnt hk hks hkl hWa hWb
    clear HCN HKD
    go_wp2_with fail
    refine hp.mono ?_
    rintro e W2 ⟨rfl, hw2, hk2⟩
    have hS2 := HS0.out.next hw2 hk2
    clear hp hw2 hk2 n0 n1 n2 n3 n4 n5 n6 n7 n8 sgx HS0
    obtain ⟨n0, n1, n2, n3, n4, n5, n6, n7, n8⟩ := hS2.cells
    obtain ⟨b, o, a1, c1, a2, c2, a3, c3, rfl, ⟨y0, y1, y2, y3, y4, y5, y6, y7, y8⟩, hfa⟩ := hS2.fm.k.at20 HKS.out.1
    rw [HKS.out.2] at n8 hkc
    have hwf := HWa.out B _ W2 _ _ _ hS2.wr hfa hS2.sg hS2.B0 (by have := HLL.out; simp only [List.length_append]; show l.length + 1 + _ ≤ _; omega)
    have HS2 := hidR hS2
    clear hS2 hfa
    go_wp2_with fail
    refine hwf.mono ?_
    rintro e W3 ⟨rfl, hw3, hk3⟩
    have hS3 := HS2.out.next hw3 hk3
    clear hwf hw3 hk3 n0 n1 n2 n3 n4 n5 n6 n7 n8 y0 y1 y2 y3 y4 y5 y6 y7 y8 HS2
    have hp := put3 hS3.wr ⟨#[32]⟩ ⟨#[60, 61, 62]⟩ ⟨#[32]⟩ (by have := HLL.out; simp only [List.length_append]; show l.length + 1 + _ + (1 + 3 + 1) ≤ _; omega)
    have HS3 := hidR hS3
    clear hS3
    go_wp2_with fail
    refine hp.mono ?_
    rintro e W4 ⟨rfl, hw4, hk4⟩
    have hS4 := HS3.out.next hw4 hk4
    clear hp hw4 hk4 HS3
    obtain ⟨n0, n1, n2, n3, n4, n5, n6, n7, n8⟩ := hS4.cells
    obtain ⟨b', o', a1', c1', a2', c2', a3', c3', heq, ⟨y0, y1, y2, y3, y4, y5, y6, y7, y8⟩, hfb⟩ := hS4.fm.k.at2 HKS.out.1
    cases heq
    rw [HKS.out.2] at n8
    have hwf := HWb.out B _ W4 _ _ _ hS4.wr hfb hS4.sg hS4.B0 (by have := HLL.out; simp only [List.length_append, List.length_cons, List.length_nil]; show l.length + 1 + _ + (1 + 3 + 1) + _ ≤ _; omega)
    have HS4 := hidR hS4
    clear hS4 hfb
    go_wp2_with fail
    refine hwf.mono ?_
    rintro e W5 ⟨rfl, hw5, hk5⟩
    have hS5 := HS4.out.next hw5 hk5
    clear hwf hw5 hk5 n0 n1 n2 n3 n4 n5 n6 n7 n8 y0 y1 y2 y3 y4 y5 y6 y7 y8 HS4
    have hp := put1 hS5.wr ⟨#[41]⟩ (by have := HLL.out; simp only [List.length_append, List.length_cons, List.length_nil]; show l.length + 1 + _ + (1 + 3 + 1) + _ + 1 ≤ _; omega)
    have HS5 := hidR hS5
    clear hS5
    go_wp2_with fail
    refine hp.mono ?_
    rintro e W6 ⟨rfl, hw6, hk6⟩
    have HX : Hid (Wr B (l ++ shF f) W6 ∧ Kp B w W6) := ⟨by
      rw [HEE.out]
      have h9 : l ++ (⟨#[40]⟩ : ByteArray).data.toList ++ shF ga ++ ((⟨#[32]⟩ : ByteArray).data.toList ++ (⟨#[60, 61, 62]⟩ : ByteArray).data.toList ++ (⟨#[32]⟩ : ByteArray).data.toList) ++ shF gb ++ (⟨#[41]⟩ : ByteArray).data.toList = l ++ ([40] ++ shF ga ++ ([32] ++ (⟨#[60, 61, 62]⟩ : ByteArray).data.toList ++ [32]) ++ shF gb ++ [41]) := by simp only [List.append_assoc]
      rw [← h9]; exact hw6, HS5.out.kp.trans hk6⟩
    clear hp hw6 hk6
    go_wp2
    refine bodyPost_end (results_none rfl _ _ _) rfl ?_
    exact ⟨rfl, HX.out.1, HX.out.2⟩
  · rw [hk] at n0
    have sgx : W0.cell? ⟨0, 7, none⟩ = some (.string ⟨#[33]⟩) := cell_storeR HS0.out.sg rfl
    have hks : ∃ a, f.kids = [a] := by
      rw [hk] at hcnt
      have h1 : f.kids.length = 1 := by have : (f.kids.length : Int) = 1 := hcnt; omega
      match hh : f.kids, h1 with
      | [a], _ => exact ⟨a, rfl⟩
    obtain ⟨a, hks⟩ := hks
    have hkl : f.kids.length = 1 := by rw [hks]; rfl
    have hWa := HK.out a (by rw [hks]; simp)
    have HEE : Hid (shF f = ((⟨#[33]⟩ : ByteArray).data.toList ++ [32, 91] ++ f.nm.data.toList ++ [93, 32, 58, 32]) ++ shF a) := by show _ = _; rw [HE.out]; unfold shJ; rw [if_neg (by rw [hk]; decide), if_neg (by rw [hk]; decide), if_pos (by rw [hk]; decide), hks, hk]; rfl
    have HLL : Hid (l.length + ((1 + 2 + f.nm.size + 4) + (shF a).length) ≤ 140737488355328) := by
      have := HL.out
      rw [HEE.out] at this
      simp only [List.length_append, List.length_cons, List.length_nil, Lx.size_len] at this
      exact this
    have hp := put4 HS0.out.wr ⟨#[33]⟩ ⟨#[32, 91]⟩ f.nm ⟨#[93, 32, 58, 32]⟩ (by have := HLL.out; show l.length + (1 + 2 + f.nm.size + 4) ≤ _; omega)
    have HWa := hidR hWa
    have HKS := hidR (And.intro hks hkl)
    clear HE HK hcnt hk hks hkl hWa
    clear HCN HKD
    go_wp2_with fail
    refine hp.mono ?_
    rintro e W2 ⟨rfl, hw2, hk2⟩
    have hS2 := HS0.out.next hw2 hk2
    clear hp hw2 hk2 n0 n1 n2 n3 n4 n5 n6 n7 n8 sgx HS0
    obtain ⟨n0, n1, n2, n3, n4, n5, n6, n7, n8⟩ := hS2.cells
    obtain ⟨b, o, a1, c1, a2, c2, a3, c3, rfl, ⟨y0, y1, y2, y3, y4, y5, y6, y7, y8⟩, hfa⟩ := hS2.fm.k.at1 HKS.out.1
    rw [HKS.out.2] at n8 hkc
    have hwf := HWa.out B _ W2 _ _ _ hS2.wr hfa hS2.sg hS2.B0 (by have := HLL.out; simp only [List.length_append, List.length_cons, List.length_nil, Lx.size_len]; show l.length + (1 + 2 + f.nm.size + 4) + _ ≤ _; omega)
    have HS2 := hidR hS2
    clear hS2 hfa
    go_wp2_with fail
    refine hwf.mono ?_
    rintro e W3 ⟨rfl, hw3, hk3⟩
    have HX : Hid (Wr B (l ++ shF f) W3 ∧ Kp B w W3) := ⟨by rw [HEE.out, ← List.append_assoc]; exact hw3, HS2.out.kp.trans hk3⟩
    clear hwf hw3 hk3 n0 n1 n2 n3 n4 n5 n6 n7 n8 y0 y1 y2 y3 y4 y5 y6 y7 y8
    go_wp2
    refine bodyPost_end (results_none rfl _ _ _) rfl ?_
    exact ⟨rfl, HX.out.1, HX.out.2⟩
  · rw [hk] at n0
    have sgx : W0.cell? ⟨0, 8, none⟩ = some (.string ⟨#[63]⟩) := cell_storeR HS0.out.sg rfl
    have hks : ∃ a, f.kids = [a] := by
      rw [hk] at hcnt
      have h1 : f.kids.length = 1 := by have : (f.kids.length : Int) = 1 := hcnt; omega
      match hh : f.kids, h1 with
      | [a], _ => exact ⟨a, rfl⟩
    obtain ⟨a, hks⟩ := hks
    have hkl : f.kids.length = 1 := by rw [hks]; rfl
    have hWa := HK.out a (by rw [hks]; simp)
    have HEE : Hid (shF f = ((⟨#[63]⟩ : ByteArray).data.toList ++ [32, 91] ++ f.nm.data.toList ++ [93, 32, 58, 32]) ++ shF a) := by show _ = _; rw [HE.out]; unfold shJ; rw [if_neg (by rw [hk]; decide), if_neg (by rw [hk]; decide), if_pos (by rw [hk]; decide), hks, hk]; rfl
    have HLL : Hid (l.length + ((1 + 2 + f.nm.size + 4) + (shF a).length) ≤ 140737488355328) := by
      have := HL.out
      rw [HEE.out] at this
      simp only [List.length_append, List.length_cons, List.length_nil, Lx.size_len] at this
      exact this
    have hp := put4 HS0.out.wr ⟨#[63]⟩ ⟨#[32, 91]⟩ f.nm ⟨#[93, 32, 58, 32]⟩ (by have := HLL.out; show l.length + (1 + 2 + f.nm.size + 4) ≤ _; omega)
    have HWa := hidR hWa
    have HKS := hidR (And.intro hks hkl)
    clear HE HK hcnt hk hks hkl hWa
    clear HCN HKD
    go_wp2_with fail
    refine hp.mono ?_
    rintro e W2 ⟨rfl, hw2, hk2⟩
    have hS2 := HS0.out.next hw2 hk2
    clear hp hw2 hk2 n0 n1 n2 n3 n4 n5 n6 n7 n8 sgx HS0
    obtain ⟨n0, n1, n2, n3, n4, n5, n6, n7, n8⟩ := hS2.cells
    obtain ⟨b, o, a1, c1, a2, c2, a3, c3, rfl, ⟨y0, y1, y2, y3, y4, y5, y6, y7, y8⟩, hfa⟩ := hS2.fm.k.at1 HKS.out.1
    rw [HKS.out.2] at n8 hkc
    have hwf := HWa.out B _ W2 _ _ _ hS2.wr hfa hS2.sg hS2.B0 (by have := HLL.out; simp only [List.length_append, List.length_cons, List.length_nil, Lx.size_len]; show l.length + (1 + 2 + f.nm.size + 4) + _ ≤ _; omega)
    have HS2 := hidR hS2
    clear hS2 hfa
    go_wp2_with fail
    refine hwf.mono ?_
    rintro e W3 ⟨rfl, hw3, hk3⟩
    have HX : Hid (Wr B (l ++ shF f) W3 ∧ Kp B w W3) := ⟨by rw [HEE.out, ← List.append_assoc]; exact hw3, HS2.out.kp.trans hk3⟩
    clear hwf hw3 hk3 n0 n1 n2 n3 n4 n5 n6 n7 n8 y0 y1 y2 y3 y4 y5 y6 y7 y8
    go_wp2
    refine bodyPost_end (results_none rfl _ _ _) rfl ?_
    exact ⟨rfl, HX.out.1, HX.out.2⟩
  · rw [hk] at n0
    have sgx : W0.cell? ⟨0, 9, none⟩ = some (.string ⟨#[36, 116, 114, 117, 101]⟩) := cell_storeR HS0.out.sg rfl
    have HEE : Hid (shF f = (⟨#[36, 116, 114, 117, 101]⟩ : ByteArray).data.toList) := by show _ = _; rw [HE.out]; unfold shJ; rw [if_neg (by rw [hk]; decide), if_neg (by rw [hk]; decide), if_neg (by rw [hk]; decide), if_pos (by rw [hk]; decide), hk]; rfl
    have hp := put1 HS0.out.wr ⟨#[36, 116, 114, 117, 101]⟩ (by have := HL.out; rw [HEE.out, Lx.size_len] at this; exact this)
    clear HE HK hcnt hk
    clear HCN HKD
    go_wp2_with fail
    refine hp.mono ?_
    rintro e W2 ⟨rfl, hw2, hk2⟩
    have HX : Hid (Wr B (l ++ shF f) W2 ∧ Kp B w W2) := ⟨by rw [HEE.out]; exact hw2, HS0.out.kp.trans hk2⟩
    clear hp hw2 hk2 n0 n1 n2 n3 n4 n5 n6 n7 n8
    go_wp2
    refine bodyPost_end (results_none rfl _ _ _) rfl ?_
    exact ⟨rfl, HX.out.1, HX.out.2⟩
  · rw [hk] at n0
    have sgx : W0.cell? ⟨0, 10, none⟩ = some (.string ⟨#[36, 102, 97, 108, 115, 101]⟩) := cell_storeR HS0.out.sg rfl
    have HEE : Hid (shF f = (⟨#[36, 102, 97, 108, 115, 101]⟩ : ByteArray).data.toList) := by show _ = _; rw [HE.out]; unfold shJ; rw [if_neg (by rw [hk]; decide), if_neg (by rw [hk]; decide), if_neg (by rw [hk]; decide), if_pos (by rw [hk]; decide), hk]; rfl
    have hp := put1 HS0.out.wr ⟨#[36, 102, 97, 108, 115, 101]⟩ (by have := HL.out; rw [HEE.out, Lx.size_len] at this; exact this)
    clear HE HK hcnt hk
    clear HCN HKD
    go_wp2_with fail
    refine hp.mono ?_
    rintro e W2 ⟨rfl, hw2, hk2⟩
    have HX : Hid (Wr B (l ++ shF f) W2 ∧ Kp B w W2) := ⟨by rw [HEE.out]; exact hw2, HS0.out.kp.trans hk2⟩
    clear hp hw2 hk2 n0 n1 n2 n3 n4 n5 n6 n7 n8
    go_wp2
    refine bodyPost_end (results_none rfl _ _ _) rfl ?_
    exact ⟨rfl, HX.out.1, HX.out.2⟩
