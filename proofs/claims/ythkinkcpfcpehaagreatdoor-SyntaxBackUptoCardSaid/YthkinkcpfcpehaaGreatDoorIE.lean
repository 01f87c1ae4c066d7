import Derived.Test.YthkinkcpfcpehaaGreatDoorIC
namespace Go.Proofs.YthkinkcpfcpehaaGreatDoor
set_option maxRecDepth 100000
set_option maxHeartbeats 32000000
section
open Go.RowKit Go.Maps
theorem Only.wide {B B' : List Nat} {w w' : World} (h : Only B w w') (hB : ∀ r ∈ B, r ∈ B') : Only B' w w' := ⟨h.os, h.tape, h.output, h.size, fun k hk hn => h.block k hk fun hm => hn (hB k hm)⟩
theorem Only.two1 {a b : Nat} {w w' : World} (h : Only [a] w w') : Only [a, b] w w' := h.wide (by simp)
theorem Only.two2 {a b : Nat} {w w' : World} (h : Only [b] w w') : Only [a, b] w w' := h.wide (by simp)
structure Wi2 (w : World) (mb mm R nr : Nat) (nm : ByteArray) (f : ByteArray → Option Int) (n : Nat) (Z : World → Prop) (X : World) : Prop where
  box : X.heap[R]? = some (.cells #[.map (some mb), .map (some mm)] 52 (0, 0))
  row : X.heap[nr]? = some (.cells #[.string nm] 9 (0, 0))
  st : Nm X mb f n
  on : Only [mb, mm] w X
  Rm : R ≠ mb ∧ R ≠ mm
  nr' : nr ≠ mb ∧ nr ≠ mm
  z : Z X
theorem Wi2.next {w : World} {mb mm R nr : Nat} {nm : ByteArray} {f f' : ByteArray → Option Int} {n n' : Nat} {Z : World → Prop} {X Y : World} (h : Wi2 w mb mm R nr nm f n Z X) (hZ : ∀ X Y, Z X → Only [mb] X Y → Z Y) (hs : Nm Y mb f' n') (ho : Only [mb] X Y) : Wi2 w mb mm R nr nm f' n' Z Y :=
  ⟨(ho.block R (Array.getElem?_eq_some_iff.1 h.box).1 (by have := h.Rm; simpa using this.1)).trans h.box, (ho.block nr (Array.getElem?_eq_some_iff.1 h.row).1 (by have := h.nr'; simpa using this.1)).trans h.row, hs, h.on.trans ho.two1 (fun r hr => .inl hr), h.Rm, h.nr', hZ _ _ h.z ho⟩
theorem Wi1.to {w : World} {mb mm R nr : Nat} {nm : ByteArray} {f f' : ByteArray → Option Int} {n n' : Nat} {Z : World → Prop} {X Y : World} (h : Wi1 w mb mm R nr nm f n X) (hR : R ≠ mm) (hr : nr ≠ mm) (hs : Nm Y mb f' n') (ho : Only [mb, mm] X Y) (hz : Z Y) : Wi2 w mb mm R nr nm f' n' Z Y :=
  ⟨(ho.block R (Array.getElem?_eq_some_iff.1 h.box).1 (by have := h.Rm; simp; omega)).trans h.box, (ho.block nr (Array.getElem?_eq_some_iff.1 h.row).1 (by have := h.nr'; simp; omega)).trans h.row, hs, h.on.two1.trans ho (fun r hr => .inl hr), ⟨h.Rm, hR⟩, ⟨h.nr', hr⟩, hz⟩
theorem within2 {mb mm n n' nr : Nat} {f : ByteArray → Option Int} {nm : ByteArray} {p1 p2 : Value} {w : World} {Z : World → Prop} (hZ : ∀ X Y, Z X → Only [mb] X Y → Z Y) (hf : Nm w mb f n) (hmm : mm < w.heap.size) (hr : w.heap[nr]? = some (.cells #[.string nm] 9 (0, 0))) (hne : nr ≠ mb ∧ nr ≠ mm) (hs : nm.size ≤ maxLen) (hc0 : 0 ≤ (f nm).getD 0) (hc1 : (f nm).getD 0 ≤ 4194304) (hn : n ≤ 16777216) (hn' : n' ≤ 16777216)
    (hw : ∀ X, Nm X mb (fput f nm ((f nm).getD 0 + 1)) (n + 1) → Only [mb] w X → Calls Tryz.prog 86 #[p1, p2] X fun e w' => e = .returned (.tuple #[]) ∧ Z w' ∧ ∃ f', (∀ s, (f' s).getD 0 = (fput f nm ((f nm).getD 0 + 1) s).getD 0) ∧ Nm w' mb f' n' ∧ Only [mb, mm] X w') :
    Calls Tryz.prog 85 #[.agg #[.map (some mb), .map (some mm)], .slice (some ⟨nr, 0, none⟩) 1 1, .func (.func 86) #[] #[p1, p2]] w fun e w' => e = .returned (.tuple #[]) ∧ Z w' ∧ ∃ f', (∀ s, (f' s).getD 0 = (f s).getD 0) ∧ Nm w' mb f' (n' + 1) ∧ Only [mb, mm] w w' := by
  have hb0 := below_box w (.cells #[.map (some mb), .map (some mm)] 52)
  have hz := (MapKept.heap_alloc w (.cells #[.map (some mb), .map (some mm)] 52)).1
  have hm := hf.lt
  have hrl := (Array.getElem?_eq_some_iff.1 hr).1
  have hW : Wi1 w mb mm w.heap.size nr nm f n (w.alloc (.cells #[.map (some mb), .map (some mm)] 52)) := ⟨hz, (hb0.block nr hrl).trans hr, hf.same (hb0.block mb hm), Only.of_below hb0, by omega, hne.1⟩
  obtain ⟨W0, hW0⟩ : ∃ X : World, w.alloc (.cells #[.map (some mb), .map (some mm)] 52) = X := ⟨_, rfl⟩
  obtain ⟨R, hR⟩ : ∃ R, w.heap.size = R := ⟨_, rfl⟩
  have hRmm : R ≠ mm := by omega
  rw [hW0, hR] at hW
  have HHW := hidR hw
  have HZ := hidR hZ
  have HNE := hidR (And.intro hne.2 hRmm)
  have HH := hidR hW
  have HW0 := hidR hW0
  obtain ⟨c, hc⟩ : ∃ c, (f nm).getD 0 = c := ⟨_, rfl⟩
  rw [hc] at HHW hc0 hc1
  have HC := hidR hc
  clear hf hr hne hw hb0 hz hm hrl hW hW0 hc hZ hRmm hmm
  have hmb : 4194304 < maxLen ∧ 16777217 < maxLen := by unfold maxLen; decide
  go_enter Tryz.func85, Tryz.ntmps85
  go_upto_region 1 with fail
  try simp only [hR]
  rw [show _ = W0 from HW0.out]
  clear HW0
  go_wp2
  go_loopw [7, 12] (fun v7 vi wr => ∃ i : Nat, vi = .int .i64 i ∧ i ≤ 1 ∧ Hid ((i = 0 → Wi1 w mb mm R nr nm f n wr) ∧ (i = 1 → Wi1 w mb mm R nr nm (fput f nm (c + 1)) (n + 1) wr))) (fun v7 vi _ => 1 - (intOf vi).toNat)
  case atStart => exact ⟨0, rfl, by omega, fun _ => HH.out, fun h => absurd h (by omega)⟩
  case round =>
    obtain ⟨i, rfl, hi, HI⟩ := hrel
    by_cases hlt : i = 0
    · subst hlt
      have h1 := HI.out.1 rfl
      have x0 : wr.cell? ⟨R, 0, none⟩ = some (.map (some mb)) := cell_store (vs := [_, _]) h1.box rfl
      have y0 : wr.cell? ⟨nr, 0, none⟩ = some (.string nm) := cell_store (vs := [_]) h1.row rfl
      have hlook := h1.st.look hs
      rw [HC.out] at hlook
      obtain ⟨W1, hrun, hf1, ho1⟩ := h1.st.put (by omega) hs (c + 1)
      have HN : Hid (Wi1 w mb mm R nr nm (fput f nm (c + 1)) (n + 1) W1) := h1.next hf1 ho1
      have hw1 : wrap64 (c + 1) = c + 1 := by unfold wrap64; omega
      clear h1 hf1 ho1 HI hi
      go_wp2
      go_roundw
      case rel => exact ⟨1, by go_num, by omega, fun h => absurd h (by omega), fun _ => HN.out⟩
      case measure => simp [intOf]
    · have hi1 : i = 1 := by omega
      subst hi1
      have h1 := HI.out.2 rfl
      have hwk := HHW.out wr h1.st h1.on
      have H1 := hidR h1
      clear h1 HI hi hlt
      go_wp2_with fail
      refine hwk.mono ?_
      rintro e W2 ⟨rfl, hz2, f', hsame, hf', ho'⟩
      have H2 : Hid (Wi2 w mb mm R nr nm f' n' Z W2) := H1.out.to HNE.out.2 HNE.out.1 hf' ho' hz2
      have HS := hidR hsame
      have hcm : (f' nm).getD 0 = c + 1 := by rw [hsame, fput_getD, if_pos rfl]
      have HCM := hidR hcm
      clear hwk hsame hf' ho' hcm hz2
      obtain ⟨Wx, hWx⟩ : ∃ X, X = wr := ⟨_, rfl⟩
      subst hWx
      go_wp2
      go_loopw [9, 26] (fun v9 vi W => ∃ j : Nat, vi = .int .i64 j ∧ j ≤ 1 ∧ Hid ((j = 0 → Wi2 w mb mm R nr nm f' n' Z W) ∧ (j = 1 → ∃ f'', (∀ s, (f'' s).getD 0 = (f s).getD 0) ∧ Wi2 w mb mm R nr nm f'' (n' + 1) Z W))) (fun v9 vi _ => 1 - (intOf vi).toNat)
      case atStart => exact ⟨0, rfl, by omega, fun _ => H2.out, fun h => absurd h (by omega)⟩
      case round =>
        obtain ⟨j, rfl, hj, HJ⟩ := hrel
        by_cases hlt : j = 0
        · subst hlt
          have h1 := HJ.out.1 rfl
          have x0 : wr.cell? ⟨R, 0, none⟩ = some (.map (some mb)) := cell_store (vs := [_, _]) h1.box rfl
          have y0 : wr.cell? ⟨nr, 0, none⟩ = some (.string nm) := cell_store (vs := [_]) h1.row rfl
          have hlook := h1.st.look hs
          rw [HCM.out] at hlook
          obtain ⟨W1, hrun, hf1, ho1⟩ := h1.st.put (by omega) hs c
          have HN : Hid (∃ f'', (∀ s, (f'' s).getD 0 = (f s).getD 0) ∧ Wi2 w mb mm R nr nm f'' (n' + 1) Z W1) := by
            refine ⟨_, fun s => ?_, h1.next HZ.out hf1 ho1⟩
            rw [fput_getD]
            split
            · rename_i h; rw [h, HC.out]
            · rename_i h; rw [HS.out, fput_getD, if_neg h]
          have hw1 : wrap64 (c + 1 - 1) = c := by unfold wrap64; omega
          have hw2 : wrap64 (c + 1 + -1) = c := by unfold wrap64; omega
          have hcc : c + 1 - 1 = c := by omega
          clear h1 hf1 ho1 HJ hj
          go_wp2
          go_roundw
          case rel => exact ⟨1, by go_num, by omega, fun h => absurd h (by omega), fun _ => HN.out⟩
          case measure => simp [intOf]
        · have hj1 : j = 1 := by omega
          subst hj1
          obtain ⟨f'', hs'', h1⟩ := HJ.out.2 rfl
          have HX : Hid (Z wr ∧ ∃ f', (∀ s, (f' s).getD 0 = (f s).getD 0) ∧ Nm wr mb f' (n' + 1) ∧ Only [mb, mm] w wr) := ⟨h1.z, f'', hs'', h1.st, h1.on⟩
          clear hs'' h1 HJ
          go_wp2
          refine bodyPost_end (results_none rfl _ _ _) rfl ?_
          exact ⟨rfl, HX.out⟩
end
section
open Go.RowKit Go.Maps
theorem pair_atP {P : Nat → Prop} {w : World} {l r : T} {sl sr : Value} (hl : ArgsP P w sl l.args) (hr : ArgsP P w sr r.args) (hp : P w.heap.size) : ArgsP P (w.alloc (.cells #[.int .i64 l.v, .string l.fn, sl, .int .i64 r.v, .string r.fn, sr] 24)) (.slice (some ⟨w.heap.size, 0, none⟩) 2 2) [l, r] := by
  have hb := below_box w (.cells #[.int .i64 l.v, .string l.fn, sl, .int .i64 r.v, .string r.fn, sr] 24)
  have hz := (MapKept.heap_alloc w (.cells #[.int .i64 l.v, .string l.fn, sl, .int .i64 r.v, .string r.fn, sr] 24)).1
  have key : ∀ (i : Nat) (v : Value), [Value.int .i64 l.v, .string l.fn, sl, .int .i64 r.v, .string r.fn, sr][i]? = some v → (w.alloc (.cells #[.int .i64 l.v, .string l.fn, sl, .int .i64 r.v, .string r.fn, sr] 24)).cell? ⟨w.heap.size, i, none⟩ = some v := fun i v hv => cell_storeR (vs := [_, _, _, _, _, _]) hz hv
  refine ArgsP.mk (some ⟨w.heap.size, 0, none⟩) 2 [l, r] (fun i => if i = 0 then sl else sr) (by simp) (by decide) (fun _ => ⟨w.heap.size, 0, hp, (Array.getElem?_eq_some_iff.1 hz).1, rfl, fun i hi => ?_⟩) (fun i hi => ?_)
  · have : i = 0 ∨ i = 1 := by simp at hi; omega
    rcases this with rfl | rfl
    · exact ⟨key 0 _ rfl, key 1 _ rfl, key 2 _ rfl⟩
    · exact ⟨key 3 _ rfl, key 4 _ rfl, key 5 _ rfl⟩
  · have : i = 0 ∨ i = 1 := by simp at hi; omega
    rcases this with rfl | rfl
    · exact hl.keep hb.size (fun k hk hlt => ⟨hk, hb.block k hlt⟩)
    · exact hr.keep hb.size (fun k hk hlt => ⟨hk, hb.block k hlt⟩)
theorem clFs_of {q : ByteArray → Int} : ∀ {l : List Fm}, (∀ a ∈ l, clF q a) → clF.clFs q l
  | [], _ => by rw [clF.clFs]; trivial
  | a :: r, h => by rw [clF.clFs]; exact ⟨h a (by simp), clFs_of fun b hb => h b (by simp [hb])⟩
theorem clF_mk {q : ByteArray → Int} {f : Fm} (hl : clT q f.l) (hr : clT q f.r) (hk : ∀ a ∈ f.kids, clF (upQ f.k f.nm q) a) : clF q f := by
  cases f with
  | mk k n l r ks => rw [clF]; exact ⟨hl, hr, clFs_of hk⟩
theorem terms_bud {f : Fm} (h : shB f = true) : f.l.size + f.r.size + 2 * Fm.size.sizes f.kids ≤ 2 * f.size := by
  have h1 := fm_size_eq f
  have hl := tsize_pos f.l
  have hr := tsize_pos f.r
  by_cases hk : f.k = 1
  · rw [if_pos hk] at h1
    have h2 : 0 ≤ Fm.size.sizes f.kids := sizes_pos f.kids
    omega
  · rw [if_neg hk] at h1
    rw [shB_eq] at h
    simp only [Bool.and_eq_true] at h
    obtain ⟨e1, e2⟩ := termsB_zero hk h.2.2.1
    have e3 : (t0 : T).size = 1 := by rw [T.size_eq]; rfl
    rw [e1, e2, e3]
    omega
def MAQ (mb mm : Nat) (f g : ByteArray → Option Int) (n k : Nat) (l : List Fm) (w : World) (e : Ending) (w' : World) : Prop :=
  e = .returned (.tuple #[]) ∧ ∃ (f' : ByteArray → Option Int) (n' : Nat) (g' : ByteArray → Option Int) (k' : Nat), (∀ s, (f' s).getD 0 = (f s).getD 0) ∧ (n' : Int) ≤ n + 2 * Fm.size.sizes l ∧ Nm w' mb f' n' ∧ Mt mm g' k' w' ∧ (k' : Int) ≤ k + 2 * Fm.size.sizes l ∧ Only [mb, mm] w w' ∧ (Emp g' → Emp g ∧ ∀ a ∈ l, clF (gq f) a)
def MAd (mb mm : Nat) (l : List Fm) : Prop := ∀ (f g : ByteArray → Option Int) (n k : Nat) (K : Int) (w : World) (sl : Value), (∀ a ∈ l, shB a = true) → (∀ s, 0 ≤ (f s).getD 0 ∧ (f s).getD 0 ≤ K) → K + Fm.size.sizes l ≤ 4194304 → n + 2 * Fm.size.sizes l ≤ 8388608 → k + 2 * Fm.size.sizes l ≤ 8388608 → (∀ a ∈ l, a.nsm) → Nm w mb f n → Mt mm g k w → KidsP (fun j => j ≠ mb ∧ j ≠ mm) w sl l →
  Calls Tryz.prog 45 #[.agg #[.map (some mb), .map (some mm)], sl] w (MAQ mb mm f g n k l w)
def AI (mb mm R : Nat) (f g : ByteArray → Option Int) (n k : Nat) (l : List Fm) (w : World) (i : Nat) (X : World) : Prop :=
  Only [mb, mm] w X ∧ X.heap[R]? = some (.cells #[.map (some mb), .map (some mm)] 52 (0, 0)) ∧ ∃ (f' : ByteArray → Option Int) (n' : Nat) (g' : ByteArray → Option Int) (k' : Nat), (∀ s, (f' s).getD 0 = (f s).getD 0) ∧ (n' : Int) + 2 * Fm.size.sizes (l.drop i) ≤ n + 2 * Fm.size.sizes l ∧ Nm X mb f' n' ∧ Mt mm g' k' X ∧ (k' : Int) + 2 * Fm.size.sizes (l.drop i) ≤ k + 2 * Fm.size.sizes l ∧ (Emp g' → Emp g ∧ ∀ a ∈ l.take i, clF (gq f) a)
theorem sizes_drop (q : List Fm) (j : Nat) : Fm.size.sizes (q.drop j) ≤ Fm.size.sizes q := by
  induction q generalizing j with
  | nil => simp
  | cons a r ihq =>
    cases j with
    | zero => exact Int.le_refl _
    | succ j => rw [List.drop_succ_cons, Fm.size.sizes]; have := ihq j; have := fm_pos a; omega
theorem meetAlld_step {mb mm : Nat} {l : List Fm} (hne : mb ≠ mm) (ih : ∀ a ∈ l, MAd mb mm a.kids) : MAd mb mm l := by
  intro f g n k K w sl hsh hq hK hn hkb hns hf hm hks
  have hb0 := below_box w (.cells #[.map (some mb), .map (some mm)] 52)
  have hz0 := (MapKept.heap_alloc w (.cells #[.map (some mb), .map (some mm)] 52)).1
  obtain ⟨ka, kc', rfl, hkc, hkm⟩ := hks.slice
  have hmb := hf.lt
  have hmm := hm.nm.lt
  have HKS : Hid (∀ X, Only [mb, mm] w X → KidsP (fun j => j ≠ mb ∧ j ≠ mm) X (.slice ka l.length kc') l) := fun X hX => hks.keep hX.size (fun k hk hl => ⟨hk, hX.block k hl (by simpa using hk)⟩)
  obtain ⟨W0, hW0⟩ : ∃ X : World, w.alloc (.cells #[.map (some mb), .map (some mm)] 52) = X := ⟨_, rfl⟩
  obtain ⟨R, hR⟩ : ∃ R, w.heap.size = R := ⟨_, rfl⟩
  rw [hW0] at hb0 hz0
  rw [hR] at hz0
  obtain ⟨N, hN⟩ : ∃ N, l.length = N := ⟨_, rfl⟩
  have HN := hidR hN
  have hkm' : kc' ≤ 9223372036854775807 := by unfold maxLen at hkm; omega
  rw [hN] at hkc HKS ⊢
  have HI := hidR ih
  have HC := hidR (And.intro hsh (And.intro hq (And.intro hK (And.intro hn (And.intro hkb hns)))))
  have H0 : Hid (AI mb mm R f g n k l w 0 W0) := ⟨Only.of_below hb0, hz0, f, n, g, k, fun _ => rfl, by rw [List.drop_zero]; exact Int.le_refl _, hf.same (hb0.block mb hmb), hm.same (hb0.block mm hmm), by rw [List.drop_zero]; exact Int.le_refl _, fun h => ⟨h, fun a ha => by simp at ha⟩⟩
  have HW0 := hidR hW0
  have hRm : R ≠ mb ∧ R ≠ mm := by omega
  have hNl : N ≤ 9223372036854775807 := by omega
  clear hf hks ih hsh hq hK hn hns hb0 hz0 hW0 hN hkm hm hkb hmb hmm
  go_enter Tryz.func45, Tryz.ntmps45
  go_upto_region 1 with fail
  try simp only [hR]
  rw [show _ = W0 from HW0.out]
  clear HW0
  go_wp2
  go_loopw [5, 8] (fun v5 vi wr => ∃ i : Nat, vi = .int .i64 i ∧ i ≤ N ∧ Hid (AI mb mm R f g n k l w i wr)) (fun v5 vi _ => N - (intOf vi).toNat)
  case atStart => exact ⟨0, rfl, Nat.zero_le _, H0.out⟩
  case round =>
    obtain ⟨i, rfl, hi, HW⟩ := hrel
    by_cases hlt : i < N
    · have hil : i < l.length := by rw [HN.out]; exact hlt
      obtain ⟨hon, hzR, f1, n1, g1, k1, hsame, hbud, hnm, hmt1, hbudk, hemp⟩ := HW.out
      have hgq : gq f1 = gq f := funext hsame
      have hks := HKS.out wr hon
      rw [← HN.out] at hks
      obtain ⟨b, o, sl, sr, sk, rfl, hbm, hlt2, ⟨y0, y1, ⟨y2, y3, y4⟩, ⟨y5, y6, y7⟩, y8⟩, hss⟩ := hks.nth hil
      obtain ⟨a1, c1, rfl, hac1, ham1⟩ := hss.l.slice'
      obtain ⟨a2, c2, rfl, hac2, ham2⟩ := hss.r.slice'
      obtain ⟨a3, c3, rfl, _, _⟩ := hss.k.slice
      have hmem := List.getElem_mem hil
      have hstep := sizes_step hil
      have hnsa := HC.out.2.2.2.2.2 _ hmem
      have hsha := HC.out.1 _ hmem
      have hsz1 := size_kid l[i]
      have htb := terms_bud hsha
      have hspos := sizes_pos (l.drop (i + 1))
      have htot := sizes_drop l i
      have hk0 := sizes_pos l[i].kids
      have hp1 := tsize_pos l[i].l
      have hp2 := tsize_pos l[i].r
      have HB : Hid (l[i].size + Fm.size.sizes (l.drop (i + 1)) = Fm.size.sizes (l.drop i) ∧ Fm.size.sizes (l.drop i) ≤ Fm.size.sizes l ∧ 1 + Fm.size.sizes l[i].kids ≤ l[i].size ∧ 0 ≤ Fm.size.sizes (l.drop (i + 1)) ∧ 0 ≤ Fm.size.sizes l[i].kids ∧ (n1 : Int) + 2 * Fm.size.sizes (l.drop i) ≤ n + 2 * Fm.size.sizes l ∧ n + 2 * Fm.size.sizes l ≤ 8388608 ∧ (k1 : Int) + 2 * Fm.size.sizes (l.drop i) ≤ k + 2 * Fm.size.sizes l ∧ k + 2 * Fm.size.sizes l ≤ 8388608 ∧ l[i].l.size + l[i].r.size + 2 * Fm.size.sizes l[i].kids ≤ 2 * l[i].size ∧ 0 ≤ l[i].l.size ∧ 0 ≤ l[i].r.size) := ⟨hstep.symm, htot, hsz1, hspos, hk0, hbud, HC.out.2.2.2.1, hbudk, HC.out.2.2.2.2.1, htb, hp1, hp2⟩
      have hbG := below_box wr (fbox l[i] (.slice a1 l[i].l.args.length c1) (.slice a2 l[i].r.args.length c2) (.slice a3 l[i].kids.length c3))
      have hzG := (MapKept.heap_alloc wr (fbox l[i] (.slice a1 l[i].l.args.length c1) (.slice a2 l[i].r.args.length c2) (.slice a3 l[i].kids.length c3))).1
      have hmlt := hnm.lt
      have hmlt2 := hmt1.nm.lt
      obtain ⟨G, hG⟩ : ∃ G, wr.heap.size = G := ⟨_, rfl⟩
      obtain ⟨X1, hX1⟩ : ∃ X : World, wr.alloc (fbox l[i] (.slice a1 l[i].l.args.length c1) (.slice a2 l[i].r.args.length c2) (.slice a3 l[i].kids.length c3)) = X := ⟨_, rfl⟩
      have hs1 : X1.heap.size = G + 1 := by rw [← hX1, World.size_alloc, hG]
      rw [hX1] at hbG hzG
      have hnm1 := hnm.same (hbG.block mb hnm.lt)
      have hmt2 := hmt1.same (hbG.block mm hmt1.nm.lt)
      rw [hG] at hzG hmlt hmlt2
      have hGm : G ≠ mb ∧ G ≠ mm := by omega
      have HX : Hid (∀ X, Only [mb, mm] X1 X → Only [mb, mm] w X ∧ X.heap[R]? = some (.cells #[.map (some mb), .map (some mm)] 52 (0, 0)) ∧ X.heap[G]? = some (fbox l[i] (.slice a1 l[i].l.args.length c1) (.slice a2 l[i].r.args.length c2) (.slice a3 l[i].kids.length c3)) ∧ FmP (fun j => j ≠ mb ∧ j ≠ mm) X l[i] (.slice a1 l[i].l.args.length c1) (.slice a2 l[i].r.args.length c2) (.slice a3 l[i].kids.length c3)) := fun X hX => by
        have hox : Only [mb, mm] wr X := (Only.of_below (B := [mb, mm]) hbG).trans hX (fun r hr => .inl hr)
        exact ⟨hon.trans hox (fun r hr => .inl hr), (hox.block R (Array.getElem?_eq_some_iff.1 hzR).1 (by simpa using hRm)).trans hzR, (hX.block G (Array.getElem?_eq_some_iff.1 hzG).1 (by simpa using hGm)).trans hzG, hss.keep hox.size (fun k hk hl => ⟨hk, hox.block k hl (by simpa using hk)⟩)⟩
      have hfX := (HX.out X1 (Only.of_below (Below.refl _ _))).2.2.2
      have hpa := pair_atP (P := fun j => j ≠ mm) (w := X1) (hfX.l.keep (Nat.le_refl _) (fun k hk _ => ⟨hk.2, rfl⟩)) (hfX.r.keep (Nat.le_refl _) (fun k hk _ => ⟨hk.2, rfl⟩)) (by show X1.heap.size ≠ mm; omega)
      have hb2 := below_box X1 (.cells #[.int .i64 l[i].l.v, .string l[i].l.fn, .slice a1 l[i].l.args.length c1, .int .i64 l[i].r.v, .string l[i].r.fn, .slice a2 l[i].r.args.length c2] 24)
      have hts : tsum [l[i].l, l[i].r] = l[i].l.size + l[i].r.size := by unfold tsum; simp
      have hmt := meetd_any (mb := mb) (mm := mm) (n := n1) (f := f1) hne [l[i].l, l[i].r] (by
          intro a ha
          simp only [List.mem_cons, List.not_mem_nil, or_false] at ha
          rcases ha with rfl | rfl
          · exact Fm.nsm_l hnsa
          · exact Fm.nsm_r hnsa) (by simp) g1 k1 _ _ (by rw [hts]; have := HB.out; omega) (hnm1.same (hb2.block mb hnm1.lt)) (hmt2.same (hb2.block mm hmt2.nm.lt)) hpa
      rw [hts] at hmt
      have HQ := hidR (And.intro hsha (And.intro hnsa (And.intro (HI.out _ hmem) (And.intro hsame (And.intro hgq hnm1)))))
      have HXX := hidR hX1
      have HB2 := hidR hb2
      have HT : Hid (Emp g1 → Emp g ∧ ∀ a ∈ l.take i, clF (gq f) a) := hemp
      have HTK : Hid (∀ P : Fm → Prop, (∀ a ∈ l.take i, P a) → P l[i] → ∀ a ∈ l.take (i + 1), P a) := fun P h1 h2 a ha => by
        rw [List.take_succ_eq_append_getElem hil] at ha
        rcases List.mem_append.1 ha with h | h
        · exact h1 a h
        · rw [List.mem_singleton] at h; subst h; exact h2
      generalize l[i] = u at y0 y1 y2 y3 y4 y5 y6 y7 y8 HB HX hmt HQ HXX HB2 HTK
      obtain ⟨-, hzR1, hzG1, -⟩ := HX.out X1 (Only.of_below (Below.refl _ _))
      have r0 : X1.cell? ⟨R, 0, none⟩ = some (.map (some mb)) := cell_store (vs := [_, _]) hzR1 rfl
      have r1 : X1.cell? ⟨R, 1, none⟩ = some (.map (some mm)) := cell_store (vs := [_, _]) hzR1 rfl
      obtain ⟨⟨q0, q1, q2, q3, q4, q5, q6, q7, q8⟩, -⟩ := f_cells hzG1
      clear hon hzR hsame hbud hbudk hnm hgq hks hss hstep hnsa hsha hsz1 hspos htot hk0 hbG hzG hX1 hnm1 hpa hb2 hmem hmlt hmlt2 hzR1 hzG1 hlt2 hbm hmt1 hmt2 hemp htb hp1 hp2 hfX hts hs1
      go_upto_region 4 with fail
      try simp only [hG]
      rw [show _ = X1 from HXX.out]
      clear HXX hG
      go_wp2_with fail
      refine hmt.mono ?_
      rintro e X2 ⟨rfl, g2, k2, hmt3, hk2, ho3, he2⟩
      have hoX2 : Only [mb, mm] X1 X2 := (Only.of_below (B := [mb, mm]) HB2.out).trans ho3.two2 (fun r hr => .inl hr)
      have HG2 := hidR (And.intro hk2 he2)
      have hnb2 : Nm X2 mb f1 n1 := (HQ.out.2.2.2.2.2.same (HB2.out.block mb HQ.out.2.2.2.2.2.lt)).same (ho3.block mb (Nat.lt_of_lt_of_le HQ.out.2.2.2.2.2.lt HB2.out.size) (by simpa using hne))
      clear hmt r0 r1 q0 q1 q2 q3 q4 q5 q6 q7 q8 ho3 hk2 he2
      obtain ⟨ho2, hzR2, hzG2, hf2⟩ := HX.out X2 hoX2
      have hiq := isQuant_any hf2
      have HB3 := hidR (And.intro hoX2 (And.intro hnb2 hmt3))
      obtain ⟨⟨q0, q1, q2, q3, q4, q5, q6, q7, q8⟩, -⟩ := f_cells hzG2
      obtain ⟨b1, hb1⟩ : ∃ x, qB u = x := ⟨_, rfl⟩
      rw [hb1] at hiq
      have HQB := hidR hb1
      clear ho2 hzR2 hzG2 hf2 hnb2 hmt3 hoX2 hb1
      go_wp2_with fail
      refine hiq.mono ?_
      rintro e X3 ⟨rfl, hb4⟩
      have hb13 : Only [mb, mm] X1 X3 := HB3.out.1.trans (Only.of_below (B := [mb, mm]) hb4) (fun r hr => .inl hr)
      have hnm3 := HB3.out.2.1.same (hb4.block mb HB3.out.2.1.lt)
      have hmt3 := HB3.out.2.2.same (hb4.block mm HB3.out.2.2.nm.lt)
      clear hiq q0 q1 q2 q3 q4 q5 q6 q7 q8 hb4
      obtain ⟨ho3, hzR3, hzG3, hf3⟩ := HX.out X3 hb13
      obtain ⟨⟨q0, q1, q2, q3, q4, q5, q6, q7, q8⟩, -⟩ := f_cells hzG3
      have r0 : X3.cell? ⟨R, 0, none⟩ = some (.map (some mb)) := cell_store (vs := [_, _]) hzR3 rfl
      have r1 : X3.cell? ⟨R, 1, none⟩ = some (.map (some mm)) := cell_store (vs := [_, _]) hzR3 rfl
      have hshk := (kids_count HQ.out.1).2
      cases b1 with
      | false =>
        have hup : upQ u.k u.nm (gq f) = gq f := by
          unfold upQ
          rw [if_neg]
          have h5 : (decide (u.k = 7) || decide (u.k = 8)) = false := HQB.out
          rw [Bool.or_eq_false_iff, decide_eq_false_iff_not, decide_eq_false_iff_not] at h5
          omega
        have hB := HB.out
        have hg2 := HG2.out.1
        have hrec := HQ.out.2.2.1 f1 g2 n1 k2 K X3 _ hshk (fun s => by rw [HQ.out.2.2.2.1]; exact HC.out.2.1 s) (by have := HC.out.2.2.1; omega) (by omega) (by omega) (Fm.nsm_kids HQ.out.2.1) hnm3 hmt3 hf3.k
        have HB13 := hidR hb13
        have HUP := hidR hup
        clear hb13 hnm3 hmt3 ho3 hzR3 hzG3 hf3 hup hB hshk hg2
        go_wp2_with fail
        refine hrec.mono ?_
        rintro e X4 ⟨rfl, f4, n4, g4, k4, hs4, hn4, hm4, ht4, hk4, ho4, he4⟩
        have HM : Hid (AI mb mm R f g n k l w (i + 1) X4) := by
          obtain ⟨z1, z2, -, -⟩ := HX.out X4 (HB13.out.trans ho4 (fun r hr => .inl hr))
          have hB := HB.out
          have hg2 := HG2.out.1
          refine ⟨z1, z2, f4, n4, g4, k4, fun s => by rw [hs4, HQ.out.2.2.2.1], by omega, hm4, ht4, by omega, fun he => ?_⟩
          obtain ⟨e2, ck⟩ := he4 he
          obtain ⟨e1, ct⟩ := HG2.out.2 e2
          obtain ⟨e0, cp⟩ := HT.out e1
          refine ⟨e0, HTK.out _ cp (clF_mk ?_ ?_ ?_)⟩
          · rw [← HQ.out.2.2.2.2.1]; exact ct _ (by simp)
          · rw [← HQ.out.2.2.2.2.1]; exact ct _ (by simp)
          · rw [HUP.out, ← HQ.out.2.2.2.2.1]; exact ck
        clear hrec hs4 hn4 hm4 ho4 q0 q1 q2 q3 q4 q5 q6 q7 q8 r0 r1 ht4 hk4 he4
        go_wp2
        go_roundw
        case rel => exact ⟨i + 1, by go_num, by omega, HM.out⟩
        case measure => simp [intOf]; omega
      | true =>
        have hup : upQ u.k u.nm (gq f) = fun s => if s = u.nm then gq f s + 1 else gq f s := by
          unfold upQ
          rw [if_pos]
          have h5 : (decide (u.k = 7) || decide (u.k = 8)) = true := HQB.out
          rw [Bool.or_eq_true, decide_eq_true_iff, decide_eq_true_iff] at h5
          exact h5
        have hB := HB.out
        have hg2 := HG2.out.1
        have hKq := HC.out.2.1 u.nm
        have hKK := HC.out.2.2.1
        have hsn := HQ.out.2.2.2.1
        have hbN := below_box X3 (.cells #[.string u.nm] 9)
        have hzN := (MapKept.heap_alloc X3 (.cells #[.string u.nm] 9)).1
        have hmlt3 := hnm3.lt
        have hmlt4 := hmt3.nm.lt
        have hfs : u.nm.size ≤ maxLen := by have := Fm.nsm_nm HQ.out.2.1; unfold maxLen; omega
        have hgf : gq (fput f1 u.nm ((f1 u.nm).getD 0 + 1)) = upQ u.k u.nm (gq f) := by
          rw [hup]
          funext s
          show (fput f1 u.nm ((f1 u.nm).getD 0 + 1) s).getD 0 = _
          rw [fput_getD, hsn]
          split
          · rename_i h; rw [h]
          · rw [hsn]
        have hwi := within2 (mm := mm) (n' := n1 + 1 + 2 * (Fm.size.sizes u.kids).toNat) (p1 := .pointer (some ⟨R, 0, none⟩)) (p2 := .pointer (some ⟨G, 0, none⟩)) (Z := fun W => ∃ (g' : ByteArray → Option Int) (k' : Nat), Mt mm g' k' W ∧ (k' : Int) ≤ k2 + 2 * Fm.size.sizes u.kids ∧ (Emp g' → Emp g2 ∧ ∀ a ∈ u.kids, clF (upQ u.k u.nm (gq f)) a)) (fun X Y ⟨g', k', z1, z2, z3⟩ hXY => ⟨g', k', z1.same (hXY.block mm z1.nm.lt (by simpa using fun e => hne e.symm)), z2, z3⟩) (hnm3.same (hbN.block mb hmlt3)) (Nat.lt_of_lt_of_le hmlt4 hbN.size) hzN (by omega) hfs (by rw [hsn]; exact hKq.1) (by rw [hsn]; omega) (by omega) (by omega) (fun X hX hoX => by
          have ho3X : Only [mb, mm] X3 X := (Only.of_below (B := [mb, mm]) hbN).trans hoX.two1 (fun r hr => .inl hr)
          have ho1X : Only [mb, mm] X1 X := hb13.trans ho3X (fun r hr => .inl hr)
          obtain ⟨-, z2, z3, z4⟩ := HX.out X ho1X
          have hmX : Mt mm g2 k2 X := (hmt3.same (hbN.block mm hmlt4)).same (hoX.block mm (Nat.lt_of_lt_of_le hmlt4 hbN.size) (by simpa using fun e => hne e.symm))
          have hrec := HQ.out.2.2.1 (fput f1 u.nm ((f1 u.nm).getD 0 + 1)) g2 (n1 + 1) k2 (K + 1) X _ hshk (fun s => by
            rw [fput_getD, hsn]
            have h1 := HC.out.2.1 s
            split
            · rename_i h; omega
            · rw [hsn]; omega) (by omega) (by omega) (by omega) (Fm.nsm_kids HQ.out.2.1) hX hmX z4.k
          refine (scope_closure (e := fun _ w' => (∃ (g' : ByteArray → Option Int) (k' : Nat), Mt mm g' k' w' ∧ (k' : Int) ≤ k2 + 2 * Fm.size.sizes u.kids ∧ (Emp g' → Emp g2 ∧ ∀ a ∈ u.kids, clF (upQ u.k u.nm (gq f)) a)) ∧ ∃ f', (∀ s, (f' s).getD 0 = (fput f1 u.nm ((f1 u.nm).getD 0 + 1) s).getD 0) ∧ Nm w' mb f' (n1 + 1 + 2 * (Fm.size.sizes u.kids).toNat) ∧ Only [mb, mm] X w') z2 z3 (hrec.mono ?_))
          rintro e' w' ⟨rfl, f5, n5, g5, k5, hs5, hn5, hm5, ht5, hk5, ho5, he5⟩
          rw [hgf] at he5
          exact ⟨rfl, ⟨g5, k5, ht5, hk5, he5⟩, f5, hs5, hm5.more (by omega), ho5⟩)
        have HB13 : Hid (Only [mb, mm] X1 (X3.alloc (.cells #[.string u.nm] 9))) := hb13.trans (Only.of_below (B := [mb, mm]) hbN) (fun r hr => .inl hr)
        clear hb13 hnm3 hmt3 ho3 hzR3 hzG3 hf3 hup hB hKq hKK hbN hzN hmlt3 hmlt4 hfs hgf hg2 hshk
        have HSN := hidR hsn
        clear hsn
        go_wp2_with fail
        refine hwi.mono ?_
        rintro e X4 ⟨rfl, ⟨g4, k4, ht4, hk4, he4⟩, f4, hs4, hm4, ho4⟩
        have HM : Hid (AI mb mm R f g n k l w (i + 1) X4) := by
          obtain ⟨z1, z2, -, -⟩ := HX.out X4 (HB13.out.trans ho4 (fun r hr => .inl hr))
          have hB := HB.out
          have hg2 := HG2.out.1
          refine ⟨z1, z2, f4, _, g4, k4, fun s => by rw [hs4, HSN.out], by omega, hm4, ht4, by omega, fun he => ?_⟩
          obtain ⟨e2, ck⟩ := he4 he
          obtain ⟨e1, ct⟩ := HG2.out.2 e2
          obtain ⟨e0, cp⟩ := HT.out e1
          refine ⟨e0, HTK.out _ cp (clF_mk ?_ ?_ ck)⟩
          · rw [← HQ.out.2.2.2.2.1]; exact ct _ (by simp)
          · rw [← HQ.out.2.2.2.2.1]; exact ct _ (by simp)
        clear hwi hs4 hm4 ho4 q0 q1 q2 q3 q4 q5 q6 q7 q8 r0 r1 ht4 hk4 he4
        go_wp2
        go_roundw
        case rel => exact ⟨i + 1, by go_num, by omega, HM.out⟩
        case measure => simp [intOf]; omega
    · have hin : i = N := by omega
      subst hin
      have HX : Hid (∃ (f' : ByteArray → Option Int) (n' : Nat) (g' : ByteArray → Option Int) (k' : Nat), (∀ s, (f' s).getD 0 = (f s).getD 0) ∧ (n' : Int) ≤ n + 2 * Fm.size.sizes l ∧ Nm wr mb f' n' ∧ Mt mm g' k' wr ∧ (k' : Int) ≤ k + 2 * Fm.size.sizes l ∧ Only [mb, mm] w wr ∧ (Emp g' → Emp g ∧ ∀ a ∈ l, clF (gq f) a)) := by
        obtain ⟨q1, -, f', n', g', k', q2, q3, q4, q5, q6, q7⟩ := HW.out
        rw [← HN.out, List.drop_length, Fm.size.sizes] at q3 q6
        rw [← HN.out, List.take_length] at q7
        exact ⟨f', n', g', k', q2, by omega, q4, q5, by omega, q1, q7⟩
      go_wp2
      refine bodyPost_end (results_none rfl _ _ _) rfl ?_
      exact ⟨rfl, HX.out⟩
theorem meetdKids {mb mm : Nat} (hne : mb ≠ mm) (f : Fm) : MAd mb mm f.kids := by
  refine Fm.ind (P := fun f => MAd mb mm f.kids) (fun f ih => ?_) f
  exact meetAlld_step hne ih
theorem meetAlld_any {mb mm : Nat} (hne : mb ≠ mm) (l : List Fm) : MAd mb mm l := meetAlld_step hne fun a _ => meetdKids hne a
end
