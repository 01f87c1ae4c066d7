import Derived.Test.YthkinkcpfcpehaaGreatDoorHC
namespace Go.Proofs.YthkinkcpfcpehaaGreatDoor
set_option maxRecDepth 100000
set_option maxHeartbeats 8000000
open Go.RowKit Go.Maps
theorem fput_getD (f : ByteArray → Option Int) (s : ByteArray) (c : Int) (x : ByteArray) : (fput f s c x).getD 0 = if x = s then c else (f x).getD 0 := by
  unfold fput
  split <;> simp_all
structure Wi1 (w : World) (mb mm R nr : Nat) (nm : ByteArray) (f : ByteArray → Option Int) (n : Nat) (X : World) : Prop where
  box : X.heap[R]? = some (.cells #[.map (some mb), .map (some mm)] 52 (0, 0))
  row : X.heap[nr]? = some (.cells #[.string nm] 9 (0, 0))
  st : Nm X mb f n
  on : Only [mb] w X
  Rm : R ≠ mb
  nr' : nr ≠ mb
theorem Wi1.next {w : World} {mb mm R nr : Nat} {nm : ByteArray} {f f' : ByteArray → Option Int} {n n' : Nat} {X Y : World} (h : Wi1 w mb mm R nr nm f n X) (hs : Nm Y mb f' n') (ho : Only [mb] X Y) : Wi1 w mb mm R nr nm f' n' Y :=
  ⟨(ho.block R (Array.getElem?_eq_some_iff.1 h.box).1 (by have := h.Rm; simpa using this)).trans h.box, (ho.block nr (Array.getElem?_eq_some_iff.1 h.row).1 (by have := h.nr'; simpa using this)).trans h.row, hs, h.on.trans ho (fun r hr => .inl hr), h.Rm, h.nr'⟩
theorem within1 {mb mm n n' nr : Nat} {f : ByteArray → Option Int} {nm : ByteArray} {p1 p2 : Value} {w : World} (hf : Nm w mb f n) (hr : w.heap[nr]? = some (.cells #[.string nm] 9 (0, 0))) (hne : nr ≠ mb) (hs : nm.size ≤ maxLen) (hc0 : 0 ≤ (f nm).getD 0) (hc1 : (f nm).getD 0 ≤ 4194304) (hn : n ≤ 16777216) (hn' : n' ≤ 16777216)
    (hw : ∀ X, Nm X mb (fput f nm ((f nm).getD 0 + 1)) (n + 1) → Only [mb] w X → Calls Tryz.prog 86 #[p1, p2] X fun e w' => e = .returned (.tuple #[]) ∧ ∃ f', (∀ s, (f' s).getD 0 = (fput f nm ((f nm).getD 0 + 1) s).getD 0) ∧ Nm w' mb f' n' ∧ Only [mb] X w') :
    Calls Tryz.prog 85 #[.agg #[.map (some mb), .map (some mm)], .slice (some ⟨nr, 0, none⟩) 1 1, .func (.func 86) #[] #[p1, p2]] w fun e w' => e = .returned (.tuple #[]) ∧ ∃ f', (∀ s, (f' s).getD 0 = (f s).getD 0) ∧ Nm w' mb f' (n' + 1) ∧ Only [mb] w w' := by
  have hb0 := below_box w (.cells #[.map (some mb), .map (some mm)] 52)
  have hz := (MapKept.heap_alloc w (.cells #[.map (some mb), .map (some mm)] 52)).1
  have hm := hf.lt
  have hrl := (Array.getElem?_eq_some_iff.1 hr).1
  have hW : Wi1 w mb mm w.heap.size nr nm f n (w.alloc (.cells #[.map (some mb), .map (some mm)] 52)) := ⟨hz, (hb0.block nr hrl).trans hr, hf.same (hb0.block mb hm), Only.of_below hb0, by omega, hne⟩
  obtain ⟨W0, hW0⟩ : ∃ X : World, w.alloc (.cells #[.map (some mb), .map (some mm)] 52) = X := ⟨_, rfl⟩
  obtain ⟨R, hR⟩ : ∃ R, w.heap.size = R := ⟨_, rfl⟩
  rw [hW0, hR] at hW
  have HHW := hidR hw
  have HH := hidR hW
  have HW0 := hidR hW0
  obtain ⟨c, hc⟩ : ∃ c, (f nm).getD 0 = c := ⟨_, rfl⟩
  rw [hc] at HHW hc0 hc1
  have HC := hidR hc
  clear hf hr hne hw hb0 hz hm hrl hW hW0 hc
  have hmb : 4194304 < maxLen ∧ 16777217 < maxLen := by unfold maxLen; decide
  go_enter Tryz.func85, Tryz.ntmps85
  go_upto_region 1 with fail
  try simp only [hR]
  rw [show _ = W0 from HW0.out]
  clear HW0
  go_wp2
  go_loopw [7, 12] (fun v7 vi wr => ∃ i : Nat, vi = .int .i64 i ∧ i ≤ 1 ∧ Hid ((i = 0 → Wi1 w mb mm R nr nm f n wr) ∧ (i = 1 → Wi1 w mb mm R nr nm (fput f nm (c + 1)) (n + 1) wr))) (fun v7 vi _ => 1 - (intOf vi).toNat)
  case atStart => exact ⟨0, rfl, by omega, fun _ => HH.out, fun h => absurd h (by omega)⟩
  case round =>
    obtain ⟨i, rfl, hi, HI⟩ := hrel
    by_cases hlt : i = 0
    · subst hlt
      have h1 := HI.out.1 rfl
      have x0 : wr.cell? ⟨R, 0, none⟩ = some (.map (some mb)) := cell_store (vs := [_, _]) h1.box rfl
      have y0 : wr.cell? ⟨nr, 0, none⟩ = some (.string nm) := cell_store (vs := [_]) h1.row rfl
      have hlook := h1.st.look hs
      rw [HC.out] at hlook
      obtain ⟨W1, hrun, hf1, ho1⟩ := h1.st.put (by omega) hs (c + 1)
      have HN : Hid (Wi1 w mb mm R nr nm (fput f nm (c + 1)) (n + 1) W1) := h1.next hf1 ho1
      have hw1 : wrap64 (c + 1) = c + 1 := by unfold wrap64; omega
      clear h1 hf1 ho1 HI hi
      go_wp2
      go_roundw
      case rel => exact ⟨1, by go_num, by omega, fun h => absurd h (by omega), fun _ => HN.out⟩
      case measure => simp [intOf]
    · have hi1 : i = 1 := by omega
      subst hi1
      have h1 := HI.out.2 rfl
      have hwk := HHW.out wr h1.st h1.on
      have H1 := hidR h1
      clear h1 HI hi hlt
      go_wp2_with fail
      refine hwk.mono ?_
      rintro e W2 ⟨rfl, f', hsame, hf', ho'⟩
      have H2 := hidR (H1.out.next hf' ho')
      have HS := hidR hsame
      have hcm : (f' nm).getD 0 = c + 1 := by rw [hsame, fput_getD, if_pos rfl]
      have HCM := hidR hcm
      clear hwk hsame hf' ho' hcm
      obtain ⟨Wx, hWx⟩ : ∃ X, X = wr := ⟨_, rfl⟩
      subst hWx
      go_wp2
      go_loopw [9, 26] (fun v9 vi W => ∃ j : Nat, vi = .int .i64 j ∧ j ≤ 1 ∧ Hid ((j = 0 → Wi1 w mb mm R nr nm f' n' W) ∧ (j = 1 → ∃ f'', (∀ s, (f'' s).getD 0 = (f s).getD 0) ∧ Wi1 w mb mm R nr nm f'' (n' + 1) W))) (fun v9 vi _ => 1 - (intOf vi).toNat)
      case atStart => exact ⟨0, rfl, by omega, fun _ => H2.out, fun h => absurd h (by omega)⟩
      case round =>
        obtain ⟨j, rfl, hj, HJ⟩ := hrel
        by_cases hlt : j = 0
        · subst hlt
          have h1 := HJ.out.1 rfl
          have x0 : wr.cell? ⟨R, 0, none⟩ = some (.map (some mb)) := cell_store (vs := [_, _]) h1.box rfl
          have y0 : wr.cell? ⟨nr, 0, none⟩ = some (.string nm) := cell_store (vs := [_]) h1.row rfl
          have hlook := h1.st.look hs
          rw [HCM.out] at hlook
          obtain ⟨W1, hrun, hf1, ho1⟩ := h1.st.put (by omega) hs c
          have HN : Hid (∃ f'', (∀ s, (f'' s).getD 0 = (f s).getD 0) ∧ Wi1 w mb mm R nr nm f'' (n' + 1) W1) := by
            refine ⟨_, fun s => ?_, h1.next hf1 ho1⟩
            rw [fput_getD]
            split
            · rename_i h; rw [h, HC.out]
            · rename_i h; rw [HS.out, fput_getD, if_neg h]
          have hw1 : wrap64 (c + 1 - 1) = c := by unfold wrap64; omega
          have hw2 : wrap64 (c + 1 + -1) = c := by unfold wrap64; omega
          have hcc : c + 1 - 1 = c := by omega
          clear h1 hf1 ho1 HJ hj
          go_wp2
          go_roundw
          case rel => exact ⟨1, by go_num, by omega, fun h => absurd h (by omega), fun _ => HN.out⟩
          case measure => simp [intOf]
        · have hj1 : j = 1 := by omega
          subst hj1
          obtain ⟨f'', hs'', h1⟩ := HJ.out.2 rfl
          have HX : Hid (∃ f', (∀ s, (f' s).getD 0 = (f s).getD 0) ∧ Nm wr mb f' (n' + 1) ∧ Only [mb] w wr) := ⟨f'', hs'', h1.st, h1.on⟩
          clear hs'' h1 HJ
          go_wp2
          refine bodyPost_end (results_none rfl _ _ _) rfl ?_
          exact ⟨rfl, HX.out⟩
