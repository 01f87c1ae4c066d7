/-
  The document's match, at a function; at any pattern.
-/
import Derived.Test.YtiklbkkimmgbcaaHP
namespace Go.Proofs.Ytiklbkkimmgbcaa
open Go.RowKit

set_option maxRecDepth 100000 in
set_option maxHeartbeats 16000000 in
theorem match_fn (p : T) (ih : ∀ a ∈ p.args, MatAt a) (h0 : p.fn.size ≠ 0) : MatAt p := by
  intro t l v sp st W hsh hl hp ht hsz
  have hdd : p.fn.toList.isEmpty = false := by rw [ba_isEmpty]; exact decide_eq_false h0
  rw [T.shape_eq, if_neg h0] at hsh
  simp only [Bool.and_eq_true, decide_eq_true_eq, List.all_eq_true] at hsh
  obtain ⟨⟨hx16, h16⟩, hshs⟩ := hsh
  obtain ⟨la, lc, rfl⟩ := hl.slice
  obtain ⟨pa, pc, rfl, _, _⟩ := hp.slice
  obtain ⟨ta, tc, rfl, _, _⟩ := ht.slice
  obtain ⟨W2, h2⟩ : ∃ X, (W.alloc (.cells #[.int .i64 p.v, .string p.fn, .slice pa p.args.length pc] 24)).alloc (.cells #[.int .i64 t.v, .string t.fn, .slice ta t.args.length tc] 24) = X := ⟨_, rfl⟩
  have b2 : Below W.heap.size W W2 := by rw [← h2]; exact below_box2 W _ _
  have q0 : W2.heap[W.heap.size]? = some (.cells #[.int .i64 p.v, .string p.fn, .slice pa p.args.length pc] 24 (0, 0)) := by
    rw [← h2, (below_box (W.alloc (.cells #[.int .i64 p.v, .string p.fn, .slice pa p.args.length pc] 24)) _).block _ (by simp)]
    exact (MapKept.heap_alloc _ _).1
  have q1 : W2.heap[W.heap.size + 1]? = some (.cells #[.int .i64 t.v, .string t.fn, .slice ta t.args.length tc] 24 (0, 0)) := by
    rw [← h2]
    have := (MapKept.heap_alloc (W.alloc (.cells #[.int .i64 p.v, .string p.fn, .slice pa p.args.length pc] 24)) (.cells #[.int .i64 t.v, .string t.fn, .slice ta t.args.length tc] 24)).1
    simpa using this
  have HX : Hid (∀ Z, Below W2.heap.size W2 Z → Z.heap[W.heap.size]? = some (.cells #[.int .i64 p.v, .string p.fn, .slice pa p.args.length pc] 24 (0, 0)) ∧ Z.heap[W.heap.size + 1]? = some (.cells #[.int .i64 t.v, .string t.fn, .slice ta t.args.length tc] 24 (0, 0)) ∧ ArgsAt Z (.slice ta t.args.length tc) t.args ∧ ArgsAt Z (.slice pa p.args.length pc) p.args ∧ Below W.heap.size W Z) := fun Z hZ => by
    have hb := b2.trans (hZ.mono b2.size)
    exact ⟨(hZ.block _ (Array.getElem?_eq_some_iff.1 q0).1).trans q0, (hZ.block _ (Array.getElem?_eq_some_iff.1 q1).1).trans q1, ArgsAt.keep hb (Nat.le_refl _) ht, ArgsAt.keep hb (Nat.le_refl _) hp, hb⟩
  have HE2 : Hid ((W.alloc (.cells #[.int .i64 p.v, .string p.fn, .slice pa p.args.length pc] 24)).alloc (.cells #[.int .i64 t.v, .string t.fn, .slice ta t.args.length tc] 24) = W2) := h2
  have HB2 : Hid (Below W.heap.size W W2) := b2
  have HL0 : Hid (BindsAt W2 (.slice la l.length lc) l) := hl.keep b2
  have H16 : Hid (p.args.length ≤ 16) := h16
  have HSh : Hid (∀ a ∈ p.args, a.shape = true) := hshs
  have HSz : Hid ((l.length : Int) + p.size ≤ 1048576) := hsz
  have HIH : Hid (∀ a ∈ p.args, MatAt a) := ih
  have HF0 : Hid (p.fn.size ≠ 0) := h0
  clear hl hp ht hsz h0 h2 b2 q0 q1 ih h16 hshs hx16
  by_cases hf : p.fn = t.fn
  · by_cases hln : p.args.length = t.args.length
    · have HFn : Hid (p.fn = t.fn) := hf
      have HLen : Hid (p.args.length = t.args.length) := hln
      have hf2 : p.fn.toList = t.fn.toList := by rw [hf]
      have hde : t.fn.toList.isEmpty = false := by rw [← hf]; exact hdd
      have hlJ : (p.args.length : Int) = (t.args.length : Int) := by rw [hln]
      have hlI : ((p.args.length : Int) != (t.args.length : Int)) = false := by rw [hln]; simp
      clear hf hln
      go_enter Try.func55, Try.ntmps55
      go_wp2
      rw [HE2.out]
      clear HE2 hf2 hlJ hlI
      go_loopw [0, 9] (fun vs vi wr => ∃ (k ln : Nat) (sa : Option Addr) (sc : Nat), vs = .slice sa ln sc ∧ vi = .int .i64 k ∧ k ≤ p.args.length ∧ Hid (Below W2.heap.size W2 wr ∧ ∃ l', BindsAt wr (.slice sa ln sc) l' ∧ (l'.length : Int) ≤ (l.length : Int) + upto T.size p.args k ∧ ∀ (j : Nat) (a b : T), j < k → p.args[j]? = some a → t.args[j]? = some b → Mt a b)) (fun _ vi _ => p.args.length - (intOf vi).toNat)
      case atStart => exact ⟨0, l.length, la, lc, rfl, rfl, Nat.zero_le _, Below.refl _ _, l, HL0.out, by simp [upto_zero], fun j a b hj => by omega⟩
      case round =>
        obtain ⟨k, ln, sa, sc, rfl, rfl, hk, HI⟩ := hrel
        obtain ⟨p0, p1, htz, hpz, hbz⟩ := HX.out wr HI.out.1
        have x2 : wr.cell? ⟨W.heap.size, 2, none⟩ = some (.slice pa p.args.length pc) := cell_at p0 rfl
        by_cases hlt : k < p.args.length
        · have hkI : (k : Int) < (p.args.length : Int) := by omega
          have hkJ : (k : Int) < (t.args.length : Int) := by have := HLen.out; omega
          have hk0 : (0 : Int) ≤ (k : Int) := by omega
          have hlt2 : k < t.args.length := by have := HLen.out; omega
          obtain ⟨l', hl', hle, hmt⟩ := HI.out.2
          obtain ⟨Wd, hWd⟩ : ∃ X, wr.drew = X := ⟨_, rfl⟩
          have hd : Below wr.heap.size wr Wd := by rw [← hWd]; exact (Below.refl _ wr).drew
          have hbd : Below W2.heap.size W2 Wd := HI.out.1.trans (hd.mono HI.out.1.size)
          obtain ⟨d0, d1, htd, hpd, hbW⟩ := HX.out Wd hbd
          obtain ⟨b1, o1, s1, e1, hb1, a0, a1, a2, hs1⟩ := hpd.nth hlt
          obtain ⟨b2, o2, s2, e2, hb2, c0, c1, c2, hs2⟩ := htd.nth hlt2
          subst e1 e2
          have hbnd : (l'.length : Int) + (p.args[k]).size ≤ 1048576 := by
            have h1 := upto_lt p.args k hlt
            have h2 := HSz.out
            rw [T.size_eq] at h2
            omega
          have hcall := HIH.out p.args[k] (List.getElem_mem hlt) t.args[k] l' (.slice sa ln sc) s1 s2 Wd (HSh.out _ (List.getElem_mem hlt)) (hl'.keep hd) hs1 hs2 hbnd
          obtain ⟨q, hq⟩ : ∃ q, p.args[k] = q := ⟨_, rfl⟩
          obtain ⟨r, hr⟩ : ∃ r, t.args[k] = r := ⟨_, rfl⟩
          have hqo : p.args[k]? = some q := by rw [List.getElem?_eq_getElem hlt, hq]
          have hro : t.args[k]? = some r := by rw [List.getElem?_eq_getElem hlt2, hr]
          have hup : upto T.size p.args (k + 1) = upto T.size p.args k + q.size := by rw [upto_succ _ _ _ hlt, hq]
          rw [hq] at hcall a0 a1 hs1
          rw [hr] at hcall c0 c1 hs2
          have hdl := Array.getElem?_eq_some_iff.1 d0 |>.1
          have hdm := Array.getElem?_eq_some_iff.1 d1 |>.1
          obtain ⟨qa, qc, rfl, _, _⟩ := hs1.slice
          obtain ⟨ra, rc, rfl, _, _⟩ := hs2.slice
          have HY : Hid (∀ Z, Below Wd.heap.size Wd Z → (Z.cell? ⟨W.heap.size, 2, none⟩ = some (.slice (some ⟨b1, o1, none⟩) p.args.length pc) ∧ Z.cell? ⟨W.heap.size + 1, 2, none⟩ = some (.slice (some ⟨b2, o2, none⟩) t.args.length tc)) ∧ (Z.cell? ⟨b1, o1 + k * 3, none⟩ = some (.int .i64 q.v) ∧ Z.cell? ⟨b1, o1 + k * 3 + 1, none⟩ = some (.string q.fn) ∧ Z.cell? ⟨b1, o1 + k * 3 + 2, none⟩ = some (.slice qa q.args.length qc)) ∧ Z.cell? ⟨b2, o2 + k * 3, none⟩ = some (.int .i64 r.v) ∧ Z.cell? ⟨b2, o2 + k * 3 + 1, none⟩ = some (.string r.fn) ∧ Z.cell? ⟨b2, o2 + k * 3 + 2, none⟩ = some (.slice ra r.args.length rc)) := fun Z hZ =>
            ⟨⟨kc hZ hdl (cell_at d0 rfl), kc hZ hdm (cell_at d1 rfl)⟩, ⟨kc hZ hb1 a0, kc hZ hb1 a1, kc hZ hb1 a2⟩, kc hZ hb2 c0, kc hZ hb2 c1, kc hZ hb2 c2⟩
          have HNx : Hid (∀ (l5 : List Bd), (l5.length : Int) ≤ (l'.length : Int) + q.size → Mt q r → (l5.length : Int) ≤ (l.length : Int) + upto T.size p.args (k + 1) ∧ ∀ (j : Nat) (a b : T), j < k + 1 → p.args[j]? = some a → t.args[j]? = some b → Mt a b) := fun l5 h5 hm => by
            refine ⟨by rw [hup]; omega, fun j a b hj ha hb => ?_⟩
            by_cases e : j = k
            · subst e
              rw [hqo] at ha
              rw [hro] at hb
              cases ha
              cases hb
              exact hm
            · exact hmt j a b (by omega) ha hb
          have HDb : Hid (Below W2.heap.size W2 Wd ∧ Below W.heap.size W Wd) := ⟨hbd, hbW⟩
          have HK16 : Hid (k < p.args.length ∧ p.args.length ≤ 16) := ⟨hlt, H16.out⟩
          clear hl' hle hmt hd hbd htd hpd hbW a0 a1 a2 c0 c1 c2 hs1 hs2 hbnd hq hr hqo hro hup hdl hdm d0 d1 hb1 hb2 htz hpz hbz p0 p1 HI
          go_wp2
          refine wp_region_held_drew (S := fun Z => Below Wd.heap.size Wd Z) (by kernel_rfl) (by rw [hWd]; exact Below.refl _ _) (fun hHeld => ?_)
          rw [hWd] at hHeld ⊢
          refine take_mk 0 (.slice sa ln sc) rfl (by kernel_rfl) (by kernel_rfl) (by kernel_rfl) (fun _ _ _ h => h) (Or.inl ⟨by rfl, fun Z hZ => by go_simp⟩) (by assumption) ?_
          try simp only [Act.put, List.setIfInBounds_toArray, List.set_cons_zero, List.set_cons_succ]
          refine take_mk 1 (.pointer (some ⟨W.heap.size, 2, none⟩)) rfl (by kernel_rfl) (by kernel_rfl) (by kernel_rfl) (fun _ _ _ h => h) (Or.inl ⟨by rfl, fun Z hZ => by go_simp⟩) (by assumption) ?_
          try simp only [Act.put, List.setIfInBounds_toArray, List.set_cons_zero, List.set_cons_succ]
          refine take_mk 2 (.slice (some ⟨b1, o1, none⟩) p.args.length pc) rfl (by kernel_rfl) (by kernel_rfl) (by kernel_rfl) (fun _ _ _ h => h) (Or.inl ⟨by rfl, fun Z hZ => by obtain ⟨⟨u0, u1⟩, _⟩ := HY.out Z hZ; go_simp⟩) (by assumption) ?_
          try simp only [Act.put, List.setIfInBounds_toArray, List.set_cons_zero, List.set_cons_succ]
          refine take_mk 3 (.int .i64 (k : Nat)) rfl (by kernel_rfl) (by kernel_rfl) (by kernel_rfl) (fun _ _ _ h => h) (Or.inl ⟨by rfl, fun Z hZ => by go_simp⟩) (by assumption) ?_
          try simp only [Act.put, List.setIfInBounds_toArray, List.set_cons_zero, List.set_cons_succ]
          refine take_mk 4 (.pointer (some ⟨b1, o1 + k * 3, none⟩)) rfl (by kernel_rfl) (by kernel_rfl) (by kernel_rfl) (fun _ _ _ h => h) (Or.inl ⟨by rfl, fun Z hZ => by go_simp⟩) (by assumption) ?_
          try simp only [Act.put, List.setIfInBounds_toArray, List.set_cons_zero, List.set_cons_succ]
          refine take_mk 5 (tval q (.slice qa q.args.length qc)) rfl (by kernel_rfl) (by kernel_rfl) (by kernel_rfl) (fun _ _ _ h => h) (Or.inl ⟨by rfl, fun Z hZ => by obtain ⟨_, ⟨u0, u1, u2⟩, _⟩ := HY.out Z hZ; go_simp⟩) (by assumption) ?_
          try simp only [Act.put, List.setIfInBounds_toArray, List.set_cons_zero, List.set_cons_succ]
          refine take_mk 6 (.pointer (some ⟨W.heap.size + 1, 2, none⟩)) rfl (by kernel_rfl) (by kernel_rfl) (by kernel_rfl) (fun _ _ _ h => h) (Or.inl ⟨by rfl, fun Z hZ => by go_simp⟩) (by assumption) ?_
          try simp only [Act.put, List.setIfInBounds_toArray, List.set_cons_zero, List.set_cons_succ]
          refine take_mk 7 (.slice (some ⟨b2, o2, none⟩) t.args.length tc) rfl (by kernel_rfl) (by kernel_rfl) (by kernel_rfl) (fun _ _ _ h => h) (Or.inl ⟨by rfl, fun Z hZ => by obtain ⟨⟨u0, u1⟩, _⟩ := HY.out Z hZ; go_simp⟩) (by assumption) ?_
          try simp only [Act.put, List.setIfInBounds_toArray, List.set_cons_zero, List.set_cons_succ]
          refine take_mk 8 (.int .i64 (k : Nat)) rfl (by kernel_rfl) (by kernel_rfl) (by kernel_rfl) (fun _ _ _ h => h) (Or.inl ⟨by rfl, fun Z hZ => by go_simp⟩) (by assumption) ?_
          try simp only [Act.put, List.setIfInBounds_toArray, List.set_cons_zero, List.set_cons_succ]
          refine take_mk 9 (.pointer (some ⟨b2, o2 + k * 3, none⟩)) rfl (by kernel_rfl) (by kernel_rfl) (by kernel_rfl) (fun _ _ _ h => h) (Or.inl ⟨by rfl, fun Z hZ => by go_simp⟩) (by assumption) ?_
          try simp only [Act.put, List.setIfInBounds_toArray, List.set_cons_zero, List.set_cons_succ]
          refine take_mk 10 (tval r (.slice ra r.args.length rc)) rfl (by kernel_rfl) (by kernel_rfl) (by kernel_rfl) (fun _ _ _ h => h) (Or.inl ⟨by rfl, fun Z hZ => by obtain ⟨_, _, u0, u1, u2⟩ := HY.out Z hZ; go_simp⟩) (by assumption) ?_
          try simp only [Act.put, List.setIfInBounds_toArray, List.set_cons_zero, List.set_cons_succ]
          refine wpAnyH_ready (rs := [11]) (by kernel_rfl) (by simp) (AllReadyH.cons (o := ⟨_, _, _, _, _, _⟩) rfl (fun K hK => ?_) AllReadyH.nil)
          rw [if_pos (by rfl)]
          go_simp
          refine hcall.mono ?_
          rintro e W5 ⟨v5, z, rfl, b5, hz5⟩
          refine hK.out _ _ b5 (fun _ => ?_)
          clear hK K
          try simp only [Act.put, List.setIfInBounds_toArray, List.set_cons_zero, List.set_cons_succ]
          refine take_mk 12 (.tuple #[v5, .bool z]) rfl (by kernel_rfl) (by kernel_rfl) (by kernel_rfl) (fun _ _ _ h => h) (Or.inl ⟨by rfl, fun Z hZ => by go_simp⟩) (by assumption) ?_
          try simp only [Act.put, List.setIfInBounds_toArray, List.set_cons_zero, List.set_cons_succ]
          refine take_mk 13 (v5) rfl (by kernel_rfl) (by kernel_rfl) (by kernel_rfl) (fun _ _ _ h => h) (Or.inl ⟨by rfl, fun Z hZ => by go_simp⟩) (by assumption) ?_
          try simp only [Act.put, List.setIfInBounds_toArray, List.set_cons_zero, List.set_cons_succ]
          refine take_mk 14 (.bool z) rfl (by kernel_rfl) (by kernel_rfl) (by kernel_rfl) (fun _ _ _ h => h) (Or.inl ⟨by rfl, fun Z hZ => by go_simp⟩) (by assumption) ?_
          try simp only [Act.put, List.setIfInBounds_toArray, List.set_cons_zero, List.set_cons_succ]
          refine take_mk 15 (v5) rfl (by kernel_rfl) (by kernel_rfl) (by kernel_rfl) (fun _ _ _ h => h) (Or.inl ⟨by rfl, fun Z hZ => by go_simp⟩) (by assumption) ?_
          try simp only [Act.put, List.setIfInBounds_toArray, List.set_cons_zero, List.set_cons_succ]
          refine take_mk 16 (.bool z) rfl (by kernel_rfl) (by kernel_rfl) (by kernel_rfl) (fun _ _ _ h => h) (Or.inl ⟨by rfl, fun Z hZ => by go_simp⟩) (by assumption) ?_
          try simp only [Act.put, List.setIfInBounds_toArray, List.set_cons_zero, List.set_cons_succ]
          refine wpAnyH_done (by kernel_rfl) ?_ _
          try simp only [Act.put]
          have HB5 : Hid (Below W2.heap.size W2 W5 ∧ Below W.heap.size W W5) := ⟨HDb.out.1.trans (b5.mono HDb.out.1.size), HDb.out.2.trans (b5.mono HDb.out.2.size)⟩
          clear b5 hHeld HY hcall hWd
          cases z
          · clear hz5
            go_wp2
            refine bodyPost_ret (v := .tuple #[.slice none 0 0, .bool false]) (by simp [results, Try.results55, go_sem]) rfl ?_
            exact ⟨_, false, rfl, HB5.out.2, fun h => by cases h⟩
          · obtain ⟨hm, l5, hb5, hl5⟩ := hz5 rfl
            obtain ⟨sa5, sc5, rfl⟩ := hb5.slice
            have HN5 : Hid (BindsAt W5 (.slice sa5 l5.length sc5) l5 ∧ (l5.length : Int) ≤ (l.length : Int) + upto T.size p.args (k + 1) ∧ ∀ (j : Nat) (a b : T), j < k + 1 → p.args[j]? = some a → t.args[j]? = some b → Mt a b) := ⟨hb5, HNx.out l5 hl5 hm⟩
            clear hm hb5 hl5 hz5 HNx
            go_wp2
            go_roundw
            case rel => exact ⟨k + 1, _, _, _, rfl, by have := HK16.out; go_num, HK16.out.1, HB5.out.1, l5, HN5.out⟩
            case measure => have := HK16.out; simp [intOf]; omega
        · have hkI : ¬ (k : Int) < (p.args.length : Int) := by omega
          have HF : Hid (MatP p t l W (.returned (.tuple #[.slice sa ln sc, .bool true])) wr) := by
            obtain ⟨l', hl', hle, hmt⟩ := HI.out.2
            refine ⟨_, true, rfl, hbz, fun _ => ⟨.fn p t HF0.out HFn.out HLen.out (fun j a b ha hb => hmt j a b ?_ ha hb), l', hl', ?_⟩⟩
            · have := (List.getElem?_eq_some_iff.1 ha).1; omega
            · rw [T.size_eq, ← upto_all T.size p.args k (by omega)]; omega
          clear HI p0 p1 htz hpz hbz
          go_wp2
          refine bodyPost_ret (v := .tuple #[.slice sa ln sc, .bool true]) (by simp [results, Try.results55, go_sem]) rfl ?_
          exact HF.out
    · have hf2 : p.fn.toList = t.fn.toList := by rw [hf]
      have hde : t.fn.toList.isEmpty = false := by rw [← hf]; exact hdd
      have hlJ : ¬ (p.args.length : Int) = (t.args.length : Int) := by omega
      have hlI : ((p.args.length : Int) != (t.args.length : Int)) = true := by rw [bne_iff_ne]; omega
      clear hf
      go_enter Try.func55, Try.ntmps55
      go_wp2
      rw [HE2.out]
      refine bodyPost_ret (v := .tuple #[.slice none 0 0, .bool false]) (by simp [results, Try.results55, go_sem]) rfl ?_
      exact ⟨_, false, rfl, HB2.out, fun h => by cases h⟩
  · have hf2 : ¬ p.fn.toList = t.fn.toList := fun e => hf (ba_toList_inj.1 e)
    go_enter Try.func55, Try.ntmps55
    go_wp2
    rw [HE2.out]
    refine bodyPost_ret (v := .tuple #[.slice none 0 0, .bool false]) (by simp [results, Try.results55, go_sem]) rfl ?_
    exact ⟨_, false, rfl, HB2.out, fun h => by cases h⟩

theorem match_any (p : T) : MatAt p := by
  induction p using T.ind with
  | _ p ih =>
    by_cases h0 : p.fn.size = 0
    · exact match_var p h0
    · exact match_fn p ih h0

end Go.Proofs.Ytiklbkkimmgbcaa
