/-
  The document's match.
-/
import Derived.Test.YtiklbkkimmgbcaaHO
import Derived.Test.YtiklbkkimmgbcaaHL
namespace Go.Proofs.Ytiklbkkimmgbcaa
open Go.RowKit

def MatP (p t : T) (l : List Bd) (W : World) (e : Ending) (W' : World) : Prop := ∃ (v' : Value) (z : Bool), e = .returned (.tuple #[v', .bool z]) ∧ Below W.heap.size W W' ∧ (z = true → Mt p t ∧ ∃ l', BindsAt W' v' l' ∧ (l'.length : Int) ≤ (l.length : Int) + p.size)

def MatAt (p : T) : Prop := ∀ (t : T) (l : List Bd) (v sp st : Value) (W : World), p.shape = true → BindsAt W v l → ArgsAt W sp p.args → ArgsAt W st t.args → (l.length : Int) + p.size ≤ 1048576 → Calls Try.prog 55 #[v, tval p sp, tval t st] W (MatP p t l W)

theorem withL_len (l : List Bd) (x : Bd) : (withL l x).length = l.length + 1 := by
  have := (withL_perm l x).length_eq
  simpa using this

set_option maxRecDepth 100000 in
set_option maxHeartbeats 8000000 in
theorem match_var (p : T) (h0 : p.fn.size = 0) : MatAt p := by
  intro t l v sp st W hsh hl hp ht hsz
  have hdd : p.fn.toList.isEmpty = true := by rw [ba_isEmpty, h0]; rfl
  obtain ⟨la, lc, rfl⟩ := hl.slice
  obtain ⟨pa, pc, rfl, _, _⟩ := hp.slice
  obtain ⟨ta, tc, rfl, _, _⟩ := ht.slice
  have hll : l.length ≤ 1048576 := by have := T.size_pos p; omega
  obtain ⟨W2, h2⟩ : ∃ X, (W.alloc (.cells #[.int .i64 p.v, .string p.fn, .slice pa p.args.length pc] 24)).alloc (.cells #[.int .i64 t.v, .string t.fn, .slice ta t.args.length tc] 24) = X := ⟨_, rfl⟩
  have b2 : Below W.heap.size W W2 := by rw [← h2]; exact below_box2 W _ _
  have q0 : W2.heap[W.heap.size]? = some (.cells #[.int .i64 p.v, .string p.fn, .slice pa p.args.length pc] 24 (0, 0)) := by
    rw [← h2, (below_box (W.alloc (.cells #[.int .i64 p.v, .string p.fn, .slice pa p.args.length pc] 24)) _).block _ (by simp)]
    exact (MapKept.heap_alloc _ _).1
  have q1 : W2.heap[W.heap.size + 1]? = some (.cells #[.int .i64 t.v, .string t.fn, .slice ta t.args.length tc] 24 (0, 0)) := by
    rw [← h2]
    have := (MapKept.heap_alloc (W.alloc (.cells #[.int .i64 p.v, .string p.fn, .slice pa p.args.length pc] 24)) (.cells #[.int .i64 t.v, .string t.fn, .slice ta t.args.length tc] 24)).1
    simpa using this
  have HX : Hid (∀ Z, Below W2.heap.size W2 Z → Z.heap[W.heap.size]? = some (.cells #[.int .i64 p.v, .string p.fn, .slice pa p.args.length pc] 24 (0, 0)) ∧ Z.heap[W.heap.size + 1]? = some (.cells #[.int .i64 t.v, .string t.fn, .slice ta t.args.length tc] 24 (0, 0)) ∧ BindsAt Z (.slice la l.length lc) l ∧ ArgsAt Z (.slice ta t.args.length tc) t.args ∧ Below W.heap.size W Z) := fun Z hZ => by
    have hb := b2.trans (hZ.mono b2.size)
    refine ⟨(hZ.block _ (Array.getElem?_eq_some_iff.1 q0).1).trans q0, (hZ.block _ (Array.getElem?_eq_some_iff.1 q1).1).trans q1, hl.keep hb, ArgsAt.keep hb (Nat.le_refl _) ht, hb⟩
  have HSl : Hid (∀ Z, Below W2.heap.size W2 Z → W.heap.size + 1 < Z.heap.size) := fun Z hZ => by have h1 := (Array.getElem?_eq_some_iff.1 q1).1; have h2 := hZ.size; omega
  have HE2 : Hid ((W.alloc (.cells #[.int .i64 p.v, .string p.fn, .slice pa p.args.length pc] 24)).alloc (.cells #[.int .i64 t.v, .string t.fn, .slice ta t.args.length tc] 24) = W2) := h2
  have HM : Hid (Mt p t) := .var p t h0
  have HSz : Hid (0 < p.size) := T.size_pos p
  clear hsh hl hp ht hsz h0 h2 b2 q0 q1
  go_enter Try.func55, Try.ntmps55
  go_wp2
  rw [HE2.out]
  clear HE2
  go_loopw [8] (fun vi wr => ∃ i : Nat, vi = .int .i64 i ∧ i ≤ l.length ∧ Hid (Below W2.heap.size W2 wr)) (fun vi _ => l.length - (intOf vi).toNat)
  case atStart => exact ⟨0, rfl, Nat.zero_le _, Below.refl _ _⟩
  case round =>
    obtain ⟨i, rfl, hi, HI⟩ := hrel
    obtain ⟨p0, p1, hlz, htz, hbz⟩ := HX.out wr HI.out
    have x0 : wr.cell? ⟨W.heap.size, 0, none⟩ = some (.int .i64 p.v) := cell_at p0 rfl
    have t0 : wr.cell? ⟨W.heap.size + 1, 0, none⟩ = some (.int .i64 t.v) := cell_at p1 rfl
    have t1 : wr.cell? ⟨W.heap.size + 1, 1, none⟩ = some (.string t.fn) := cell_at p1 rfl
    have t2 : wr.cell? ⟨W.heap.size + 1, 2, none⟩ = some (.slice ta t.args.length tc) := cell_at p1 rfl
    by_cases hlt : i < l.length
    · have hiI : (i : Int) < (l.length : Int) := by omega
      have hi0 : (0 : Int) ≤ (i : Int) := by omega
      obtain ⟨b, o, s, e1, hB⟩ := hlz.nth hlt
      subst e1
      obtain ⟨x, hx⟩ : ∃ x, l[i] = x := ⟨_, rfl⟩
      rw [hx] at hB
      have HLt : Hid (i < l.length) := hlt
      obtain ⟨bl, y0, y1, y2, y3, hsub⟩ := hB
      clear hx p0 p1
      by_cases hv : x.1 = p.v
      · rw [hv] at y0
        obtain ⟨sa, sc, rfl, _, _⟩ := hsub.slice
        obtain ⟨z, hz⟩ : ∃ z, same x.2 t = z := ⟨_, rfl⟩
        have HC : Hid (∀ Z, Below wr.heap.size wr Z → Calls Try.prog 63 #[tval x.2 (.slice sa x.2.args.length sc), tval t (.slice ta t.args.length tc)] Z fun e w' => e = .returned (.bool z) ∧ Below Z.heap.size Z w') := fun Z hZ => by
          rw [← hz]
          exact rsame_any x.2 t _ _ Z (ArgsAt.keep hZ (Nat.le_refl _) hsub) (ArgsAt.keep hZ (Nat.le_refl _) htz)
        have hp1l : W.heap.size + 1 < wr.heap.size := HSl.out wr HI.out
        have HY : Hid (∀ Z, Below wr.heap.size wr Z → (Z.cell? ⟨b, o + i * 4 + 1, none⟩ = some (.int .i64 x.2.v) ∧ Z.cell? ⟨b, o + i * 4 + 1 + 1, none⟩ = some (.string x.2.fn) ∧ Z.cell? ⟨b, o + i * 4 + 1 + 2, none⟩ = some (.slice sa x.2.args.length sc)) ∧ Z.cell? ⟨W.heap.size + 1, 0, none⟩ = some (.int .i64 t.v) ∧ Z.cell? ⟨W.heap.size + 1, 1, none⟩ = some (.string t.fn) ∧ Z.cell? ⟨W.heap.size + 1, 2, none⟩ = some (.slice ta t.args.length tc)) := fun Z hZ =>
          ⟨⟨kc hZ bl y1, kc hZ bl y2, kc hZ bl y3⟩, kc hZ hp1l t0, kc hZ hp1l t1, kc hZ hp1l t2⟩
        have HR : Hid (∀ Z, Below wr.heap.size wr Z → MatP p t l W (.returned (.tuple #[.slice (some ⟨b, o, none⟩) l.length lc, .bool z])) Z) := fun Z hZ => ⟨_, z, rfl, hbz.trans (hZ.mono hbz.size), fun _ => ⟨HM.out, l, hlz.keep hZ, by have := HSz.out; omega⟩⟩
        clear hz hv hsub htz hlz y1 y2 y3 bl hp1l t0 t1 t2 hbz HI
        go_wp2
        go_quiet (fail)
        obtain ⟨Wq, hWq⟩ : ∃ X, wr.drewN nq = X := ⟨_, rfl⟩
        have HQ : Hid (Below wr.heap.size wr Wq) := by rw [← hWq]; exact below_dn wr _
        rw [hWq]
        clear hWq x0 y0
        obtain ⟨Wd, hWd⟩ : ∃ X, Wq.drew = X := ⟨_, rfl⟩
        have hd : Below Wq.heap.size Wq Wd := by rw [← hWd]; exact (Below.refl _ Wq).drew
        have HDw : Hid (Below wr.heap.size wr Wd) := HQ.out.trans (hd.mono HQ.out.size)
        clear hd
        go_wp2
        refine wp_region_held_drew (S := fun Z => Below wr.heap.size wr Z) (by kernel_rfl) (by rw [hWd]; exact HDw.out) (fun hHeld => ?_)
        rw [hWd] at hHeld ⊢
        refine take_mk 0 (.slice (some ⟨b, o, none⟩) l.length lc) rfl (by kernel_rfl) (by kernel_rfl) (by kernel_rfl) (fun _ _ _ h => h) (Or.inl ⟨by rfl, fun Z hZ => by go_simp⟩) (by assumption) ?_
        try simp only [Act.put, List.setIfInBounds_toArray, List.set_cons_zero, List.set_cons_succ]
        refine take_mk 1 (.slice (some ⟨b, o, none⟩) l.length lc) rfl (by kernel_rfl) (by kernel_rfl) (by kernel_rfl) (fun _ _ _ h => h) (Or.inl ⟨by rfl, fun Z hZ => by go_simp⟩) (by assumption) ?_
        try simp only [Act.put, List.setIfInBounds_toArray, List.set_cons_zero, List.set_cons_succ]
        refine take_mk 2 (.int .i64 (i : Nat)) rfl (by kernel_rfl) (by kernel_rfl) (by kernel_rfl) (fun _ _ _ h => h) (Or.inl ⟨by rfl, fun Z hZ => by go_simp⟩) (by assumption) ?_
        try simp only [Act.put, List.setIfInBounds_toArray, List.set_cons_zero, List.set_cons_succ]
        refine take_mk 3 (.pointer (some ⟨b, o + i * 4, none⟩)) rfl (by kernel_rfl) (by kernel_rfl) (by kernel_rfl) (fun _ _ _ h => h) (Or.inl ⟨by rfl, fun Z hZ => by go_simp⟩) (by assumption) ?_
        try simp only [Act.put, List.setIfInBounds_toArray, List.set_cons_zero, List.set_cons_succ]
        refine take_mk 4 (.pointer (some ⟨b, o + i * 4 + 1, none⟩)) rfl (by kernel_rfl) (by kernel_rfl) (by kernel_rfl) (fun _ _ _ h => h) (Or.inl ⟨by rfl, fun Z hZ => by go_simp⟩) (by assumption) ?_
        try simp only [Act.put, List.setIfInBounds_toArray, List.set_cons_zero, List.set_cons_succ]
        refine take_mk 5 (tval x.2 (.slice sa x.2.args.length sc)) rfl (by kernel_rfl) (by kernel_rfl) (by kernel_rfl) (fun _ _ _ h => h) (Or.inl ⟨by rfl, fun Z hZ => by obtain ⟨⟨u0, u1, u2⟩, _⟩ := HY.out Z hZ; go_simp⟩) (by assumption) ?_
        try simp only [Act.put, List.setIfInBounds_toArray, List.set_cons_zero, List.set_cons_succ]
        refine take_mk 6 (tval t (.slice ta t.args.length tc)) rfl (by kernel_rfl) (by kernel_rfl) (by kernel_rfl) (fun _ _ _ h => h) (Or.inl ⟨by rfl, fun Z hZ => by obtain ⟨_, u0, u1, u2⟩ := HY.out Z hZ; go_simp⟩) (by assumption) ?_
        try simp only [Act.put, List.setIfInBounds_toArray, List.set_cons_zero, List.set_cons_succ]
        refine wpAnyH_ready (rs := [7]) (by kernel_rfl) (by simp) (AllReadyH.cons (o := ⟨_, _, _, _, _, _⟩) rfl (fun K hK => ?_) AllReadyH.nil)
        rw [if_pos (by rfl)]
        go_simp
        refine (HC.out Wd HDw.out).mono ?_
        rintro e W5 ⟨rfl, b5⟩
        have S5 : Below wr.heap.size wr W5 := HDw.out.trans (b5.mono HDw.out.size)
        refine hK.out _ _ S5 (fun _ => ?_)
        clear hK K
        try simp only [Act.put, List.setIfInBounds_toArray, List.set_cons_zero, List.set_cons_succ]
        refine take_mk 8 (.slice (some ⟨b, o, none⟩) l.length lc) rfl (by kernel_rfl) (by kernel_rfl) (by kernel_rfl) (fun _ _ _ h => h) (Or.inl ⟨by rfl, fun Z hZ => by go_simp⟩) (by assumption) ?_
        try simp only [Act.put, List.setIfInBounds_toArray, List.set_cons_zero, List.set_cons_succ]
        refine take_mk 9 (.bool z) rfl (by kernel_rfl) (by kernel_rfl) (by kernel_rfl) (fun _ _ _ h => h) (Or.inl ⟨by rfl, fun Z hZ => by go_simp⟩) (by assumption) ?_
        try simp only [Act.put, List.setIfInBounds_toArray, List.set_cons_zero, List.set_cons_succ]
        refine wpAnyH_done (by kernel_rfl) ?_ _
        try simp only [Act.put]
        have HF := HR.out W5 S5
        clear S5 b5 hHeld HY HC HR
        go_wp2
        refine bodyPost_ret (v := .tuple #[.slice (some ⟨b, o, none⟩) l.length lc, .bool z]) (by simp [results, Try.results55, go_sem]) rfl ?_
        exact HF
      · have hvi : ¬ (x.1 == p.v) = true := by simpa using hv
        clear hv hsub htz hlz y1 y2 y3 t0 t1 t2
        go_wp2
        go_quiet (fail)
        go_wp2
        go_roundw
        case rel => exact ⟨i + 1, by go_num, HLt.out, HI.out.trans ((below_dn wr _).mono HI.out.size)⟩
        case measure => have := HLt.out; simp [intOf]; omega
    · have hiI : ¬ (i : Int) < (l.length : Int) := by omega
      have hc := rwith_any l (p.v, t) _ _ wr hlz htz hll
      clear hlz htz p0 p1
      go_wp2_with fail
      refine hc.mono ?_
      rintro e W5 ⟨v5, rfl, hb5, b5⟩
      have HF : Hid (MatP p t l W (.returned (.tuple #[v5, .bool true])) W5) := ⟨v5, true, rfl, hbz.trans (b5.mono hbz.size), fun _ => ⟨HM.out, _, hb5, by rw [withL_len]; have := HSz.out; omega⟩⟩
      obtain ⟨a5, c5, rfl⟩ := hb5.slice
      clear hb5 hc hbz b5
      go_wp2
      refine bodyPost_ret (v := .tuple #[.slice a5 (withL l (p.v, t)).length c5, .bool true]) (by simp [results, Try.results55, go_sem]) rfl ?_
      exact HF.out

end Go.Proofs.Ytiklbkkimmgbcaa
