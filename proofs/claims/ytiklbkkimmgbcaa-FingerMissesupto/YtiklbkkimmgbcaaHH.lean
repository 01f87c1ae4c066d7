/-
  Laying a variable; laying any term.
-/
import Derived.Test.YtiklbkkimmgbcaaHG
namespace Go.Proofs.Ytiklbkkimmgbcaa
open Go.RowKit

theorem below_dn (w : World) (n : Nat) : Below w.heap.size w (w.drewN n) := ⟨rfl, rfl, rfl, Nat.le_refl _, fun _ _ => rfl⟩
theorem ba_zero {a b : ByteArray} (ha : a.size = 0) (hb : b.size = 0) : a = b := by
  apply ba_toList_inj.1
  have e : ∀ (c : ByteArray), c.size = 0 → c.toList = [] := fun c hc => by
    have : c.toList.isEmpty = true := by rw [ba_isEmpty, hc]; rfl
    simpa using this
  rw [e a ha, e b hb]

theorem layP_found {W0 W W' : World} {B base : Nat} {v : Value} {L : List (Nd × Value)} {t : T} {i : Nat} {x : Nd × Value} (hS : LayS W0 W B base v L) (hb : Below W.heap.size W W') (hx : L[i]? = some x) (h0 : t.fn.size = 0) (hf : x.1.fn.size = 0) : LayP W0 W B base v L t (.returned (.int .i64 (i : Nat))) W' := by
  refine ⟨i, v, [], rfl, by simpa using hS.keep hb, LayF.of_below hb, ?_, ?_, ?_, fun x hx => (by simp at hx)⟩
  · refine .mk i t x.1 (by simp [hx]) (ba_zero hf h0) (fun h => absurd h0 h) (fun h => absurd h0 h)
  · simpa using (List.getElem?_eq_some_iff.1 hx).1
  · have := T.size_pos t
    simp
    omega

set_option maxRecDepth 100000 in
set_option maxHeartbeats 16000000 in
theorem lay_var (W0 : World) (t : T) (h0 : t.fn.size = 0) : LayAt W0 t := by
  intro W B base v L s hsh hS ha hsz
  have hdd : t.fn.toList.isEmpty = true := by rw [ba_isEmpty, h0]; rfl
  rw [T.shape_eq, if_pos h0] at hsh
  simp only [Bool.and_eq_true, decide_eq_true_eq] at hsh
  have HVar : Hid (t.args.length = 0) := hsh.2
  have H16 : Hid (t.args.length ≤ 16) := by have := hsh.2; show _ ≤ _; omega
  have HSz : Hid ((L.length : Int) + t.size ≤ 1048576) := hsz
  have HF0 : Hid (t.fn.size = 0) := h0
  have HAA : Hid (ArgsAt W0 s t.args) := ha
  have HB : Hid (B < W.heap.size) := (Array.getElem?_eq_some_iff.1 hS.box).1
  have HV : Hid (∀ g, v.ownBlock = some g → g < W.heap.size) := fun g hg => (hS.vlt hg).2
  have HW0 : Hid (W0.heap.size ≤ W.heap.size) := hS.bel.size
  obtain ⟨sa, sc, rfl, _, _⟩ := ha.slice
  obtain ⟨W1, h1⟩ : ∃ X, W.alloc (.cells #[.int .i64 t.v, .string t.fn, .slice sa t.args.length sc] 24) = X := ⟨_, rfl⟩
  have b1 : Below W.heap.size W W1 := by rw [← h1]; exact below_box _ _
  have s1 : W1.heap.size = W.heap.size + 1 := by rw [← h1]; simp
  have tb1 : W1.heap[W.heap.size]? = some (.cells #[.int .i64 t.v, .string t.fn, .slice sa t.args.length sc] 24 (0, 0)) := by rw [← h1]; exact (MapKept.heap_alloc _ _).1
  have HS : Hid (LayS W0 W B base v L) := hS
  have HS1 : Hid (W1.heap.size = W.heap.size + 1) := s1
  have HB1 : Hid (Below W.heap.size W W1) := b1
  have HT1 : Hid (W1.heap[W.heap.size]? = some (.cells #[.int .i64 t.v, .string t.fn, .slice sa t.args.length sc] 24 (0, 0))) := tb1
  have HE1 : Hid (W.alloc (.cells #[.int .i64 t.v, .string t.fn, .slice sa t.args.length sc] 24) = W1) := h1
  have hLb : L.length ≤ 1048576 := by have := T.size_pos t; omega
  clear hS ha hsz h0 hsh b1 s1 tb1 h1
  go_enter Try.func49, Try.ntmps49
  go_wp2
  rw [HE1.out]
  clear HE1
  go_loopw [5] (fun vi wr => ∃ i : Nat, vi = .int .i64 i ∧ i ≤ L.length ∧ Hid (Below W1.heap.size W1 wr ∧ wr.heap.size = W1.heap.size)) (fun vi _ => L.length - (intOf vi).toNat)
  case atStart => exact ⟨0, rfl, Nat.zero_le _, Below.refl _ _, rfl⟩
  case round =>
    obtain ⟨i, rfl, hi, HI⟩ := hrel
    have hbw : Below W.heap.size W wr := HB1.out.trans (HI.out.1.mono HB1.out.size)
    have sW : LayS W0 wr B base v L := HS.out.keep hbw
    have tbw : wr.heap[W.heap.size]? = some (.cells #[.int .i64 t.v, .string t.fn, .slice sa t.args.length sc] 24 (0, 0)) := (HI.out.1.block _ (by have := HS1.out; omega)).trans HT1.out
    by_cases hlt : i < L.length
    · have hiI : (i : Int) < (L.length : Int) := by omega
      have hi0 : (0 : Int) ≤ (i : Int) := by omega
      obtain ⟨x, hx⟩ : ∃ x, L[i]? = some x := ⟨_, List.getElem?_eq_getElem hlt⟩
      obtain ⟨g, c, hvg, c0, c1⟩ := sW.cells hx
      have cx : wr.cell? ⟨B, 0, none⟩ = some (.slice (some ⟨g, 0, none⟩) L.length c) := by have := sW.box; rw [hvg] at this; exact cell_at this rfl
      have x0 : wr.cell? ⟨W.heap.size, 0, none⟩ = some (.int .i64 t.v) := cell_at tbw rfl
      have HX : Hid (L[i]? = some x) := hx
      have HBw : Hid (Below W.heap.size W wr) := hbw
      have HLt : Hid (i < L.length) := hlt
      clear hvg sW tbw hbw hx
      by_cases hf : x.1.fn.size = 0
      · have hf0 : x.1.fn.toList.isEmpty = true := by rw [ba_isEmpty, hf]; rfl
        by_cases hvv : x.1.v = t.v
        · rw [hvv] at c0
          have HR : Hid (∀ Z, Below wr.heap.size wr Z → LayP W0 W B base v L t (.returned (.int .i64 (i : Nat))) Z) := fun Z hZ => layP_found HS.out (HBw.out.trans (hZ.mono HBw.out.size)) HX.out HF0.out hf
          clear hvv hf HI
          go_wp2
          go_quiet (fail)
          go_wp2
          refine bodyPost_ret (v := .int .i64 (i : Nat)) (by simp [results, Try.results49, go_sem]) rfl ?_
          exact HR.out _ (below_dn wr _)
        · have hvi : ¬ (x.1.v == t.v) = true := by simpa using hvv
          clear hvv hf
          go_wp2
          go_quiet (fail)
          go_wp2
          go_roundw
          case rel => exact ⟨i + 1, by go_num, HLt.out, HI.out.1.trans ((below_dn wr _).mono HI.out.1.size), HI.out.2⟩
          case measure => have := HLt.out; simp [intOf]; omega
      · have hf0 : x.1.fn.toList.isEmpty = false := by rw [ba_isEmpty]; exact decide_eq_false hf
        clear hf
        go_wp2
        go_quiet (fail)
        go_wp2
        go_roundw
        case rel => exact ⟨i + 1, by go_num, HLt.out, HI.out.1.trans ((below_dn wr _).mono HI.out.1.size), HI.out.2⟩
        case measure => have := HLt.out; simp [intOf]; omega
    · have hiI : ¬ (i : Int) < (L.length : Int) := by omega
      have cx : ∃ va0 vc0, wr.cell? ⟨B, 0, none⟩ = some (.slice va0 L.length vc0) := by
        obtain ⟨va0, vc0, hv⟩ := row_slice sW.row
        exact ⟨va0, vc0, by have := sW.box; rw [hv] at this; exact cell_at this rfl⟩
      obtain ⟨va0, vc0, cx⟩ := cx
      have hsw : wr.heap.size = W.heap.size + 1 := HI.out.2.trans HS1.out
      have x0 : wr.cell? ⟨W.heap.size, 0, none⟩ = some (.int .i64 t.v) := cell_at tbw rfl
      have x1 : wr.cell? ⟨W.heap.size, 1, none⟩ = some (.string t.fn) := cell_at tbw rfl
      obtain ⟨W3, h3⟩ : ∃ X, wr.alloc (.cells #[.int .i64 t.v, .string t.fn, .slice none 0 0, .int .i64 0] 101) = X := ⟨_, rfl⟩
      have b3 : Below wr.heap.size wr W3 := by rw [← h3]; exact below_box _ _
      have nb3 : W3.heap[W.heap.size + 1]? = some (.cells #[.int .i64 t.v, .string t.fn, .slice none 0 0, .int .i64 0] 101 (0, 0)) := by rw [← h3, ← hsw]; exact (MapKept.heap_alloc _ _).1
      have tb3 := (b3.block _ (by omega)).trans tbw
      have hb3 : Below W.heap.size W W3 := hbw.trans (b3.mono (by omega))
      have H0 : Hid (LayI W0 W W3 B base v L t (.slice sa t.args.length sc) 0 v [] (.slice none 0 0) [] W3) := LayI.start HS.out hb3 tb3 nb3
      have H3 : Hid (Below W.heap.size W W3) := hb3
      have H3s : Hid (W3.heap.size = W.heap.size + 2) := by show _ = _; rw [← h3]; simp [hsw]
      have HE3 : Hid (wr.alloc (.cells #[.int .i64 t.v, .string t.fn, .slice none 0 0, .int .i64 0] 101) = W3) := h3
      clear h3 b3 nb3 tb3 hb3 sW hbw HI tbw
      go_wp2
      try rw [HE3.out]
      try rw [hsw]
      clear HE3 x0 x1 cx hsw
      go_loopw [7] (fun vi wr => ∃ k : Nat, vi = .int .i64 k ∧ k ≤ t.args.length ∧ ∃ v' L2 vv ks, Hid (LayI W0 W W3 B base v L t (.slice sa t.args.length sc) k v' L2 vv ks wr)) (fun vi _ => t.args.length - (intOf vi).toNat)
      case atStart => exact ⟨0, rfl, Nat.zero_le _, _, _, _, _, H0⟩
      case round =>
        obtain ⟨k, rfl, hk, v', L2, vv, ks, HI⟩ := hrel
        have x2 : wr.cell? ⟨W.heap.size, 2, none⟩ = some (.slice sa t.args.length sc) := cell_at HI.out.tb rfl
        by_cases hlt : k < t.args.length
        · have hkI : (k : Int) < (t.args.length : Int) := by omega
          have hk0 : (0 : Int) ≤ (k : Int) := by omega
          have := HVar.out
          omega
        · have hkI : ¬ (k : Int) < (t.args.length : Int) := by omega
          have hke : k = t.args.length := by omega
          have hI := HI.out
          obtain ⟨va, vc, rfl⟩ := row_slice hI.row
          obtain ⟨la, lc, rfl⟩ := row_slice hI.st.row
          have hB := HB.out
          have hvn := hI.vne HV.out
          have hsz := hI.sizes
          have hor := hI.st.ord
          obtain ⟨N, hN⟩ : ∃ n, (L ++ L2).length = n := ⟨_, rfl⟩
          have cb : wr.cell? ⟨B, 0, none⟩ = some (.slice la N lc) := by have := hI.st.box; rw [hN] at this; exact cell_at this rfl
          have fb : wr.frozen? ⟨B, 0, none⟩ = false := by simp [World.frozen?, hI.st.box]
          have cn : wr.cell? ⟨W.heap.size + 1, 3, none⟩ = some (.int .i64 0) := cell_at hI.nb rfl
          have fn : wr.frozen? ⟨W.heap.size + 1, 3, none⟩ = false := by simp [World.frozen?, hI.nb]
          obtain ⟨Wx, hWx⟩ : ∃ X, wr.setCell ⟨W.heap.size + 1, 3, none⟩ (.int .i64 (N : Nat)) = X := ⟨_, rfl⟩
          have nx : Wx.heap[W.heap.size + 1]? = some (.cells #[.int .i64 t.v, .string t.fn, .slice va k vc, .int .i64 (N : Nat)] 101 (0, 0)) := by
            rw [← hWx, heap_setCell_same wr (W.heap.size + 1) 3 _ 101 _ hI.nb]
            rfl
          have ox : Only [W.heap.size + 1] wr Wx := by rw [← hWx]; exact only_setCell _ _ _ _
          obtain ⟨Wd, hWd⟩ : ∃ X, Wx.drew = X := ⟨_, rfl⟩
          have hd : Below Wx.heap.size Wx Wd := by rw [← hWd]; exact (Below.refl _ Wx).drew
          have od : Only [W.heap.size + 1] wr Wd := ox.trans (Only.of_below (B := []) hd) (by simp)
          have ods := od.size
          have oxs := ox.size
          have vlt : ∀ g, (Value.slice la (L ++ L2).length lc).ownBlock = some g → base ≤ g ∧ g < wr.heap.size := fun g hg => hI.st.vlt hg
          rw [hN] at vlt hvn
          have nd : Wd.heap[W.heap.size + 1]? = some (.cells #[.int .i64 t.v, .string t.fn, .slice va k vc, .int .i64 (N : Nat)] 101 (0, 0)) := (hd.block _ (by omega)).trans nx
          have bd : Wd.heap[B]? = some (.cells #[.slice la N lc] 93 (0, 0)) := by rw [od.block _ (by omega) (by simp; omega)]; have := hI.st.box; rw [hN] at this; exact this
          have HX : Hid (∀ Z, Only (ob (.slice la N lc)) Wd Z → Z.heap[B]? = some (.cells #[.slice la N lc] 93 (0, 0)) ∧ Z.heap[W.heap.size + 1]? = some (.cells #[.int .i64 t.v, .string t.fn, .slice va k vc, .int .i64 (N : Nat)] 101 (0, 0))) := fun Z hZ => by
            refine ⟨(hZ.block _ (by omega) (fun hm => ?_)).trans bd, (hZ.block _ (by omega) (fun hm => ?_)).trans nd⟩
            · have := (vlt _ (mem_ob.1 hm)).1; omega
            · exact hvn.2 (mem_ob.1 hm)
          have RD : Wd.ownsRow base 101 4 (.slice la N lc) N (flN (L ++ L2) 0) := by
            have := hI.st.row
            rw [hN] at this
            exact row_keep this (fun g hg => od.block g (vlt g hg).2 (by simp; intro e; exact hvn.2 (e ▸ hg)))
          have HNb : Hid (N ≤ 1048576) := by
            have h1 := hI.len
            have h2 := upto_le t.args k
            have h3 := HSz.out
            rw [T.size_eq] at h3
            rw [List.length_append] at hN
            show N ≤ _
            omega
          have HNE : Hid (base ≤ Wd.heap.size ∧ W.heap.size + 1 ≠ B) := ⟨by omega, by omega⟩
          have HL : Hid (∀ (W7 : World) (v7 : Value) (bl : Obj), W7.ownsRow base 101 4 v7 (N + 1) (flN (L ++ L2) 0 ++ ncs t.v t.fn (.slice va k vc) N) → (Wd.alloc bl).grownBy W7 (Value.slice la N lc).ownBlock → (v7.ownBlock = (Value.slice la N lc).ownBlock ∨ v7.ownBlock = some (Wd.alloc bl).heap.size) → LayP W0 W B base v L t (.returned (.int .i64 (N : Nat))) (W7.setCell ⟨B, 0, none⟩ v7)) := fun W7 v7 bl q1 q2 q3 => by
            have := LayI.last (bl := bl) (v7 := v7) (W7 := W7) hI H16.out hke HB.out HV.out H3.out H3s.out HW0.out od
            rw [hN] at this
            exact this q1 q2 q3
          have hHeld : Only (ob (.slice la N lc)) Wd Wd := Only.refl _ _
          obtain ⟨i0, hi0, hz0, hz1, hz2⟩ := info_parts Try.info101q
          clear hI hvn hsz hor nx ox hd od ods oxs vlt nd bd HI hN hke
          go_wp2
          try rw [hWx]
          refine wp_region_last 10 (S := fun Z => Only (ob (.slice la N lc)) Wd Z) (by kernel_rfl) ?_
          rw [hWd]
          refine wpLast_take 0 (.pointer (some ⟨B, 0, none⟩)) rfl (by kernel_rfl) (by kernel_rfl) (by kernel_rfl) (by kernel_rfl) (fun _ _ _ h => h) (Or.inl ⟨by rfl, fun Z hZ => by go_simp⟩) (by assumption) ?_
          try simp only [Act.put, List.setIfInBounds_toArray, List.set_cons_zero, List.set_cons_succ]
          refine wpLast_take 1 (.pointer (some ⟨B, 0, none⟩)) rfl (by kernel_rfl) (by kernel_rfl) (by kernel_rfl) (by kernel_rfl) (fun _ _ _ h => h) (Or.inl ⟨by rfl, fun Z hZ => by go_simp⟩) (by assumption) ?_
          try simp only [Act.put, List.setIfInBounds_toArray, List.set_cons_zero, List.set_cons_succ]
          refine wpLast_take 2 (.pointer (some ⟨B, 0, none⟩)) rfl (by kernel_rfl) (by kernel_rfl) (by kernel_rfl) (by kernel_rfl) (fun _ _ _ h => h) (Or.inl ⟨by rfl, fun Z hZ => by go_simp⟩) (by assumption) ?_
          try simp only [Act.put, List.setIfInBounds_toArray, List.set_cons_zero, List.set_cons_succ]
          refine wpLast_take 3 (.pointer (some ⟨B, 0, none⟩)) rfl (by kernel_rfl) (by kernel_rfl) (by kernel_rfl) (by kernel_rfl) (fun _ _ _ h => h) (Or.inl ⟨by rfl, fun Z hZ => by go_simp⟩) (by assumption) ?_
          try simp only [Act.put, List.setIfInBounds_toArray, List.set_cons_zero, List.set_cons_succ]
          refine wpLast_take 4 (.slice la N lc) rfl (by kernel_rfl) (by kernel_rfl) (by kernel_rfl) (by kernel_rfl) (fun _ _ _ h => h) (Or.inl ⟨by rfl, fun Z hZ => by obtain ⟨y0, _⟩ := HX.out Z hZ; have y1 := cell_at y0 (o := 0) rfl; go_simp⟩) (by assumption) ?_
          try simp only [Act.put, List.setIfInBounds_toArray, List.set_cons_zero, List.set_cons_succ]
          refine wpLast_take 5 (nval t.v t.fn (.slice va k vc) N) rfl (by kernel_rfl) (by kernel_rfl) (by kernel_rfl) (by kernel_rfl) (fun _ _ _ h => h) (Or.inl ⟨by rfl, fun Z hZ => by obtain ⟨_, y0⟩ := HX.out Z hZ; have y1 := cell_at y0 (o := 0) rfl; have y2 := cell_at y0 (o := 1) rfl; have y3 := cell_at y0 (o := 2) rfl; have y4 := cell_at y0 (o := 3) rfl; go_simp⟩) (by assumption) ?_
          try simp only [Act.put, List.setIfInBounds_toArray, List.set_cons_zero, List.set_cons_succ]
          refine wpLast_one (i := 6) (o := ⟨_, _, _, _, _, _⟩) (by kernel_rfl) rfl (fun KK hK => ?_)
          rw [if_pos (by rfl)]
          go_simp
          obtain ⟨W6, hW6⟩ : ∃ X, Wd.alloc (.cells #[.int .i64 t.v, .string t.fn, .slice va k vc, .int .i64 (N : Nat)] 101) = X := ⟨_, rfl⟩
          have b6 : Below Wd.heap.size Wd W6 := by rw [← hW6]; exact below_box _ _
          have n6 : W6.heap[Wd.heap.size]? = some (.cells #[.int .i64 t.v, .string t.fn, .slice va k vc, .int .i64 (N : Nat)] 101 (0, 0)) := by rw [← hW6]; exact (MapKept.heap_alloc _ _).1
          have S6 : Only (ob (.slice la N lc)) Wd W6 := Only.of_below b6
          have R6 := row_keep RD (W' := W6) (fun g hg => by
            obtain ⟨_, cq, hq⟩ := row_block RD hg
            exact b6.block g (Array.getElem?_eq_some_iff.1 hq).1)
          rw [hW6]
          refine hK.out _ _ (fun _ => S6) ?_
          clear hK KK
          try simp only [Act.put, List.setIfInBounds_toArray, List.set_cons_zero, List.set_cons_succ]
          refine wpLast_one (i := 7) (o := ⟨_, _, _, _, _, _⟩) (by kernel_rfl) rfl (fun KK hK => ?_)
          have hne := HNE.out
          have hnb := HNb.out
          have h6s := b6.size
          refine step_append_own W6 rfl (.tmp 77) (.tmp 79) 91 rfl base 101 i0 _ 4 56 Try.underlying91 hi0 hz0 hz1 hz2 rfl (by decide) (.slice la N lc) N (flN (L ++ L2) 0) rfl R6 ⟨Wd.heap.size, 0, none⟩ 1 1 (ncs t.v t.fn (.slice va k vc) N) rfl rfl (fun j u hj => by rw [Addr.add_mid, Nat.zero_add]; exact cell_at n6 (by simpa [ncs] using hj)) (ones4 _ _ _ _ _ _) (by unfold maxLen; omega) (by omega) (by omega) ?_
          intro v7 W7 hrow7 hg7 hb7
          have S7 : Only (ob (.slice la N lc)) Wd W7 := S6.trans (Only.of_grown (B := ob (.slice la N lc)) hg7 (fun r hr => mem_ob.2 hr)) (fun r hr => .inl hr)
          refine hK.out _ _ (fun _ => S7) ?_
          clear hK KK
          try simp only [Act.put, List.setIfInBounds_toArray, List.set_cons_zero, List.set_cons_succ]
          refine wpLast_take 8 (.pointer (some ⟨B, 0, none⟩)) rfl (by kernel_rfl) (by kernel_rfl) (by kernel_rfl) (by kernel_rfl) (fun _ _ _ h => h) (Or.inl ⟨by rfl, fun Z hZ => by go_simp⟩) (by assumption) ?_
          try simp only [Act.put, List.setIfInBounds_toArray, List.set_cons_zero, List.set_cons_succ]
          refine wpLast_take 9 (.pointer (some ⟨B, 0, none⟩)) rfl (by kernel_rfl) (by kernel_rfl) (by kernel_rfl) (by kernel_rfl) (fun _ _ _ h => h) (Or.inl ⟨by rfl, fun Z hZ => by go_simp⟩) (by assumption) ?_
          try simp only [Act.put, List.setIfInBounds_toArray, List.set_cons_zero, List.set_cons_succ]
          obtain ⟨a7, c7, rfl⟩ := row_slice hrow7
          have HF : Hid (LayP W0 W B base v L t (.returned (.int .i64 (N : Nat))) (W7.setCell ⟨B, 0, none⟩ (.slice a7 (N + 1) c7))) := HL.out W7 _ _ hrow7 (by rw [hW6]; exact hg7) (by rw [hW6]; exact hb7)
          obtain ⟨z0, z1⟩ := HX.out W7 S7
          have y0 : W7.cell? ⟨B, 0, none⟩ = some (.slice la N lc) := cell_at z0 rfl
          have y1 : W7.frozen? ⟨B, 0, none⟩ = false := by simp [World.frozen?, z0]
          have y2 : (W7.setCell ⟨B, 0, none⟩ (.slice a7 (N + 1) c7)).cell? ⟨W.heap.size + 1, 3, none⟩ = some (.int .i64 (N : Nat)) := by
            refine cell_at (b := W.heap.size + 1) (o := 3) (l := #[.int .i64 t.v, .string t.fn, .slice va k vc, .int .i64 (N : Nat)]) ((Below.heap_setCell _ _ _ _ ?_).trans z1) rfl
            exact HNE.out.2
          clear hrow7 hg7 hb7 S7 S6 R6 RD b6 n6 hW6 z0 z1 hne h6s hHeld
          refine wpLast_one (i := 10) (o := ⟨_, _, _, _, _, _⟩) (by kernel_rfl) rfl (fun KK hK => ?_)
          rw [if_pos (by rfl)]
          go_simp
          obtain ⟨We, hWe⟩ : ∃ X, W7.setCell ⟨B, 0, none⟩ (.slice a7 (N + 1) c7) = X := ⟨_, rfl⟩
          rw [hWe] at y2 HF ⊢
          refine hK.out _ _ (fun h => absurd h (by omega)) ?_
          clear hK KK hWe
          refine wpLast_done (by kernel_rfl) ?_ _
          try simp only [Act.put]
          go_wp2
          refine bodyPost_ret (v := .int .i64 (N : Nat)) (by simp [results, Try.results49, go_sem]) rfl ?_
          exact HF.out

theorem lay_any (W0 : World) (t : T) : LayAt W0 t := by
  induction t using T.ind with
  | _ t ih =>
    by_cases h0 : t.fn.size = 0
    · exact lay_var W0 t h0
    · exact lay_fn W0 t ih h0

end Go.Proofs.Ytiklbkkimmgbcaa
