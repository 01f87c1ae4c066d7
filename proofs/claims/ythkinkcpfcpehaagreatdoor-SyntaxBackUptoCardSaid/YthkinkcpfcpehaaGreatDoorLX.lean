import Derived.Test.YthkinkcpfcpehaaGreatDoorLU
import Derived.RangeFuncBox
namespace Go.Proofs.YthkinkcpfcpehaaGreatDoor.Lx
set_option maxRecDepth 100000
set_option maxHeartbeats 8000000
section
open Go.RowKit Go.Shelf
attribute [local go_sem] Oper.semAt_some
set_option maxRecDepth 100000 in
theorem tokens1_any (w0 : World) (Bs : Nat) (s : ByteArray) (W : World) (hb : Below w0.heap.size w0 W) (hbs : W.heap[Bs]? = some (.cells #[.string s] 9 (0, 0))) (hs : s.size ≤ 2097154) :
    IterK 127 #[.pointer (some ⟨Bs, 0, none⟩)] w0 (itms (lexL 0 s.data.toList)) [Bs] W := by
  intro m ly J Jx hJ hY hj
  have HS : Hid (TkI w0 Bs s J (0 + sk (s.data.toList.drop 0)) [Bs] [] W) := TkI.start hj hb hbs
  have HY : Hid (YieldsK ly w0 (itms (lexL 0 s.data.toList)) J Jx) := hY
  have HJ : Hid (Abide J) := hJ
  have hc0 : W.cell? ⟨Bs, 0, none⟩ = some (.string s) := cell_at hbs rfl
  have hk0 := skip_any s 0 W (Nat.zero_le _) hs
  have hk1 : 0 + sk (s.data.toList.drop 0) ≤ s.size := by have := sk_le (s.data.toList.drop 0); rw [List.drop_zero] at this ⊢; rw [size_len] at this; omega
  obtain ⟨K0, hK0⟩ : ∃ K, 0 + sk (s.data.toList.drop 0) = K := ⟨_, rfl⟩
  rw [hK0] at HS hk0 hk1
  have hk0' : Calls Tryz.prog 128 #[.string s, .int .i64 0] W fun e w' => e = .returned (.int .i64 (K0 : Nat)) ∧ w' = W := hk0
  clear hK0 hY hj hb hJ hbs hk0
  refine callsIn_of_wp Tryz.func127 rfl trivial ?_ rfl
  simp only [Tryz.ntmps127, List.size_toArray, List.length_cons, List.length_nil, Nat.reduceAdd, Nat.reduceSub, Array.replicate_succ, Array.replicate_zero, List.push_toArray, List.append_toArray, List.nil_append, List.cons_append]
  gi_wp2_with fail
  refine ⟨trivial, fun h => (by cases h), ?_⟩
  refine (callsIn_wide.2 hk0').mono ?_
  rintro e w' ⟨rfl, rfl⟩
  gi_wp2
  gi_loopw [3] (fun i wr => ∃ (k : Nat), k ≤ s.size ∧ i = .int .i64 k ∧ Hid (∃ E pre, TkI w0 Bs s J k E pre wr)) (fun i _ => s.size - (intOf i).toNat)
  case atStart => exact ⟨K0, hk1, rfl, _, _, HS.out⟩
  case round =>
    obtain ⟨k, hk, rfl, E, pre, hI⟩ := hrel
    have c0 : wr.cell? ⟨Bs, 0, none⟩ = some (.string s) := cell_at hI.bs rfl
    have HI : Hid (TkI w0 Bs s J k E pre wr) := hI
    clear hI HS hk0' hk1 hc0
    by_cases hlt : k < s.size
    · have HD : Hid (s.data.toList.drop k = s[k] :: s.data.toList.drop (k + 1)) := drop_cons s k hlt
      have hnb := HI.out.nb
      have hr := read_any (s.extract k s.size) wr (by rw [extract_drop, ofL_size, List.length_drop, size_len]; omega) (by rw [extract_drop, ofL_size, List.length_drop, size_len]; omega)
      rw [show (s.extract k s.size).data.toList = s.data.toList.drop k by rw [extract_drop]; rfl] at hr
      have hne : s.data.toList.drop k ≠ [] := by rw [HD.out]; simp
      obtain ⟨c, r', hcr, hb1, hb2⟩ : ∃ c r', s.data.toList.drop k = c :: r' ∧ ¬ (c = 32 ∨ c = 9 ∨ c = 13) ∧ c ≠ 37 := by
        rcases hnb with h | h
        · exact absurd h hne
        · exact h
      have hnl : (s.data.toList.drop k).length = s.size - k := by rw [List.length_drop, size_len]
      have HTok : Hid ((rd (s.data.toList.drop k)).e = 0 → itms (lexL k (s.data.toList.drop k)) = (⟨(rd (s.data.toList.drop k)).k, k, (rd (s.data.toList.drop k)).t⟩, 0) :: itms (lexL (k + (rd (s.data.toList.drop k)).n) (s.data.toList.drop (k + (rd (s.data.toList.drop k)).n)))) := fun h0 => by
        have e := @lexL_tok k c r' hb1 hb2 (by rw [← hcr]; exact h0) []
        rw [← hcr, List.drop_drop] at e
        have e2 := congrArg itms e
        rw [itms_add, itms_add] at e2
        simpa using e2
      have HErr : Hid ((rd (s.data.toList.drop k)).e ≠ 0 → itms (lexL k (s.data.toList.drop k)) = [(⟨(rd (s.data.toList.drop k)).k, k, (rd (s.data.toList.drop k)).t⟩, (rd (s.data.toList.drop k)).e)]) := fun h0 => by
        have e := @lexL_err k c r' hb1 hb2 (by rw [← hcr]; exact h0)
        rw [← hcr] at e
        obtain ⟨z1, z2⟩ := rd_bad h0
        rw [e, z1, z2]
        simp [itms, h0]
      have HRn : Hid ((rd (s.data.toList.drop k)).e = 0 → 1 ≤ (rd (s.data.toList.drop k)).n ∧ (rd (s.data.toList.drop k)).n ≤ s.size - k) := fun h0 => by
        have := rd_n h0 hne
        rwa [hnl] at this
      obtain ⟨x, hx⟩ : ∃ x, rd (s.data.toList.drop k) = x := ⟨_, rfl⟩
      rw [hx] at hr HTok HErr HRn
      clear hnb hne hcr hb1 hb2 hnl hx
      obtain ⟨xk, xt, xn, xe⟩ := x
      simp only at hr HTok HErr HRn
      have HFar : Hid (∀ W3, Below wr.heap.size wr W3 → TkI w0 Bs s J k E pre (W3.alloc (.cells #[.int .i64 xk, .int .i64 (k : Nat), .string (ofL xt)] 57))) := fun W3 b3 => HI.out.far HJ.out (b3.trans ((below_box W3 _).mono b3.size))
      by_cases he : xe = 0
      · subst he
        have hT := HTok.out rfl
        obtain ⟨n1, n2⟩ := HRn.out rfl
        have HT : Hid (itms (lexL k (s.data.toList.drop k)) = (⟨xk, k, xt⟩, 0) :: itms (lexL (k + xn) (s.data.toList.drop (k + xn)))) := hT
        have HSk : Hid (∀ W, Calls Tryz.prog 128 #[.string s, .int .i64 ((k + xn : Nat) : Nat)] W fun e w' => e = .returned (.int .i64 ((k + xn + sk (s.data.toList.drop (k + xn)) : Nat) : Nat)) ∧ w' = W) := fun W => skip_any s (k + xn) W (by omega) hs
        have hK2 : k + xn + sk (s.data.toList.drop (k + xn)) ≤ s.size := by have := sk_le (s.data.toList.drop (k + xn)); rw [List.length_drop, size_len] at this; omega
        have hK3 : k + xn ≤ k + xn + sk (s.data.toList.drop (k + xn)) := Nat.le_add_right _ _
        obtain ⟨K2, eK2⟩ : ∃ K, k + xn + sk (s.data.toList.drop (k + xn)) = K := ⟨_, rfl⟩
        have HK2 : Hid (k + xn + sk (s.data.toList.drop (k + xn)) = K2) := eK2
        rw [eK2] at HSk hK2 hK3
        clear HTok HErr HRn hT eK2
        gi_wp2_with fail
        refine ⟨trivial, fun h => (by cases h), ?_⟩
        refine (callsIn_wide.2 hr).mono ?_
        clear hr
        rintro e W3 ⟨rfl, b3⟩
        have hI4 := HFar.out W3 b3
        obtain ⟨fn, tmps, assign, body, hyr, hR⟩ := HY.out E pre (⟨xk, k, xt⟩, 0) _ hI4.j hI4.bel ⟨_, by rw [← HT.out]; exact hI4.eq⟩ (m - 1)
        have HI4 : Hid (TkI w0 Bs s J k E pre (W3.alloc (.cells #[.int .i64 xk, .int .i64 (k : Nat), .string (ofL xt)] 57))) := hI4
        clear hI4 b3
        gi_wp2_with fail
        refine ⟨fun h => (by cases h), ?_⟩
        refine hR.mono ?_
        clear hR
        rintro e W5 (⟨rfl, hj5, hk5⟩ | ⟨rfl, hx⟩)
        · have hI5 := HI4.out.next (m := k + xn) hj5 hk5 HT.out
          rw [HK2.out] at hI5
          have c5 : W5.cell? ⟨Bs, 0, none⟩ = some (.string s) := cell_at hI5.bs rfl
          have hsk := HSk.out W5
          have HI5 : Hid (TkI w0 Bs s J K2 E (pre ++ [(⟨xk, k, xt⟩, 0)]) W5) := hI5
          clear hI5 hj5 hk5 hyr c0
          gi_wp2_with fail
          refine ⟨trivial, fun h => (by cases h), ?_⟩
          refine (callsIn_wide.2 hsk).mono ?_
          rintro e W6 ⟨rfl, rfl⟩
          gi_wp2
          exact ⟨⟨K2, hK2, rfl, _, _, HI5.out⟩, by simp [intOf]; omega⟩
        · gi_wp2
          refine bodyPost_ret (results_none rfl _ _ _) rfl ?_
          exact ⟨⟨_, rfl⟩, .inr ⟨_, _, hx⟩⟩
      · have hT := HErr.out he
        have HT : Hid (itms (lexL k (s.data.toList.drop k)) = [(⟨xk, k, xt⟩, xe)]) := hT
        have HAll : Hid (pre ++ [(⟨xk, k, xt⟩, xe)] = itms (lexL 0 s.data.toList)) := by show _ = _; rw [← HI.out.eq, HT.out]
        have he' : (xe != 0) = true := by simpa using he
        have he2 : (xe == 0) = false := by simpa using he
        clear HTok HErr HRn hT
        gi_wp2_with fail
        refine ⟨trivial, fun h => (by cases h), ?_⟩
        refine (callsIn_wide.2 hr).mono ?_
        clear hr
        rintro e W3 ⟨rfl, b3⟩
        have hI4 := HFar.out W3 b3
        obtain ⟨fn, tmps, assign, body, hyr, hR⟩ := HY.out E pre (⟨xk, k, xt⟩, xe) _ hI4.j hI4.bel ⟨[], HAll.out⟩ (m - 1)
        clear hI4 b3
        gi_wp2_with fail
        refine ⟨fun h => (by cases h), ?_⟩
        refine hR.mono ?_
        clear hR
        rintro e W5 (⟨rfl, hj5, hk5⟩ | ⟨rfl, hx⟩)
        · have HJ5 : Hid (J E (itms (lexL 0 s.data.toList)) W5) := by rw [← HAll.out]; exact hj5
          clear hj5 hk5 hyr c0
          gi_wp2
          refine bodyPost_ret (results_none rfl _ _ _) rfl ?_
          exact ⟨⟨_, rfl⟩, .inl ⟨_, HJ5.out⟩⟩
        · gi_wp2
          refine bodyPost_ret (results_none rfl _ _ _) rfl ?_
          exact ⟨⟨_, rfl⟩, .inr ⟨_, _, hx⟩⟩
    · have HF : Hid (J E (itms (lexL 0 s.data.toList)) wr) := by
        have e := HI.out.eq
        rw [drop_end s k (by omega), lexL_nil] at e
        have : pre = itms (lexL 0 s.data.toList) := by rw [← e]; simp [itms]
        rw [← this]
        exact HI.out.j
      gi_wp2
      refine bodyPost_end (results_none rfl _ _ _) rfl ?_
      exact ⟨⟨_, rfl⟩, .inl ⟨_, HF.out⟩⟩
end
section
open Go.RowKit Go.Shelf
attribute [local go_sem] Oper.semAt_some
/-- While Lex goes on: its boxes, what it has collected, blocks of the iterator's. -/
structure LI (w : World) (r0 r1 r2 : Value) (E : List Nat) (v : Value) (cs : List Tk) (W : World) : Prop where
  b0 : Boxed W w.heap.size 47 r0
  b1 : Boxed W (w.heap.size + 1) 3 r1
  b2 : Boxed W (w.heap.size + 2) 28 r2
  b3 : Boxed W (w.heap.size + 3) 47 v
  row : W.ownsRow (w.heap.size + 5) 57 3 v cs.length (flK cs)
  low : ∀ r ∈ E, w.heap.size + 4 ≤ r ∧ r < W.heap.size
  mine : ∀ g, v.ownBlock = some g → g ∉ E
  bel : Below w.heap.size w W
  size : w.heap.size + 5 ≤ W.heap.size
section
variable {w : World} {r0 r1 r2 : Value} {E : List Nat} {v : Value} {cs : List Tk} {W W' : World}
theorem boxed_block {W W' : World} {B : Nat} {ty : TypeId} {v : Value} (h : Boxed W B ty v) (e : W'.heap[B]? = W.heap[B]?) : Boxed W' B ty v := e.trans h
theorem LI.kept (h : LI w r0 r1 r2 E v cs W) {E' : List Nat} {row : Option Nat} (hg : W.grownBy W' row) (hr : ∀ r, row = some r → r ∈ E) (hE : ∀ r ∈ E', r ∈ E ∨ (W.heap.size ≤ r ∧ r < W'.heap.size)) : LI w r0 r1 r2 E' v cs W' := by
  have hs := h.size
  have hgs := hg.size
  have blk : ∀ k, k < w.heap.size + 4 → W'.heap[k]? = W.heap[k]? := fun k hk => hg.block k (by omega) (fun e => by have := (h.low k (hr k e.symm)).1; omega)
  refine ⟨boxed_block h.b0 (blk _ (by omega)), boxed_block h.b1 (blk _ (by omega)), boxed_block h.b2 (blk _ (by omega)), boxed_block h.b3 (blk _ (by omega)), row_keep h.row (fun g hgv => ?_), fun r hr' => ?_, fun g hgv hge => ?_, h.bel.trans ⟨hg.os, hg.tape, hg.output, hg.size, fun k hk => blk k (by omega)⟩, by omega⟩
  · obtain ⟨_, cq, hcq⟩ := row_block h.row hgv
    exact hg.block g (Array.getElem?_eq_some_iff.1 hcq).1 (fun e => h.mine g hgv (hr g e.symm))
  · rcases hE r hr' with h' | h'
    · exact ⟨(h.low r h').1, Nat.lt_of_lt_of_le (h.low r h').2 hg.size⟩
    · exact ⟨by omega, h'.2⟩
  · obtain ⟨_, cq, hcq⟩ := row_block h.row hgv
    have hlt := (Array.getElem?_eq_some_iff.1 hcq).1
    rcases hE g hge with h' | h'
    · exact h.mine g hgv h'
    · omega
theorem LI.grow (h : LI w r0 r1 r2 E v cs W) (hb : Below W.heap.size W W') : Kept w.heap.size E W W' ∧ LI w r0 r1 r2 E v cs W' :=
  ⟨⟨hb.mono h.bel.size, fun r hr => hb.block r (h.low r hr).2⟩, h.kept (row := none) ⟨hb.os, hb.tape, hb.output, hb.size, fun k hk _ => hb.block k hk⟩ (fun _ e => by cases e) (fun _ hr => .inl hr)⟩
/-- A store into a box. -/
theorem LI.frame (h : LI w r0 r1 r2 E v cs W) {B : Nat} (hB : w.heap.size ≤ B ∧ B < w.heap.size + 4) (x : Value) : Kept w.heap.size E W (W.setCell ⟨B, 0, none⟩ x) ∧ (∀ k, k ≠ B → (W.setCell ⟨B, 0, none⟩ x).heap[k]? = W.heap[k]?) ∧ Below w.heap.size w (W.setCell ⟨B, 0, none⟩ x) := by
  have ho : ∀ k, k ≠ B → (W.setCell ⟨B, 0, none⟩ x).heap[k]? = W.heap[k]? := fun k hk => Below.heap_setCell _ _ _ k hk
  refine ⟨⟨(Below.refl _ _).setCell (p := ⟨B, 0, none⟩) hB.1 _, fun r hr => ho r (by have := (h.low r hr).1; omega)⟩, ho, h.bel.setCell (p := ⟨B, 0, none⟩) hB.1 _⟩
theorem LI.set0 (h : LI w r0 r1 r2 E v cs W) (x : Value) : Kept w.heap.size E W (W.setCell ⟨w.heap.size, 0, none⟩ x) ∧ LI w x r1 r2 E v cs (W.setCell ⟨w.heap.size, 0, none⟩ x) := by
  obtain ⟨k, ho, hb⟩ := h.frame (B := w.heap.size) (by omega) x
  refine ⟨k, h.b0.set x, boxed_block h.b1 (ho _ (by omega)), boxed_block h.b2 (ho _ (by omega)), boxed_block h.b3 (ho _ (by omega)), row_keep h.row (fun g hg => ho g (by have := (row_block h.row hg).1; omega)), fun r hr => ?_, h.mine, hb, by simpa using h.size⟩
  simpa using h.low r hr
theorem LI.set1 (h : LI w r0 r1 r2 E v cs W) (x : Value) : Kept w.heap.size E W (W.setCell ⟨w.heap.size + 1, 0, none⟩ x) ∧ LI w r0 x r2 E v cs (W.setCell ⟨w.heap.size + 1, 0, none⟩ x) := by
  obtain ⟨k, ho, hb⟩ := h.frame (B := w.heap.size + 1) (by omega) x
  refine ⟨k, boxed_block h.b0 (ho _ (by omega)), h.b1.set x, boxed_block h.b2 (ho _ (by omega)), boxed_block h.b3 (ho _ (by omega)), row_keep h.row (fun g hg => ho g (by have := (row_block h.row hg).1; omega)), fun r hr => ?_, h.mine, hb, by simpa using h.size⟩
  simpa using h.low r hr
theorem LI.set2 (h : LI w r0 r1 r2 E v cs W) (x : Value) : Kept w.heap.size E W (W.setCell ⟨w.heap.size + 2, 0, none⟩ x) ∧ LI w r0 r1 x E v cs (W.setCell ⟨w.heap.size + 2, 0, none⟩ x) := by
  obtain ⟨k, ho, hb⟩ := h.frame (B := w.heap.size + 2) (by omega) x
  refine ⟨k, boxed_block h.b0 (ho _ (by omega)), boxed_block h.b1 (ho _ (by omega)), h.b2.set x, boxed_block h.b3 (ho _ (by omega)), row_keep h.row (fun g hg => ho g (by have := (row_block h.row hg).1; omega)), fun r hr => ?_, h.mine, hb, by simpa using h.size⟩
  simpa using h.low r hr
/-- Behind an append and the store of what it gave. -/
theorem LI.push (h : LI w r0 r1 r2 E v cs W) (x : Tk) (v' : Value) (w1 : World) (hown : w1.ownsRow (w.heap.size + 5) 57 3 v' (cs.length + 1) (flK cs ++ [.int .i64 x.k, .int .i64 (x.a : Nat), .string (ofL x.t)])) (hg : W.grownBy w1 v.ownBlock) (hat : v'.ownBlock = v.ownBlock ∨ v'.ownBlock = some W.heap.size) :
    (w1.cell? ⟨w.heap.size + 3, 0, none⟩ = some v ∧ w1.frozen? ⟨w.heap.size + 3, 0, none⟩ = false) ∧ Kept w.heap.size E W (w1.setCell ⟨w.heap.size + 3, 0, none⟩ v') ∧ LI w r0 r1 r2 E v' (cs ++ [x]) (w1.setCell ⟨w.heap.size + 3, 0, none⟩ v') := by
  have hs := h.size
  have hgs := hg.size
  have vge : ∀ g, v.ownBlock = some g → w.heap.size + 5 ≤ g ∧ g < W.heap.size := fun g hgv => by
    obtain ⟨h1, cq, hcq⟩ := row_block h.row hgv
    exact ⟨h1, (Array.getElem?_eq_some_iff.1 hcq).1⟩
  have blk : ∀ k, k < W.heap.size → v.ownBlock ≠ some k → w1.heap[k]? = W.heap[k]? := fun k hk hne => hg.block k hk (fun e => hne e.symm)
  have low4 : ∀ k, k < w.heap.size + 5 → w1.heap[k]? = W.heap[k]? := fun k hk => blk k (by omega) (fun e => by have := (vge k e).1; omega)
  have p3 : Boxed w1 (w.heap.size + 3) 47 v := boxed_block h.b3 (low4 _ (by omega))
  have ho : ∀ k, k ≠ w.heap.size + 3 → (w1.setCell ⟨w.heap.size + 3, 0, none⟩ v').heap[k]? = w1.heap[k]? := fun k hk => Below.heap_setCell _ _ _ k hk
  have b1 : Below w.heap.size W w1 := ⟨hg.os, hg.tape, hg.output, hg.size, fun k hk => low4 k (by omega)⟩
  have b2 : Below w.heap.size w1 (w1.setCell ⟨w.heap.size + 3, 0, none⟩ v') := (Below.refl _ _).setCell (p := ⟨w.heap.size + 3, 0, none⟩) (by show w.heap.size ≤ w.heap.size + 3; omega) _
  refine ⟨⟨p3.cell, p3.frozen⟩, ⟨b1.trans b2, fun r hr => ?_⟩, boxed_block h.b0 ((ho _ (by omega)).trans (low4 _ (by omega))), boxed_block h.b1 ((ho _ (by omega)).trans (low4 _ (by omega))), boxed_block h.b2 ((ho _ (by omega)).trans (low4 _ (by omega))), p3.set v', ?_, fun r hr => ⟨(h.low r hr).1, ?_⟩, fun g hgv hge => ?_, h.bel.trans (b1.trans b2), ?_⟩
  · obtain ⟨l1, l2⟩ := h.low r hr
    exact (ho r (by omega)).trans (blk r l2 (fun e => h.mine r e hr))
  · rw [flK_snoc, List.length_append]
    exact row_keep hown (fun g hgv => ho g (by have := (row_block hown hgv).1; omega))
  · have := (h.low r hr).2
    simp
    omega
  · rcases hat with h1 | h1
    · exact h.mine g (h1 ▸ hgv) hge
    · rw [h1] at hgv
      cases hgv
      have := (h.low _ hge).2
      omega
  · simp
    omega
end
/-- Between two rounds. -/
def LGo (w : World) (E : List Nat) (pre : List It) (W : World) : Prop := ∃ v cs, LI w (.slice none 0 0) (.int .i64 0) (.int .i64 0) E v cs W ∧ pre = cs.map fun t => (t, 0)
/-- An error has come. -/
def LEnd (w : World) (q : List Tk × Nat × Int) (E : List Nat) (_ : List It) (W : World) : Prop := ∃ v cs, LI w (.slice none 0 0) (.int .i64 (q.2.1 : Nat)) (.int .i64 q.2.2) E v cs W ∧ q.2.2 ≠ 0
theorem lgo_abide (w : World) : Abide (LGo w) := by
  rintro E E' s W W' row ⟨v, cs, h, hp⟩ hg hr hE
  exact ⟨v, cs, h.kept hg hr hE, hp⟩
theorem lend_abide (w : World) (q : List Tk × Nat × Int) : Abide (LEnd w q) := by
  rintro E E' s W W' row ⟨v, cs, h, hp⟩ hg hr hE
  exact ⟨v, cs, h.kept hg hr hE, hp⟩
theorem itms_ok {q : List Tk × Nat × Int} {cs : List Tk} (h : itms q = cs.map fun t => (t, 0)) (h0 : q.2.2 = 0 → q.2.1 = 0) : q = (cs, 0, 0) := by
  obtain ⟨ts, p, e⟩ := q
  unfold itms at h
  simp only at h h0
  by_cases he : e = 0
  · subst he
    have hp := h0 rfl
    subst hp
    rw [if_pos rfl, List.append_nil] at h
    have : ts = cs := by
      have h2 := congrArg (List.map Prod.fst) h
      simpa [Function.comp_def] using h2
    rw [this]
  · rw [if_neg he] at h
    exfalso
    have h3 : ((⟨0, p, []⟩ : Tk), e) ∈ cs.map fun t => (t, (0 : Int)) := by rw [← h]; simp
    obtain ⟨t, _, ht⟩ := List.mem_map.1 h3
    exact he (congrArg Prod.snd ht).symm
theorem itms_err {q : List Tk × Nat × Int} {cs : List Tk} {t : Tk} {e : Int} {rest : List It} (h : itms q = (cs.map fun t => (t, 0)) ++ (t, e) :: rest) (he : e ≠ 0) : q.2.2 = e ∧ q.2.1 = t.a := by
  obtain ⟨ts, p, x⟩ := q
  unfold itms at h
  simp only at h ⊢
  by_cases hx : x = 0
  · rw [if_pos hx, List.append_nil] at h
    exfalso
    have h3 : (t, e) ∈ ts.map fun t => (t, (0 : Int)) := by rw [h]; simp
    obtain ⟨t', _, ht⟩ := List.mem_map.1 h3
    exact he (congrArg Prod.snd ht).symm
  · rw [if_neg hx] at h
    have h3 : (t, e) ∈ (ts.map fun t => (t, (0 : Int))) ++ [((⟨0, p, []⟩ : Tk), x)] := by rw [h]; simp
    rcases List.mem_append.1 h3 with h4 | h4
    · obtain ⟨t', _, ht⟩ := List.mem_map.1 h4
      exact absurd (congrArg Prod.snd ht).symm he
    · have h5 := List.mem_singleton.1 h4
      have h6 := congrArg Prod.fst h5
      have h7 := congrArg Prod.snd h5
      simp only at h6 h7
      exact ⟨h7.symm, by rw [h6]⟩
theorem lexL_place : ∀ (m : Nat) (l : List UInt8) (a : Nat), l.length ≤ m → (lexL a l).2.2 = 0 → (lexL a l).2.1 = 0 := by
  intro m
  induction m with
  | zero =>
    intro l a hl _
    have : l = [] := List.length_eq_zero_iff.1 (by omega)
    subst this
    rw [lexL_nil]
  | succ m ih =>
    intro l a hl h
    cases l with
    | nil => rw [lexL_nil]
    | cons c r =>
      by_cases hb : c = 32 ∨ c = 9 ∨ c = 13
      · rw [lexL_blank hb] at h ⊢
        exact ih r _ (by simp at hl; omega) h
      · by_cases h2 : c = 37
        · subst h2; rw [lexL_rem]
        · by_cases h3 : (rd (c :: r)).e = 0
          · have e := lexL_tok hb h2 h3 [] (a := a)
            have e1 : (lexL a (c :: r)).2 = (lexL (a + (rd (c :: r)).n) ((c :: r).drop (rd (c :: r)).n)).2 := congrArg (fun z => z.2) e
            obtain ⟨n1, _⟩ := rd_n h3 (by simp)
            rw [e1] at h ⊢
            exact ih _ _ (by rw [List.length_drop]; simp at hl ⊢; omega) h
          · rw [lexL_err hb h2 h3] at h
            exact absurd h h3
end
