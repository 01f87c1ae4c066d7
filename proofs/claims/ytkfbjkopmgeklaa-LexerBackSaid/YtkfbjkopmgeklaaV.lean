/-
  tokens$1: the walk.
-/
import Derived.Test.YtkfbjkopmgeklaaU
namespace Go.Proofs.Ytkfbjkopmgeklaa
open Go.RowKit Go.Shelf

attribute [local go_sem] Oper.semAt_some

set_option maxRecDepth 100000 in
set_option maxHeartbeats 8000000 in
theorem tokens1_any (w0 : World) (Bs : Nat) (s : ByteArray) (W : World) (hb : Below w0.heap.size w0 W) (hbs : W.heap[Bs]? = some (.cells #[.string s] 9 (0, 0))) (hs : s.size ≤ 2097154) :
    IterK 32 #[.pointer (some ⟨Bs, 0, none⟩)] w0 (itms (lexL 0 s.data.toList)) [Bs] W := by
  intro m ly J Jx hJ hY hj
  have HS : Hid (TkI w0 Bs s J (0 + sk (s.data.toList.drop 0)) [Bs] [] W) := TkI.start hj hb hbs
  have HY : Hid (YieldsK ly w0 (itms (lexL 0 s.data.toList)) J Jx) := hY
  have HJ : Hid (Abide J) := hJ
  have hc0 : W.cell? ⟨Bs, 0, none⟩ = some (.string s) := cell_at hbs rfl
  have hk0 := skip_any s 0 W (Nat.zero_le _) hs
  have hk1 : 0 + sk (s.data.toList.drop 0) ≤ s.size := by have := sk_le (s.data.toList.drop 0); rw [List.drop_zero] at this ⊢; rw [size_len] at this; omega
  obtain ⟨K0, hK0⟩ : ∃ K, 0 + sk (s.data.toList.drop 0) = K := ⟨_, rfl⟩
  rw [hK0] at HS hk0 hk1
  have hk0' : Calls Try.prog 33 #[.string s, .int .i64 0] W fun e w' => e = .returned (.int .i64 (K0 : Nat)) ∧ w' = W := hk0
  clear hK0 hY hj hb hJ hbs hk0
  refine callsIn_of_wp Try.func32 rfl trivial ?_ rfl
  simp only [Try.ntmps32, List.size_toArray, List.length_cons, List.length_nil, Nat.reduceAdd, Nat.reduceSub, Array.replicate_succ, Array.replicate_zero, List.push_toArray, List.append_toArray, List.nil_append, List.cons_append]
  gi_wp2_with fail
  refine ⟨trivial, fun h => (by cases h), ?_⟩
  refine (callsIn_wide.2 hk0').mono ?_
  rintro e w' ⟨rfl, rfl⟩
  gi_wp2
  gi_loopw [3] (fun i wr => ∃ (k : Nat), k ≤ s.size ∧ i = .int .i64 k ∧ Hid (∃ E pre, TkI w0 Bs s J k E pre wr)) (fun i _ => s.size - (intOf i).toNat)
  case atStart => exact ⟨K0, hk1, rfl, _, _, HS.out⟩
  case round =>
    obtain ⟨k, hk, rfl, E, pre, hI⟩ := hrel
    have c0 : wr.cell? ⟨Bs, 0, none⟩ = some (.string s) := cell_at hI.bs rfl
    have HI : Hid (TkI w0 Bs s J k E pre wr) := hI
    clear hI HS hk0' hk1 hc0
    by_cases hlt : k < s.size
    · have HD : Hid (s.data.toList.drop k = s[k] :: s.data.toList.drop (k + 1)) := drop_cons s k hlt
      have hnb := HI.out.nb
      have hr := read_any (s.extract k s.size) wr (by rw [extract_drop, ofL_size, List.length_drop, size_len]; omega) (by rw [extract_drop, ofL_size, List.length_drop, size_len]; omega)
      rw [show (s.extract k s.size).data.toList = s.data.toList.drop k by rw [extract_drop]; rfl] at hr
      have hne : s.data.toList.drop k ≠ [] := by rw [HD.out]; simp
      obtain ⟨c, r', hcr, hb1, hb2⟩ : ∃ c r', s.data.toList.drop k = c :: r' ∧ ¬ (c = 32 ∨ c = 9 ∨ c = 13) ∧ c ≠ 37 := by
        rcases hnb with h | h
        · exact absurd h hne
        · exact h
      have hnl : (s.data.toList.drop k).length = s.size - k := by rw [List.length_drop, size_len]
      have HTok : Hid ((rd (s.data.toList.drop k)).e = 0 → itms (lexL k (s.data.toList.drop k)) = (⟨(rd (s.data.toList.drop k)).k, k, (rd (s.data.toList.drop k)).t⟩, 0) :: itms (lexL (k + (rd (s.data.toList.drop k)).n) (s.data.toList.drop (k + (rd (s.data.toList.drop k)).n)))) := fun h0 => by
        have e := @lexL_tok k c r' hb1 hb2 (by rw [← hcr]; exact h0) []
        rw [← hcr, List.drop_drop] at e
        have e2 := congrArg itms e
        rw [itms_add, itms_add] at e2
        simpa using e2
      have HErr : Hid ((rd (s.data.toList.drop k)).e ≠ 0 → itms (lexL k (s.data.toList.drop k)) = [(⟨(rd (s.data.toList.drop k)).k, k, (rd (s.data.toList.drop k)).t⟩, (rd (s.data.toList.drop k)).e)]) := fun h0 => by
        have e := @lexL_err k c r' hb1 hb2 (by rw [← hcr]; exact h0)
        rw [← hcr] at e
        obtain ⟨z1, z2⟩ := rd_bad h0
        rw [e, z1, z2]
        simp [itms, h0]
      have HRn : Hid ((rd (s.data.toList.drop k)).e = 0 → 1 ≤ (rd (s.data.toList.drop k)).n ∧ (rd (s.data.toList.drop k)).n ≤ s.size - k) := fun h0 => by
        have := rd_n h0 hne
        rwa [hnl] at this
      obtain ⟨x, hx⟩ : ∃ x, rd (s.data.toList.drop k) = x := ⟨_, rfl⟩
      rw [hx] at hr HTok HErr HRn
      clear hnb hne hcr hb1 hb2 hnl hx
      obtain ⟨xk, xt, xn, xe⟩ := x
      simp only at hr HTok HErr HRn
      have HFar : Hid (∀ W3, Below wr.heap.size wr W3 → TkI w0 Bs s J k E pre (W3.alloc (.cells #[.int .i64 xk, .int .i64 (k : Nat), .string (ofL xt)] 34))) := fun W3 b3 => HI.out.far HJ.out (b3.trans ((below_box W3 _).mono b3.size))
      by_cases he : xe = 0
      · subst he
        have hT := HTok.out rfl
        obtain ⟨n1, n2⟩ := HRn.out rfl
        have HT : Hid (itms (lexL k (s.data.toList.drop k)) = (⟨xk, k, xt⟩, 0) :: itms (lexL (k + xn) (s.data.toList.drop (k + xn)))) := hT
        have HSk : Hid (∀ W, Calls Try.prog 33 #[.string s, .int .i64 ((k + xn : Nat) : Nat)] W fun e w' => e = .returned (.int .i64 ((k + xn + sk (s.data.toList.drop (k + xn)) : Nat) : Nat)) ∧ w' = W) := fun W => skip_any s (k + xn) W (by omega) hs
        have hK2 : k + xn + sk (s.data.toList.drop (k + xn)) ≤ s.size := by have := sk_le (s.data.toList.drop (k + xn)); rw [List.length_drop, size_len] at this; omega
        have hK3 : k + xn ≤ k + xn + sk (s.data.toList.drop (k + xn)) := Nat.le_add_right _ _
        obtain ⟨K2, eK2⟩ : ∃ K, k + xn + sk (s.data.toList.drop (k + xn)) = K := ⟨_, rfl⟩
        have HK2 : Hid (k + xn + sk (s.data.toList.drop (k + xn)) = K2) := eK2
        rw [eK2] at HSk hK2 hK3
        clear HTok HErr HRn hT eK2
        gi_wp2_with fail
        refine ⟨trivial, fun h => (by cases h), ?_⟩
        refine (callsIn_wide.2 hr).mono ?_
        clear hr
        rintro e W3 ⟨rfl, b3⟩
        have hI4 := HFar.out W3 b3
        obtain ⟨fn, tmps, assign, body, hyr, hR⟩ := HY.out E pre (⟨xk, k, xt⟩, 0) _ hI4.j hI4.bel ⟨_, by rw [← HT.out]; exact hI4.eq⟩ (m - 1)
        have HI4 : Hid (TkI w0 Bs s J k E pre (W3.alloc (.cells #[.int .i64 xk, .int .i64 (k : Nat), .string (ofL xt)] 34))) := hI4
        clear hI4 b3
        gi_wp2_with fail
        refine ⟨fun h => (by cases h), ?_⟩
        refine hR.mono ?_
        clear hR
        rintro e W5 (⟨rfl, hj5, hk5⟩ | ⟨rfl, hx⟩)
        · have hI5 := HI4.out.next (m := k + xn) hj5 hk5 HT.out
          rw [HK2.out] at hI5
          have c5 : W5.cell? ⟨Bs, 0, none⟩ = some (.string s) := cell_at hI5.bs rfl
          have hsk := HSk.out W5
          have HI5 : Hid (TkI w0 Bs s J K2 E (pre ++ [(⟨xk, k, xt⟩, 0)]) W5) := hI5
          clear hI5 hj5 hk5 hyr c0
          gi_wp2_with fail
          refine ⟨trivial, fun h => (by cases h), ?_⟩
          refine (callsIn_wide.2 hsk).mono ?_
          rintro e W6 ⟨rfl, rfl⟩
          gi_wp2
          exact ⟨⟨K2, hK2, rfl, _, _, HI5.out⟩, by simp [intOf]; omega⟩
        · gi_wp2
          refine bodyPost_ret (results_none rfl _ _ _) rfl ?_
          exact ⟨⟨_, rfl⟩, .inr ⟨_, _, hx⟩⟩
      · have hT := HErr.out he
        have HT : Hid (itms (lexL k (s.data.toList.drop k)) = [(⟨xk, k, xt⟩, xe)]) := hT
        have HAll : Hid (pre ++ [(⟨xk, k, xt⟩, xe)] = itms (lexL 0 s.data.toList)) := by show _ = _; rw [← HI.out.eq, HT.out]
        have he' : (xe != 0) = true := by simpa using he
        have he2 : (xe == 0) = false := by simpa using he
        clear HTok HErr HRn hT
        gi_wp2_with fail
        refine ⟨trivial, fun h => (by cases h), ?_⟩
        refine (callsIn_wide.2 hr).mono ?_
        clear hr
        rintro e W3 ⟨rfl, b3⟩
        have hI4 := HFar.out W3 b3
        obtain ⟨fn, tmps, assign, body, hyr, hR⟩ := HY.out E pre (⟨xk, k, xt⟩, xe) _ hI4.j hI4.bel ⟨[], HAll.out⟩ (m - 1)
        clear hI4 b3
        gi_wp2_with fail
        refine ⟨fun h => (by cases h), ?_⟩
        refine hR.mono ?_
        clear hR
        rintro e W5 (⟨rfl, hj5, hk5⟩ | ⟨rfl, hx⟩)
        · have HJ5 : Hid (J E (itms (lexL 0 s.data.toList)) W5) := by rw [← HAll.out]; exact hj5
          clear hj5 hk5 hyr c0
          gi_wp2
          refine bodyPost_ret (results_none rfl _ _ _) rfl ?_
          exact ⟨⟨_, rfl⟩, .inl ⟨_, HJ5.out⟩⟩
        · gi_wp2
          refine bodyPost_ret (results_none rfl _ _ _) rfl ?_
          exact ⟨⟨_, rfl⟩, .inr ⟨_, _, hx⟩⟩
    · have HF : Hid (J E (itms (lexL 0 s.data.toList)) wr) := by
        have e := HI.out.eq
        rw [drop_end s k (by omega), lexL_nil] at e
        have : pre = itms (lexL 0 s.data.toList) := by rw [← e]; simp [itms]
        rw [← this]
        exact HI.out.j
      gi_wp2
      refine bodyPost_end (results_none rfl _ _ _) rfl ?_
      exact ⟨⟨_, rfl⟩, .inl ⟨_, HF.out⟩⟩

end Go.Proofs.Ytkfbjkopmgeklaa
