/-
  The document's quoted.
-/
import Derived.Test.YtkfbjkopmgeklaaN
namespace Go.Proofs.Ytkfbjkopmgeklaa
open Go.RowKit Go.Shelf

theorem conv_one (W : World) (c : UInt8) : (convert 46 9 (.slice (some ⟨W.heap.size, 0, none⟩) 1 1)).run Try.prog (W.alloc (.cells #[.int .u8 (c.toNat : Int)] 5)) = .ok (.string ⟨#[c]⟩) (W.alloc (.cells #[.int .u8 (c.toNat : Int)] 5)) := by
  refine run_convert_bytes_back (P := Try.prog) _ 46 9 5 ⟨W.heap.size, 0, none⟩ 1 [c] Try.underlying46 Try.underlying5 Try.underlying9 (fun j hj => ?_)
  match j, hj with
  | 0, _ =>
    rw [show ((⟨W.heap.size, 0, none⟩ : Addr).add 0) = ⟨W.heap.size, 0, none⟩ from rfl, World.cell?_alloc_new]
    rfl

/-- What quoted answers. -/
def quV (o : Option (List UInt8 × Nat)) : Value := match o with
  | none => .tuple #[.string ⟨#[]⟩, .int .i64 0, .bool false]
  | some p => .tuple #[.string (ofL p.1), .int .i64 (p.2 : Nat), .bool true]
def qo (acc : List UInt8) (k : Nat) (o : Option (List UInt8 × Nat)) : Option (List UInt8 × Nat) := o.map fun p => (acc ++ p.1, k + p.2)
theorem qo_map (acc : List UInt8) (k d : Nat) (c : UInt8) (o : Option (List UInt8 × Nat)) : qo acc k (o.map fun p => (c :: p.1, p.2 + d)) = qo (acc ++ [c]) (k + d) o := by
  cases o with
  | none => rfl
  | some p => simp [qo]; omega

set_option maxHeartbeats 8000000 in
set_option maxRecDepth 100000 in
theorem quoted_any (s : ByteArray) (i : Nat) (w : World) (hi : i < s.size) (hs : s.size ≤ 2097154) : Calls Try.prog 35 #[.string s, .int .i64 (i : Nat)] w fun e w' => e = .returned (quV (qo [] (i + 1) (qs (s.data.toList.drop (i + 1))))) ∧ Below w.heap.size w w' := by
  have HI0 : Hid (i < s.size) := hi
  obtain ⟨R, hR⟩ : ∃ R, qo [] (i + 1) (qs (s.data.toList.drop (i + 1))) = R := ⟨_, rfl⟩
  have HR : Hid (qo [] (i + 1) (qs (s.data.toList.drop (i + 1))) = R) := hR
  rw [hR]
  clear hR
  go_enter Try.func35, Try.ntmps35
  go_wp2
  clear hi
  go_loopw [7, 8] (fun vu vi wr => ∃ (u : ByteArray) (k : Nat), vu = .string u ∧ vi = .int .i64 k ∧ k ≤ s.size ∧ u.size ≤ k ∧ Hid (qo u.data.toList k (qs (s.data.toList.drop k)) = R) ∧ Hid (Below w.heap.size w wr)) (fun _ vi _ => s.size - (intOf vi).toNat)
  case atStart => exact ⟨⟨#[]⟩, i + 1, rfl, by go_num, HI0.out, Nat.zero_le _, HR.out, Below.refl _ _⟩
  case round =>
    obtain ⟨u, k, rfl, rfl, hk, hu, HI, HB⟩ := hrel
    clear HR HI0
    have HAp : Hid (∀ c : UInt8, (u ++ (⟨#[c]⟩ : ByteArray)).data.toList = u.data.toList ++ [c]) := fun c => app_one u c
    have HAs : Hid (∀ c : UInt8, (u ++ (⟨#[c]⟩ : ByteArray)).size = u.size + 1) := fun c => by rw [← size_len, app_one]; simp []
    by_cases hlt : k < s.size
    · have HD : Hid (s.data.toList.drop k = s[k] :: s.data.toList.drop (k + 1)) := drop_cons s k hlt
      by_cases h1 : s[k] = 39
      · have g1 : ((s[k].toNat : Int) == 39) = true := u8_eq (k := 39) rfl h1
        have HF : Hid (R = some (u.data.toList, k + 1)) := by show _ = _; rw [← HI.out, HD.out, h1, qs_end]; simp [qo]
        clear h1
        go_wp2
        refine bodyPost_ret (v := .tuple #[.string u, .int .i64 ((k : Int) + 1), .bool true]) (by simp [results, Try.results35, go_sem]) rfl ⟨?_, HB.out⟩
        rw [HF.out]; simp [quV, ofL_self]
      · have g1 : ((s[k].toNat : Int) == 39) = false := u8_ne (k := 39) rfl h1
        by_cases h3 : s[k] = 92
        · have g3 : ((s[k].toNat : Int) == 92) = true := u8_eq (k := 92) rfl h3
          by_cases hl2 : k + 1 < s.size
          · have HD2 : Hid (s.data.toList.drop (k + 1) = s[k + 1] :: s.data.toList.drop (k + 1 + 1)) := drop_cons s (k + 1) hl2
            have hE : ¬ ((s.size : Int) ≤ (k : Int) + 1) := by omega
            cases h4 : esB s[k + 1].toNat
            · have HF : Hid (R = none) := by show _ = _; rw [← HI.out, HD.out, h3, HD2.out, qs_esc_no _ h4]; rfl
              have e1 : ¬ (s[k + 1].toNat : Int) = 39 := by unfold esB at h4; simp at h4; simpa using h4.1
              have e2 : ¬ (s[k + 1].toNat : Int) = 92 := by unfold esB at h4; simp at h4; simpa using h4.2
              have n1 : ((s[k + 1].toNat : Int) != 39) = true := by simpa using e1
              have n2 : ((s[k + 1].toNat : Int) != 92) = true := by simpa using e2
              clear e1 e2
              clear h1 h3 h4
              go_wp2
              refine bodyPost_ret (v := .tuple #[.string ⟨#[]⟩, .int .i64 0, .bool false]) (by simp [results, Try.results35, go_sem]) rfl ⟨?_, HB.out⟩
              rw [HF.out]; rfl
            · have HF : Hid (qo (u.data.toList ++ [s[k + 1]]) (k + 2) (qs (s.data.toList.drop (k + 2))) = R) := by show _ = _; rw [← HI.out, HD.out, h3, HD2.out, qs_esc _ h4, qo_map]
              by_cases e1 : s[k + 1] = 39
              · have e1' : (s[k + 1].toNat : Int) = 39 := by rw [e1]; rfl
                have hcv : (convert 46 9 (.slice (some ⟨wr.heap.size, 0, none⟩) 1 1)).run Try.prog (wr.alloc (.cells #[.int .u8 39] 5)) = .ok (.string ⟨#[39]⟩) (wr.alloc (.cells #[.int .u8 39] 5)) := conv_one wr 39
                rw [e1] at HF
                clear h1 h3 h4 e1
                go_wp2
                go_roundw
                case rel => exact ⟨_, k + 2, rfl, by go_num, by omega, by rw [HAs.out]; omega, by show _ = _; rw [HAp.out]; exact HF.out, HB.out.alloc HB.out.size _⟩
                case measure => simp [intOf]; omega
              · have e2 : s[k + 1] = 92 := by
                  unfold esB at h4
                  have q : ((s[k + 1].toNat : Int) == 39) = false := u8_ne (k := 39) rfl e1
                  rw [q, Bool.false_or] at h4
                  exact UInt8.toNat_inj.1 (by have := eq_of_beq h4; show s[k + 1].toNat = 92; omega)
                have e2' : (s[k + 1].toNat : Int) = 92 := by rw [e2]; rfl
                have hcv : (convert 46 9 (.slice (some ⟨wr.heap.size, 0, none⟩) 1 1)).run Try.prog (wr.alloc (.cells #[.int .u8 92] 5)) = .ok (.string ⟨#[92]⟩) (wr.alloc (.cells #[.int .u8 92] 5)) := conv_one wr 92
                rw [e2] at HF
                clear h1 h3 h4 e1 e2
                go_wp2
                go_roundw
                case rel => exact ⟨_, k + 2, rfl, by go_num, by omega, by rw [HAs.out]; omega, by show _ = _; rw [HAp.out]; exact HF.out, HB.out.alloc HB.out.size _⟩
                case measure => simp [intOf]; omega
          · have hE : ((s.size : Int) ≤ (k : Int) + 1) := by omega
            have HF : Hid (R = none) := by show _ = _; rw [← HI.out, HD.out, h3, drop_end s (k + 1) (by omega), qs_esc_nil]; rfl
            clear h1 h3
            go_wp2
            refine bodyPost_ret (v := .tuple #[.string ⟨#[]⟩, .int .i64 0, .bool false]) (by simp [results, Try.results35, go_sem]) rfl ⟨?_, HB.out⟩
            rw [HF.out]; rfl
        · have g3 : ((s[k].toNat : Int) == 92) = false := u8_ne (k := 92) rfl h3
          cases h2 : prB s[k].toNat
          · have HF : Hid (R = none) := by show _ = _; rw [← HI.out, HD.out, qs_bad _ h1 h2]; rfl
            by_cases p1 : (s[k].toNat : Int) < 32
            · clear h1 h3 h2
              go_wp2
              refine bodyPost_ret (v := .tuple #[.string ⟨#[]⟩, .int .i64 0, .bool false]) (by simp [results, Try.results35, go_sem]) rfl ⟨?_, HB.out⟩
              rw [HF.out]; rfl
            · have p2 : 126 < (s[k].toNat : Int) := by unfold prB at h2; simp at h2; omega
              clear h1 h3 h2
              go_wp2
              refine bodyPost_ret (v := .tuple #[.string ⟨#[]⟩, .int .i64 0, .bool false]) (by simp [results, Try.results35, go_sem]) rfl ⟨?_, HB.out⟩
              rw [HF.out]; rfl
          · have HF : Hid (qo (u.data.toList ++ [s[k]]) (k + 1) (qs (s.data.toList.drop (k + 1))) = R) := by show _ = _; rw [← HI.out, HD.out, qs_one _ h1 h2 h3, qo_map]
            have p1 : ¬ ((s[k].toNat : Int) < 32) := by unfold prB at h2; simp at h2; omega
            have p2 : ¬ (126 < (s[k].toNat : Int)) := by unfold prB at h2; simp at h2; omega
            have hcv := conv_one wr s[k]
            clear h1 h3 h2
            go_wp2
            go_roundw
            case rel => exact ⟨_, k + 1, rfl, by go_num, by omega, by rw [HAs.out]; omega, by show _ = _; rw [HAp.out]; exact HF.out, HB.out.alloc HB.out.size _⟩
            case measure => simp [intOf]; omega
    · have HF : Hid (R = none) := by show _ = _; rw [← HI.out, drop_end s k (by omega), qs_nil]; rfl
      go_wp2
      refine bodyPost_ret (v := .tuple #[.string ⟨#[]⟩, .int .i64 0, .bool false]) (by simp [results, Try.results35, go_sem]) rfl ⟨?_, HB.out⟩
      rw [HF.out]; rfl

end Go.Proofs.Ytkfbjkopmgeklaa
