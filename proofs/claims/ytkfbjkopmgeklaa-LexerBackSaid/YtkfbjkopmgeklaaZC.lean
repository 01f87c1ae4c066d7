/-
  LexerBack: a name that is shown is read as it, alone.
-/
import Derived.Test.YtkfbjkopmgeklaaZB
namespace Go.Proofs.Ytkfbjkopmgeklaa
open Go.RowKit Go.Shelf

theorem qs_esc_app : ∀ (n rest : List UInt8), (∀ c ∈ n, prB c.toNat = true) → qs (escL n ++ 39 :: rest) = some (n, (escL n).length + 1)
  | [], rest, _ => by
    show qs (39 :: rest) = _
    rw [qs_end]; rfl
  | c :: n, rest, h => by
    have hc := h c (by simp)
    have ih := qs_esc_app n rest (fun d hd => h d (by simp [hd]))
    rw [escL_cons]
    unfold esc
    cases he : esB c.toNat
    · have h1 : c ≠ 39 := fun e => by rw [e] at he; exact absurd he (by decide)
      have h2 : c ≠ 92 := fun e => by rw [e] at he; exact absurd he (by decide)
      simp only [Bool.false_eq_true, if_false, List.cons_append, List.nil_append]
      rw [qs_one _ h1 hc h2, ih]
      simp
    · simp only [if_true, List.cons_append, List.nil_append]
      rw [qs_esc _ he, ih]
      simp

theorem one_tok {l : List UInt8} {k : Int} {t : List UInt8} (h0 : ¬ (hd l = 32 ∨ hd l = 9 ∨ hd l = 13) ∧ hd l ≠ 37) (hne : l ≠ []) (hr : rd l = ⟨k, t, l.length, 0⟩) : lexL 0 l = ([⟨k, 0, t⟩], 0, 0) := by
  cases l with
  | nil => exact absurd rfl hne
  | cons c r =>
    have hcv : ∀ m : UInt8, c = m → hd (c :: r) = (m.toNat : Int) := fun m e => by rw [e]; rfl
    have hb : ¬ (c = 32 ∨ c = 9 ∨ c = 13) := fun h => h0.1 (by
      rcases h with h | h | h
      · exact .inl (hcv 32 h)
      · exact .inr (.inl (hcv 9 h))
      · exact .inr (.inr (hcv 13 h)))
    have h37 : c ≠ 37 := fun h => h0.2 (hcv 37 h)
    have e := lexL_tok hb h37 (by rw [hr]) [] (a := 0)
    rw [hr] at e
    simp only [List.nil_append, Nat.zero_add, List.drop_length, lexL_nil] at e
    have e2 : lexL 0 (c :: r) = addD [] (lexL 0 (c :: r)) := by simp [addD]
    rw [e2, e]
    simp [addD]

theorem back {n : List UInt8} (h : nmB n = true) : lexL 0 (shL n) = ([⟨1, 0, n⟩], 0, 0) ∧ n.length ≤ 63 := by
  unfold nmB at h
  simp only [Bool.and_eq_true, decide_eq_true_eq] at h
  obtain ⟨⟨hb, hl⟩, hp⟩ := h
  have hpr : ∀ c ∈ n, prB c.toNat = true := fun c hc => by
    have := List.all_eq_true.1 hp c hc
    exact this
  have hne : n ≠ [] := fun e => by rw [e] at hb; exact absurd hb (by decide)
  refine ⟨?_, hl⟩
  unfold shL
  cases hpl : plB n
  · simp only [Bool.false_eq_true, if_false]
    have hh : hd (39 :: (escL n ++ [39])) = 39 := rfl
    refine one_tok (by rw [hh]; decide) (by simp) ?_
    unfold rd
    rw [hh, if_neg (by decide), if_neg (by decide), if_pos rfl]
    show rdQ (escL n ++ [39]) = _
    unfold rdQ
    rw [qs_esc_app n [] hpr]
    simp only [hb, if_true]
    rw [if_neg (by omega)]
    simp
  · simp only [if_true]
    unfold plB at hpl
    simp only [Bool.and_eq_true] at hpl
    obtain ⟨⟨_, hs⟩, hw⟩ := hpl
    have hw' : wlen n = n.length := by have := eq_of_beq hw; omega
    have hs2 := hs
    unfold smB at hs2
    simp at hs2
    refine one_tok (by omega) hne ?_
    unfold rd
    rw [hs, if_pos rfl]
    unfold rdW
    rw [hw', if_neg (by omega), List.take_length]

theorem shL_len (n : List UInt8) : (shL n).length ≤ 2 * n.length + 2 := by
  unfold shL
  split
  · omega
  · have := escL_len n
    simp
    omega

set_option maxRecDepth 100000 in
set_option maxHeartbeats 8000000 in
theorem lawback_any (s : ByteArray) (w : World) (hs : s.size ≤ 1048576) : Calls Try.prog 5 #[.string s] w fun e w' => e = .returned (.bool true) ∧ Below w.heap.size w w' := by
  have h13 := fun W => isName_any s W (by omega)
  have h14 := fun W => risName_any s W (by omega)
  cases hn : nmB s.data.toList
  · rw [hn] at h13 h14
    clear hn
    go_enter Try.func5, Try.ntmps5
    go_wp2_with (first
      | (go_at_call 13; refine (h13 _).mono ?_; rintro e wq ⟨rfl, rfl⟩)
      | (go_at_call 14; refine (h14 _).mono ?_; rintro e wq ⟨rfl, rfl⟩)
      | (go_at_call 10; refine (alive_any _).mono ?_; rintro e W3 ⟨rfl, b3⟩))
    go_ret
    exact ⟨rfl, b3⟩
  · rw [hn] at h13
    obtain ⟨hb, hl⟩ := back hn
    rw [size_len] at hl
    have h17 := fun W => show_any s W (by omega)
    have h7 := fun W => lex_ok (ofL (shL s.data.toList)) W (by rw [ofL_size]; have := shL_len s.data.toList; rw [size_len] at this; omega)
    simp only [ofL_data, hb] at h7
    obtain ⟨T, hT⟩ : ∃ T, ofL (shL s.data.toList) = T := ⟨_, rfl⟩
    rw [hT] at h17 h7
    have H7 : ∀ W, Calls Try.prog 7 #[.string T] W fun e w' => ∃ a c b o, e = .returned (.tuple #[.slice a 1 c, .int .i64 0, .int .i64 0]) ∧ 1 ≤ c ∧ a = some ⟨b, o, none⟩ ∧ b < w'.heap.size ∧ w'.cell? ⟨b, o, none⟩ = some (.int .i64 1) ∧ w'.cell? ⟨b, o + 1, none⟩ = some (.int .i64 0) ∧ w'.cell? ⟨b, o + 2, none⟩ = some (.string s) ∧ Below W.heap.size W w' := fun W => by
      refine (h7 W).mono ?_
      rintro e w' ⟨v, rfl, hk, hbl⟩
      simp only [if_true] at hk
      obtain ⟨a, c, rfl, h1, h2⟩ := hk.slice
      obtain ⟨b, o, rfl, hlt, c0, c1, c2⟩ := hk.nth (i := 0) (by simp)
      refine ⟨_, c, b, o, rfl, h1, rfl, hlt, c0, c1, ?_, hbl⟩
      rw [← ofL_self s]
      exact c2
    have ns : (s.toList == s.toList) = true := by simp
    clear h7 h14 hn hb hT
    go_enter Try.func5, Try.ntmps5
    go_wp2_with fail
    refine (h13 _).mono ?_
    rintro e wq ⟨rfl, rfl⟩
    go_wp2_with fail
    refine (h17 _).mono ?_
    rintro e W1 ⟨rfl, b1⟩
    go_wp2_with fail
    refine (H7 _).mono ?_
    rintro e W2 ⟨a, c, b, o, rfl, hc, rfl, hlt, c0, c1, c2, b2⟩
    have HB2 : Hid (Below wq.heap.size wq W2) := b1.trans (b2.mono b1.size)
    clear b1 b2 h17 H7 h13
    go_wp2_with fail
    refine (alive_any _).mono ?_
    rintro e W3 ⟨rfl, b3⟩
    have HB3 : Hid (Below wq.heap.size wq W3) := HB2.out.trans (b3.mono HB2.out.size)
    clear b3
    go_wp2
    go_ret
    exact ⟨rfl, HB3.out⟩

end Go.Proofs.Ytkfbjkopmgeklaa
