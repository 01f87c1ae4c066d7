/-
  tokens: the iterator.
-/
import Derived.Test.YtkfbjkopmgeklaaT
namespace Go.Proofs.Ytkfbjkopmgeklaa
open Go.RowKit Go.Shelf

attribute [local go_sem] Oper.semAt_some

theorem rdW_bad {k : Int} {l : List UInt8} (h : (rdW k l).e ≠ 0) : (rdW k l).k = 0 ∧ (rdW k l).t = [] := by
  unfold rdW at h ⊢
  split
  · exact ⟨rfl, rfl⟩
  · rename_i h6; rw [if_neg h6] at h; exact absurd rfl h
theorem rd_bad {l : List UInt8} (h : (rd l).e ≠ 0) : (rd l).k = 0 ∧ (rd l).t = [] := by
  cases h1 : smB (hd l)
  · cases h2 : caB (hd l)
    · by_cases h3 : hd l = 39
      · have hr : rd l = rdQ (l.drop 1) := by unfold rd; rw [h1, h2, if_neg (by simp), if_neg (by simp), if_pos h3]
        rw [hr] at h ⊢
        unfold rdQ at h ⊢
        cases hq : qs (l.drop 1) with
        | none => exact ⟨rfl, rfl⟩
        | some p =>
          rw [hq] at h
          simp only at h ⊢
          split
          · rename_i hb
            rw [if_pos hb] at h
            split
            · exact ⟨rfl, rfl⟩
            · rename_i h6; rw [if_neg h6] at h; exact absurd rfl h
          · exact ⟨rfl, rfl⟩
      · by_cases h4 : hd l = 36
        · have hr : rd l = rdD l := by unfold rd; rw [h1, h2, if_neg (by simp), if_neg (by simp), if_neg h3, if_pos h4]
          rw [hr] at h ⊢
          unfold rdD at h ⊢
          simp only at h ⊢
          split
          · rename_i hb; rw [if_pos hb] at h; exact absurd rfl h
          · rename_i hb
            rw [if_neg hb] at h
            split
            · rename_i hc; rw [if_pos hc] at h; exact absurd rfl h
            · exact ⟨rfl, rfl⟩
        · have hr : rd l = rdM l := by unfold rd; rw [h1, h2, if_neg (by simp), if_neg (by simp), if_neg h3, if_neg h4]
          rw [hr] at h ⊢
          unfold rdM at h ⊢
          cases hf : mks.find? (fun m => Lib.hasPrefix l m) with
          | none => exact ⟨rfl, rfl⟩
          | some m => rw [hf] at h; exact absurd rfl h
    · have hr : rd l = rdW 2 l := by unfold rd; rw [h1, h2, if_neg (by simp), if_pos rfl]
      rw [hr] at h ⊢
      exact rdW_bad h
  · have hr : rd l = rdW 1 l := by unfold rd; rw [h1, if_pos rfl]
    rw [hr] at h ⊢
    exact rdW_bad h

def itms (q : List Tk × Nat × Int) : List It := q.1.map (fun t => (t, 0)) ++ if q.2.2 = 0 then [] else [(⟨0, q.2.1, []⟩, q.2.2)]
theorem itms_add (done : List Tk) (q : List Tk × Nat × Int) : itms (addD done q) = done.map (fun t => (t, 0)) ++ itms q := by
  unfold itms addD; simp

theorem sk_lex : ∀ (r : List UInt8) (a : Nat), lexL a r = lexL (a + sk r) (r.drop (sk r))
  | [], a => by simp [sk]
  | c :: r, a => by
    unfold sk
    split
    · rename_i h
      rw [lexL_blank h, sk_lex r (a + 1), List.drop_succ_cons]
      congr 1
      omega
    · split
      · rename_i h
        subst h
        rw [lexL_rem, List.drop_succ_cons, List.drop_length, lexL_nil]
      · simp
theorem sk_stop : ∀ (r : List UInt8), r.drop (sk r) = [] ∨ ∃ c r', r.drop (sk r) = c :: r' ∧ ¬ (c = 32 ∨ c = 9 ∨ c = 13) ∧ c ≠ 37
  | [] => .inl (by simp)
  | c :: r => by
    unfold sk
    split
    · rw [List.drop_succ_cons]; exact sk_stop r
    · rename_i h
      split
      · rw [List.drop_succ_cons, List.drop_length]; exact .inl rfl
      · rename_i h2; exact .inr ⟨c, r, rfl, h, h2⟩

/-- While the iterator goes on. -/
structure TkI (w0 : World) (Bs : Nat) (s : ByteArray) (J : List Nat → List It → World → Prop) (k : Nat) (E : List Nat) (pre : List It) (W : World) : Prop where
  j : J E pre W
  bel : Below w0.heap.size w0 W
  mem : Bs ∈ E
  bs : W.heap[Bs]? = some (.cells #[.string s] 9 (0, 0))
  eq : pre ++ itms (lexL k (s.data.toList.drop k)) = itms (lexL 0 s.data.toList)
  nb : s.data.toList.drop k = [] ∨ ∃ c r', s.data.toList.drop k = c :: r' ∧ ¬ (c = 32 ∨ c = 9 ∨ c = 13) ∧ c ≠ 37

theorem TkI.start {w0 : World} {Bs : Nat} {s : ByteArray} {J : List Nat → List It → World → Prop} {W : World} (hj : J [Bs] [] W) (hb : Below w0.heap.size w0 W) (hs : W.heap[Bs]? = some (.cells #[.string s] 9 (0, 0))) : TkI w0 Bs s J (0 + sk (s.data.toList.drop 0)) [Bs] [] W := by
  refine ⟨hj, hb, by simp, hs, ?_, ?_⟩
  · rw [Nat.zero_add, List.drop_zero, List.nil_append]
    have := sk_lex s.data.toList 0
    rw [Nat.zero_add] at this
    rw [← this]
  · rw [Nat.zero_add, List.drop_zero]; exact sk_stop _

/-- Behind a round. -/
theorem TkI.next {w0 : World} {Bs : Nat} {s : ByteArray} {J : List Nat → List It → World → Prop} {k : Nat} {E : List Nat} {pre : List It} {W W' : World} {m : Nat} {x : Tk} (h : TkI w0 Bs s J k E pre W) (hj : J E (pre ++ [(x, 0)]) W') (hk : Kept w0.heap.size E W W') (he : itms (lexL k (s.data.toList.drop k)) = (x, 0) :: itms (lexL m (s.data.toList.drop m))) : TkI w0 Bs s J (m + sk (s.data.toList.drop m)) E (pre ++ [(x, 0)]) W' := by
  refine ⟨hj, h.bel.trans hk.below, h.mem, (hk.mine _ h.mem).trans h.bs, ?_, ?_⟩
  · rw [← h.eq, he]
    have := sk_lex (s.data.toList.drop m) m
    rw [List.drop_drop] at this
    rw [← this]
    simp
  · rw [← List.drop_drop]; exact sk_stop _

theorem TkI.far {w0 : World} {Bs : Nat} {s : ByteArray} {J : List Nat → List It → World → Prop} {k : Nat} {E : List Nat} {pre : List It} {W W' : World} (hJ : Abide J) (h : TkI w0 Bs s J k E pre W) (hb : Below W.heap.size W W') : TkI w0 Bs s J k E pre W' :=
  ⟨hJ _ _ _ _ _ none h.j ⟨hb.os, hb.tape, hb.output, hb.size, fun k hk _ => hb.block k hk⟩ (fun _ e => by cases e) (fun _ hr => .inl hr), h.bel.trans (hb.mono h.bel.size), h.mem, (hb.block _ (Array.getElem?_eq_some_iff.1 h.bs).1).trans h.bs, h.eq, h.nb⟩

set_option maxHeartbeats 1000000 in
theorem tokens_any (s : ByteArray) (w : World) : Calls Try.prog 19 #[.string s] w fun e w' => e = .returned (.func (.func 32) #[] #[.pointer (some ⟨w.heap.size, 0, none⟩)]) ∧ w' = w.alloc (.cells #[.string s] 9) := by
  go_enter Try.func19, Try.ntmps19
  go_wp2
  go_ret
  exact ⟨rfl, rfl⟩

end Go.Proofs.Ytkfbjkopmgeklaa
