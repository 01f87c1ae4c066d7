import Derived.Test.YtglphfhlpobgcaaGreatLM
import Derived.Test.YtglphfhlpobgcaaGreatWF
namespace Go.Proofs.YtglphfhlpobgcaaGreat
open Go.RowKit Go.Maps
theorem laidOutT : laidOutB Tryz.prog = true := by kernel_rfl
theorem keyed111 : Keyed Tryz.prog 137 := Keyed.of_law (deep_law_laid laidOutT (m := 4) (by omega) (of_decide_eq_true (by kernel_rfl)) (by kernel_rfl) (by kernel_rfl))
theorem keyed87 : Keyed Tryz.prog 113 := Keyed.of_law (deep_law_laid laidOutT (m := 4) (by omega) (of_decide_eq_true (by kernel_rfl)) (by kernel_rfl) (by kernel_rfl))
theorem keyed97 : Keyed Tryz.prog 123 := Keyed.of_law (deep_law_laid laidOutT (m := 4) (by omega) (of_decide_eq_true (by kernel_rfl)) (by kernel_rfl) (by kernel_rfl))
theorem Tryz.cells83 : Tryz.prog.cellsOf 83 = 1 := by kernel_rfl
theorem Tryz.cells121 : Tryz.prog.cellsOf 121 = 16 := by kernel_rfl
theorem Tryz.cells123 : Tryz.prog.cellsOf 123 = 18 := by kernel_rfl
theorem Tryz.cells113 : Tryz.prog.cellsOf 113 = 2 := by kernel_rfl
theorem Tryz.cells137 : Tryz.prog.cellsOf 137 = 2 := by kernel_rfl
theorem Tryz.kt111 : Tryz.prog.keyType 137 = true := by kernel_rfl
theorem Tryz.kt87 : Tryz.prog.keyType 113 = true := by kernel_rfl
theorem Tryz.kt97 : Tryz.prog.keyType 123 = true := by kernel_rfl
theorem Tryz.tsize : Tryz.prog.types.size = 230 + 1 + 1 + 1 := by kernel_rfl
theorem mapM_some {α β : Type} {f : α → Option β} : ∀ (l : List α), (∀ a ∈ l, (f a).isSome = true) → (l.mapM f).isSome = true
  | [], _ => rfl
  | a :: r, h => by
    have h1 := h a (by simp)
    have h2 := mapM_some r (fun b hb => h b (by simp [hb]))
    obtain ⟨x, hx⟩ := Option.isSome_iff_exists.1 h1
    obtain ⟨y, hy⟩ := Option.isSome_iff_exists.1 h2
    simp [List.mapM_cons, hx, hy]
theorem wf16 {a : Nat} (h : a < 32768) : (Lit.int .i16 (a : Int)).wf = true := by
  have h1 : IntKind.i16.min = -32768 := by decide
  have h2 : IntKind.i16.max = 32767 := by decide
  simp [Lit.wf, h1, h2]
  omega
theorem keyLits_int (d : Nat) {a : Int} (h : Fit64 a) : (Tryz.prog.keyLits (d + 1) 3 [.int .i64 a]).isSome = true := by
  simp [Program.keyLits, Tryz.underlying3, wf_of h]
theorem keyLits_num (d : Nat) {a : Nat} (h : a < 32768) : (Tryz.prog.keyLits (d + 1) 83 [.int .i16 (a : Int)]).isSome = true := by
  simp [Program.keyLits, Tryz.underlying83, wf16 h]
theorem pair_key {i j : Nat} (hi : i < 32768) (hj : j < 32768) : ∃ kl, keyOf Tryz.prog 137 (pairv i j) = some kl := by
  have hf : (pairv i j).formed Tryz.prog 137 = true := by
    unfold Value.formed
    rw [Tryz.underlying137]
    simp [Tryz.cells137]
  obtain ⟨x1, e1⟩ := Option.isSome_iff_exists.1 (keyLits_num 232 hi)
  obtain ⟨x2, e2⟩ := Option.isSome_iff_exists.1 (keyLits_num 232 hj)
  have hk : (Tryz.prog.keyLits (233 + 1) 137 [.int .i16 (i : Int), .int .i16 (j : Int)]).isSome = true := by
    unfold Program.keyLits
    rw [Tryz.underlying137]
    simp [Tryz.cells137, Tryz.cells83, e1, e2]
  obtain ⟨ls, hls⟩ := Option.isSome_iff_exists.1 hk
  refine ⟨.string (keyBytes ls), ?_⟩
  unfold keyOf
  rw [Tryz.underlying137]
  simp only [Tryz.kt111, hf, Bool.and_self, if_true, Tryz.tsize]
  show (Tryz.prog.keyLits (233 + 1) 137 [.int .i16 (i : Int), .int .i16 (j : Int)]).map _ = _
  rw [hls]
  rfl
abbrev symv (s : ByteArray × Nat) : Value := .agg #[.string s.1, .int .i64 (s.2 : Int)]
theorem sym_key {s : ByteArray × Nat} (h1 : s.1.size ≤ 64) (h2 : s.2 ≤ 1048576) : ∃ kl, keyOf Tryz.prog 113 (symv s) = some kl := by
  have hf : (symv s).formed Tryz.prog 113 = true := by
    unfold Value.formed
    rw [Tryz.underlying113]
    simp [Tryz.cells113]
  have hs : (Tryz.prog.keyLits 233 9 [.string s.1]).isSome = true := by
    have h1 : s.1.size ≤ maxLen := by unfold maxLen; omega
    simp [Program.keyLits, Tryz.underlying9, h1]
  have hc : (Tryz.prog.keyLits 233 3 [.int .i64 (s.2 : Int)]).isSome = true := keyLits_int 232 ⟨by omega, by omega⟩
  obtain ⟨x1, e1⟩ := Option.isSome_iff_exists.1 hs
  obtain ⟨x2, e2⟩ := Option.isSome_iff_exists.1 hc
  have hk : (Tryz.prog.keyLits (233 + 1) 113 [.string s.1, .int .i64 (s.2 : Int)]).isSome = true := by
    unfold Program.keyLits
    rw [Tryz.underlying113]
    simp [Tryz.cells113, Tryz.cells9, Tryz.cells3, e1, e2]
  obtain ⟨ls, hls⟩ := Option.isSome_iff_exists.1 hk
  refine ⟨.string (keyBytes ls), ?_⟩
  unfold keyOf
  rw [Tryz.underlying113]
  simp only [Tryz.kt87, hf, Bool.and_self, if_true, Tryz.tsize]
  show (Tryz.prog.keyLits (233 + 1) 113 [.string s.1, .int .i64 (s.2 : Int)]).map _ = _
  rw [hls]
  rfl
def pad (ids : List Nat) : List Value := (List.range 16).map fun i => Value.int .i16 ((ids.getD i 0 : Nat) : Int)
def ndC (rk : Nat) (v : Int) (ids : List Nat) : List Value := [.int .i64 (rk : Int), .int .i64 v] ++ pad ids
abbrev ndV (rk : Nat) (v : Int) (ids : List Nat) : Value := .agg (ndC rk v ids).toArray
theorem pad_len (ids : List Nat) : (pad ids).length = 16 := by simp [pad]
theorem ndC_len (rk : Nat) (v : Int) (ids : List Nat) : (ndC rk v ids).length = 18 := by simp [ndC, pad_len]
theorem pad_at (ids : List Nat) (i : Nat) (h : i < 16) : (pad ids)[i]? = some (.int .i16 ((ids.getD i 0 : Nat) : Int)) := by simp [pad, h]
theorem pad_snoc (ids : List Nat) (x : Nat) (h : ids.length < 16) : (pad ids).set ids.length (.int .i16 (x : Int)) = pad (ids ++ [x]) := by
  apply List.ext_getElem?
  intro i
  by_cases hi : i < 16
  · rw [pad_at _ _ hi, List.getElem?_set]
    by_cases he : ids.length = i
    · subst he
      simp [pad_len, h]
    · rw [if_neg he, pad_at _ _ hi]
      simp only [List.getD_eq_getElem?_getD]
      rw [List.getElem?_append]
      by_cases hlt : i < ids.length
      · rw [if_pos hlt]
      · rw [if_neg hlt, List.getElem?_eq_none (by omega), List.getElem?_eq_none (by simp; omega)]
  · rw [List.getElem?_eq_none (by simp [pad_len]; omega), List.getElem?_eq_none (by simp [pad_len]; omega)]
theorem ndC_snoc (rk : Nat) (v : Int) (ids : List Nat) (x : Nat) (h : ids.length < 16) : (ndC rk v ids).set (2 + ids.length) (.int .i16 (x : Int)) = ndC rk v (ids ++ [x]) := by
  unfold ndC
  rw [← pad_snoc ids x h, List.set_append, if_neg (by simp)]
  simp
theorem ndV_inj {rk rk' : Nat} {v v' : Int} {ids ids' : List Nat} (hl : ids.length = ids'.length) (h16 : ids.length ≤ 16) (h : ndV rk v ids = ndV rk' v' ids') : rk = rk' ∧ v = v' ∧ ids = ids' := by
  have e : ndC rk v ids = ndC rk' v' ids' := by
    have := Value.agg.inj h
    simpa using this
  simp only [ndC, List.cons_append, List.nil_append, List.cons.injEq, Value.int.injEq, true_and] at e
  obtain ⟨e1, e2, e3⟩ := e
  refine ⟨by omega, e2, List.ext_getElem hl fun i h1 h2 => ?_⟩
  have := congrArg (fun l => l[i]?) e3
  simp only [pad_at _ _ (by omega : i < 16), List.getD_eq_getElem?_getD, List.getElem?_eq_getElem h1, List.getElem?_eq_getElem h2, Option.getD_some, Option.some.injEq, Value.int.injEq, true_and] at this
  omega
theorem keyLits_args (d : Nat) (ids : List Nat) (h : ∀ a ∈ ids, a < 32768) : (Tryz.prog.keyLits (d + 1 + 1) 121 (pad ids)).isSome = true := by
  unfold Program.keyLits
  rw [Tryz.underlying121]
  simp only [Tryz.cells121, pad_len, if_true, Tryz.cells83]
  rw [Option.isSome_map]
  refine mapM_some _ fun i hi => ?_
  have hi' : i < 16 := by simpa using hi
  have e : ((pad ids).drop (i * 1)).take 1 = [.int .i16 ((ids.getD i 0 : Nat) : Int)] := by
    have hg := pad_at ids i hi'
    rw [Nat.mul_one]
    have hlt : i < (pad ids).length := by rw [pad_len]; exact hi'
    rw [List.drop_eq_getElem_cons hlt]
    rw [List.getElem?_eq_getElem hlt] at hg
    simp [Option.some.inj hg]
  rw [e]
  refine keyLits_num d ?_
  rw [List.getD_eq_getElem?_getD]
  cases hg : ids[i]? with
  | none => simp
  | some x => exact h x (List.mem_of_getElem? hg)
theorem nd_key {rk : Nat} {v : Int} {ids : List Nat} (h1 : rk ≤ 1048576) (h2 : Fit64 v) (h3 : ∀ a ∈ ids, a < 32768) : ∃ kl, keyOf Tryz.prog 123 (ndV rk v ids) = some kl := by
  have hf : (ndV rk v ids).formed Tryz.prog 123 = true := by
    unfold Value.formed
    rw [Tryz.underlying123]
    simp [Tryz.cells123, ndC_len]
  have h95 := keyLits_args 231 ids h3
  have hv := keyLits_int 232 h2
  have hc : (Tryz.prog.keyLits 233 3 [.int .i64 (rk : Int)]).isSome = true := keyLits_int 232 ⟨by omega, by omega⟩
  obtain ⟨x1, e1⟩ := Option.isSome_iff_exists.1 hv
  obtain ⟨x3, e3⟩ := Option.isSome_iff_exists.1 hc
  obtain ⟨x4, e4⟩ := Option.isSome_iff_exists.1 h95
  have hk : (Tryz.prog.keyLits (233 + 1) 123 (ndC rk v ids)).isSome = true := by
    unfold Program.keyLits
    rw [Tryz.underlying123]
    simp only [Tryz.cells123, ndC_len]
    have hp : (pad ids).take 16 = pad ids := List.take_of_length_le (by rw [pad_len]; omega)
    simp [ndC, Tryz.cells3, Tryz.cells121, e1, e3, hp, e4]
  obtain ⟨ls, hls⟩ := Option.isSome_iff_exists.1 hk
  refine ⟨.string (keyBytes ls), ?_⟩
  unfold keyOf
  rw [Tryz.underlying123]
  simp only [Tryz.kt97, hf, Bool.and_self, if_true, Tryz.tsize]
  show (Tryz.prog.keyLits (233 + 1) 123 (ndC rk v ids).toArray.toList).map _ = _
  rw [List.toList_toArray, hls]
  rfl
theorem nodup_bound : ∀ (n : Nat) (l : List Nat), l.Nodup → (∀ x ∈ l, x < n) → l.length ≤ n
  | 0, l, _, h => by
    cases l with
    | nil => exact Nat.le_refl _
    | cons x r => exact absurd (h x (by simp)) (by omega)
  | n + 1, l, hn, h => by
    have h1 : (l.erase n).Nodup := hn.erase n
    have h2 : ∀ x ∈ l.erase n, x < n := fun x hx => by
      have hx' := List.mem_of_mem_erase hx
      have := h x hx'
      by_cases e : x = n
      · subst e
        exact absurd hx (by rw [hn.mem_erase_iff]; simp)
      · omega
    have h3 := nodup_bound n _ h1 h2
    have h4 : l.length ≤ (l.erase n).length + 1 := by
      rw [List.length_erase]
      split <;> omega
    omega
theorem pairs_bound {N : Nat} {K : List (Nat × Nat)} (h : K.Nodup) (hK : ∀ p ∈ K, p.1 < N ∧ p.2 < N) : K.length ≤ N * N := by
  have h1 : (K.map fun p => p.1 * N + p.2).Nodup := by
    rw [List.nodup_iff_pairwise_ne, List.pairwise_map]
    refine (List.nodup_iff_pairwise_ne.1 h).imp_of_mem fun {p q} hp hq hne e => hne ?_
    obtain ⟨p1, p2⟩ := p
    obtain ⟨q1, q2⟩ := q
    have a1 := hK _ hp
    have a2 := hK _ hq
    simp only at e a1 a2
    have d1 : (p1 * N + p2) / N = p1 := by
      rw [Nat.mul_comm, Nat.mul_add_div (by omega), Nat.div_eq_of_lt a1.2]; omega
    have d2 : (q1 * N + q2) / N = q1 := by
      rw [Nat.mul_comm, Nat.mul_add_div (by omega), Nat.div_eq_of_lt a2.2]; omega
    have : p1 = q1 := by rw [← d1, e, d2]
    subst this
    have : p2 = q2 := by omega
    rw [this]
  have h2 := nodup_bound (N * N) _ h1 (fun x hx => by
    obtain ⟨p, hp, rfl⟩ := List.mem_map.1 hx
    have := hK p hp
    have : (p.1 + 1) * N ≤ N * N := Nat.mul_le_mul_right N this.1
    rw [Nat.add_mul] at this
    omega)
  simpa using h2
end Go.Proofs.YtglphfhlpobgcaaGreat
