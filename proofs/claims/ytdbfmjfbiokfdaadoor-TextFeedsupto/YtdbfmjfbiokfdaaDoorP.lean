/-
  Parts of bytes: what is kept and the lines, however the bytes are parted; what a Feed leaves alone.
-/
import Derived.Test.YtdbfmjfbiokfdaaDoorK
import Derived.Laws.StructEq
namespace Go.Proofs.YtdbfmjfbiokfdaaDoor
open Go.RowKit

def shiftS (L : List (ByteArray × Int)) (s : St) : St := (s.1, s.2.1, L ++ s.2.2)
theorem bstep_shift (L : List (ByteArray × Int)) (s : St) (x : Int) : bstep (shiftS L s) x = shiftS L (bstep s x) := by
  unfold bstep
  by_cases h : x = 10
  · rw [if_pos h, if_pos h]; simp [pstep, shiftS]
  · rw [if_neg h, if_neg h]; simp [shiftS]
theorem fold_shift : ∀ (xs : List Int) (L : List (ByteArray × Int)) (s : St), xs.foldl bstep (shiftS L s) = shiftS L (xs.foldl bstep s)
  | [], _, _ => rfl
  | x :: r, L, s => by
    simp only [List.foldl_cons]
    rw [bstep_shift, fold_shift r L]

/-- What is kept and the lines, behind these bytes. -/
def accS (xs : List Int) : St := xs.foldl bstep ([], false, [])
theorem fold_ok : ∀ (xs : List Int) (s : St), okS s → okS (xs.foldl bstep s)
  | [], _, h => h
  | x :: r, s, _ => fold_ok r _ (bstep_ok s x)
theorem accS_ok (xs : List Int) : okS (accS xs) := fold_ok xs _ ⟨Nat.zero_le _, fun h => by cases h⟩
theorem feedS_fold (ks : List Int) (lg : Bool) (xs : List Int) (h : ks.length ≤ 65536 ∧ (lg = true → ks = [])) : feedS ks lg xs = xs.foldl bstep (ks, lg, []) := psteps_bytes xs _ h
theorem feedS_acc (xs : List Int) : feedS [] false xs = accS xs := feedS_fold [] false xs ⟨Nat.zero_le _, fun h => by cases h⟩
theorem accS_app (p q : List Int) : accS (p ++ q) = ((feedS (accS p).1 (accS p).2.1 q).1, (feedS (accS p).1 (accS p).2.1 q).2.1, (accS p).2.2 ++ (feedS (accS p).1 (accS p).2.1 q).2.2) := by
  rw [feedS_fold _ _ _ (accS_ok p)]
  have h := fold_shift q (accS p).2.2 ((accS p).1, (accS p).2.1, [])
  unfold accS at h ⊢
  rw [List.foldl_append]
  simp only [shiftS, List.append_nil] at h
  exact h

theorem flat_app (a b : List (ByteArray × Int)) : flat (a ++ b) = flat a ++ flat b := by simp [flat]
theorem flat_one (a : List (ByteArray × Int)) : ∀ u ∈ flat a, u.oneCell' = true := by
  intro u hu
  obtain ⟨l, _, hl⟩ := List.mem_flatMap.1 hu
  simp at hl
  rcases hl with rfl | rfl <;> rfl

theorem Touch.keeps {Bb Ba : Nat} {kv kv' ka : Value} {W W' : World} {ks : List Int} {lg : Bool} (ht : Touch Bb kv kv' W W') (hk : Keeps W Ba ka ks lg) (hne : Ba ≠ Bb) (hB : some Ba ≠ kv.ownBlock) (hr : ∀ g, ka.ownBlock = some g → g ≠ Bb ∧ some g ≠ kv.ownBlock) : Keeps W' Ba ka ks lg := by
  refine ⟨(ht.block Ba hk.1.lt hne hB).trans hk.1, ⟨hk.2.1.1, ?_⟩, hk.2.2⟩
  rcases hk.2.1.2 with hn | ⟨g, cap, cur, rfl, hb', hgg, rest⟩
  · exact .inl hn
  · exact .inr ⟨g, cap, cur, rfl, hb', (ht.block g (Array.getElem?_eq_some_iff.1 hgg).1 (hr g rfl).1 (hr g rfl).2).trans hgg, rest⟩

/-- A part of a slice that came in. -/
theorem Bts.part {w : World} {p : Option Addr} {c : Nat} {xs : List Int} (h : Bts w (.slice p xs.length c) xs) {f t : Nat} (hft : f ≤ t) (ht : t ≤ xs.length) (q : Option Addr) (hq : f ≠ c → q = p.map (fun x => x.add f)) :
    Bts w (.slice q (t - f) (c - f)) ((xs.drop f).take (t - f)) := by
  obtain ⟨p', c', e, h1, h2, h3, h4⟩ := h
  simp only [Value.slice.injEq, true_and] at e
  obtain ⟨rfl, rfl⟩ := e
  have hl : ((xs.drop f).take (t - f)).length = t - f := by rw [List.length_take, List.length_drop]; omega
  refine ⟨q, c - f, by rw [hl], by rw [hl]; omega, by omega, fun x hx => h3 x (List.mem_of_mem_drop (List.mem_of_mem_take hx)), fun hp => ?_⟩
  rw [hl] at hp ⊢
  obtain ⟨b, o, rfl, hc⟩ := h4 (by omega)
  refine ⟨b, o + f, ?_, fun i hi => ?_⟩
  · rw [hq (by omega)]
    simp only [Option.map_some, addr_add]
  · rw [Nat.add_assoc, hc (f + i) (by omega)]
    simp only [List.getD_eq_getElem?_getD]
    rw [List.getElem?_take, if_pos hi, List.getElem?_drop]

theorem run_append_none38 (ty : TypeId) (a : Option Addr) (n c d : Nat) (w : World) (h : n ≤ c) :
    (Builtin.append_ #[38, 38] ty #[.slice a n c, .slice none 0 d]).run Tryd.prog w = .ok (.slice a n c) w := by
  obtain ⟨i0, hi, hz0, hz1, hz2⟩ := info_parts Tryd.info44
  cases a <;> simp [Builtin.append_, run_underlying Tryd.underlying38, sizeOf, typeInfo, hi, Builtin.lenOf, h, run_firstCells_none, storeCells]

theorem neq_line (w : World) (x : ByteArray) (e : Int) : (binOp .neq 44 (.agg #[.string x, .int .i64 e]) (.agg #[.string x, .int .i64 e])).run Tryd.prog w = .ok (.bool false) w := by
  go_simp

theorem flat_get : ∀ (L : List (ByteArray × Int)) (k : Nat) (h : k < L.length), (flat L)[k * 2]? = some (.string L[k].1) ∧ (flat L)[k * 2 + 1]? = some (.int .i64 L[k].2)
  | a :: r, 0, _ => by simp [flat]
  | a :: r, k + 1, h => by
    have ih := flat_get r k (by simpa using h)
    have e : flat (a :: r) = .string a.1 :: .int .i64 a.2 :: flat r := by simp [flat]
    rw [e]
    have e1 : (k + 1) * 2 = k * 2 + 1 + 1 := by omega
    have e2 : (k + 1) * 2 + 1 = (k * 2 + 1) + 1 + 1 := by omega
    rw [e1, List.getElem?_cons_succ, List.getElem?_cons_succ]
    exact ⟨ih.1, by rw [List.getElem?_cons_succ, List.getElem?_cons_succ]; exact ih.2⟩
theorem line_cells {W : World} {base e : Nat} {v : Value} {L : List (ByteArray × Int)} (h : W.ownsRow base e 2 v L.length (flat L)) (k : Nat) (hk : k < L.length) : ∃ g c, v = .slice (some ⟨g, 0, none⟩) L.length c ∧ W.cell? ⟨g, k * 2, none⟩ = some (.string L[k].1) ∧ W.cell? ⟨g, k * 2 + 1, none⟩ = some (.int .i64 L[k].2) := by
  rcases h.2 with ⟨_, h0⟩ | ⟨g, cap, cur, rfl, _⟩
  · omega
  · have h1 := h.cells (g := g) rfl (k * 2) _ (flat_get L k hk).1
    have h2 := h.cells (g := g) rfl (k * 2 + 1) _ (flat_get L k hk).2
    rw [addr_add, Nat.zero_add] at h1 h2
    exact ⟨g, cap, rfl, h1, h2⟩

end Go.Proofs.YtdbfmjfbiokfdaaDoor
