/-
  The walks of Back's closure and of change.
-/
import Derived.Test.YtiaebahmbgmajaaC
namespace Go.Proofs.Ytiaebahmbgmajaa
open Go.RowKit

/-- A slice of ints that holds these. -/
def Ints (W : World) (v : Value) (xs : List Int) : Prop :=
  ∃ p c, v = .slice p xs.length c ∧ xs.length ≤ c ∧ c ≤ 9223372036854775807 ∧ (0 < xs.length → ∃ b o, p = some ⟨b, o, none⟩ ∧ ∀ i, i < xs.length → W.cell? ⟨b, o + i, none⟩ = some (.int .i64 (xs.getD i 0)))

/-- The counts when the first i are as the mark says. -/
def bk (cs : List Cnt) (ms : List Int) (i : Nat) : List Cnt := cs.mapIdx fun j c => if j < i then (c.1, ms.getD j 0, c.2.2) else c

theorem bk_len (cs : List Cnt) (ms : List Int) (i : Nat) : (bk cs ms i).length = cs.length := by simp [bk]
theorem bk_zero (cs : List Cnt) (ms : List Int) : bk cs ms 0 = cs := by
  apply List.ext_getElem
  · simp [bk]
  · intro j h1 h2; simp [bk]
theorem bk_get (cs : List Cnt) (ms : List Int) (i j : Nat) (h : j < cs.length) : (bk cs ms i)[j]'(by rw [bk_len]; exact h) = if j < i then (cs[j].1, ms.getD j 0, cs[j].2.2) else cs[j] := by simp [bk]
theorem bk_succ (cs : List Cnt) (ms : List Int) (i : Nat) (h : i < cs.length) : (bk cs ms i).set i (cs[i].1, ms.getD i 0, cs[i].2.2) = bk cs ms (i + 1) := by
  apply List.ext_getElem
  · simp [bk]
  · intro j h1 h2
    have hj : j < cs.length := by simpa [bk] using h2
    rw [List.getElem_set, bk_get cs ms (i + 1) j hj]
    split
    · rename_i e; subst e; simp
    · rw [bk_get cs ms i j hj]
      have : j < i ↔ j < i + 1 := by omega
      simp [this]

/-- May the mark be gone back to, as far as the first i? -/
def okB (cs : List Cnt) (ms : List Int) (i : Nat) : Prop := ∀ j (h : j < cs.length), j < i → 0 ≤ ms.getD j 0 ∧ ms.getD j 0 ≤ cs[j].2.1

theorem Tch.set {g : Nat} {w W : World} (h : Tch g w W) (o : Nat) (v : Value) : Tch g w (W.setCell ⟨g, o, none⟩ v) :=
  h.trans ⟨rfl, rfl, rfl, by simp [World.setCell], fun k _ hn => Below.heap_setCell _ _ _ k hn⟩
theorem Tch.drewN {g : Nat} {w W : World} (h : Tch g w W) (q : Nat) : Tch g w (W.drewN q) := ⟨h.os, h.tape, h.output, h.size, h.block⟩

set_option maxHeartbeats 1000000 in
theorem back1_any (g Bm : Nat) (v : Value) (cs : List Cnt) (ms : List Int) (w : World) (hc : CAt w g cs) (hgood : Good cs) (cm : w.cell? ⟨Bm, 0, none⟩ = some v) (hv : Ints w v ms) (hl : ms.length = cs.length) (hfar : ∀ b, v.ownBlock = some b → b ≠ g) :
    Calls Try.prog 34 #[.slice (some ⟨g, 0, none⟩) cs.length cs.length, .pointer (some ⟨Bm, 0, none⟩)] w fun e w' =>
      (e = .returned (.int .i64 0) ∧ okB cs ms cs.length ∧ CAt w' g (bk cs ms cs.length) ∧ Tch g w w') ∨ (e = .returned (.int .i64 1) ∧ ¬ okB cs ms cs.length ∧ Tch g w w') := by
  obtain ⟨p, c, rfl, hpc, hcm, hx⟩ := hv
  obtain ⟨b, o, rfl, hcell⟩ := hx (by have := hgood.pos; omega)
  have hbg := hfar b rfl
  have HG : Hid (Good cs) := hgood
  have hlen := hgood.len
  have HC : Hid (∀ i, i < ms.length → w.cell? ⟨b, o + i, none⟩ = some (.int .i64 (ms.getD i 0))) := hcell
  have H0 : Hid (CAt w g cs) := hc
  clear hc hgood hfar hcell hx
  rw [hl] at hpc cm
  go_enter Try.func34, Try.ntmps34
  go_wp2
  go_loopw [8] (fun ii wr => ∃ i : Nat, ii = .int .i64 i ∧ i ≤ cs.length ∧ okB cs ms i ∧ CAt wr g (bk cs ms i) ∧ Tch g w wr) (fun ii _ => cs.length - (intOf ii).toNat)
  case atStart => exact ⟨0, rfl, Nat.zero_le _, fun j _ h => by omega, by rw [bk_zero]; exact H0.out, Tch.refl _ _⟩
  case round =>
    obtain ⟨i, rfl, hi, hok, hcw, htw⟩ := hrel
    by_cases hlt : i < cs.length
    · have hci : wr.cell? ⟨b, o + i, none⟩ = some (.int .i64 (ms.getD i 0)) := (World.cell?_of_block (w := w) (htw.block b (World.block_lt_of_cell? w _ (HC.out i (by omega))) hbg)).trans (HC.out i (by omega))
      have hy := (hcw.cell (k := i) (by rw [bk_len]; exact hlt)).2.1
      rw [bk_get cs ms i i hlt, if_neg (by omega)] at hy
      have hf := hcw.fr (i * 3 + 1)
      have hb := HG.out.each cs[i] (List.getElem_mem hlt)
      obtain ⟨U, hU⟩ : ∃ U, cs[i].2.1 = U := ⟨_, rfl⟩
      obtain ⟨m, hm⟩ : ∃ m, ms.getD i 0 = m := ⟨_, rfl⟩
      rw [hU] at hy hb
      rw [hm] at hci
      have H : Hid (cs[i].2.1 = U ∧ ms.getD i 0 = m ∧ okB cs ms i ∧ CAt wr g (bk cs ms i) ∧ Tch g w wr) := ⟨hU, hm, hok, hcw, htw⟩
      clear hU hm hok hcw htw
      by_cases hA : 0 ≤ m ∧ m ≤ U
      · obtain ⟨hA1, hA2⟩ := hA
        go_wp2
        go_roundw
        case rel =>
          obtain ⟨hU, hm, hok, hcw, htw⟩ := H.out
          refine ⟨i + 1, by go_num, by omega, fun j hj hji => ?_, ?_, htw.set _ _⟩
          · by_cases e : j = i
            · subst e; rw [hm, hU]; exact ⟨hA1, hA2⟩
            · exact hok j hj (by omega)
          · have := hcw.set1 (k := i) (by rw [bk_len]; exact hlt) m
            rw [bk_get cs ms i i hlt, if_neg (by omega), ← hm, bk_succ cs ms i hlt] at this
            rw [← hm]
            exact this
        case measure => simp [intOf]; omega
      · have HN : Hid (¬ okB cs ms cs.length) := fun h => hA (by
          have := h i hlt hlt
          rw [H.out.1, H.out.2.1] at this
          exact this)
        by_cases hm0 : m < 0
        · clear hA
          go_wp2
          go_ret
          exact .inr ⟨rfl, HN.out, H.out.2.2.2.2⟩
        · have hA' : U < m := by omega
          clear hA
          go_wp2
          go_ret
          exact .inr ⟨rfl, HN.out, H.out.2.2.2.2⟩
    · obtain rfl : i = cs.length := by omega
      have H : Hid (okB cs ms cs.length ∧ CAt wr g (bk cs ms cs.length) ∧ Tch g w wr) := ⟨hok, hcw, htw⟩
      clear hok hcw htw
      go_wp2
      go_ret
      exact .inl ⟨rfl, H.out.1, H.out.2.1, H.out.2.2⟩

theorem Try.info49 : (Try.prog.info? 49).map (fun i => (i.zero, i.size, i.bytes)) = some (some (.agg #[.int .i64 0, .int .i64 0, .int .i64 0]), 3, 24) := by kernel_rfl
theorem Try.info3 : (Try.prog.info? 3).map (fun i => (i.zero, i.size, i.bytes)) = some (some (.int .i64 0), 1, 8) := by kernel_rfl

/-- copy of counts into a new row. -/
theorem run_copy_cnt (w : World) (ty : TypeId) (g g' : Nat) (cs : List Cnt) (cur : Array Value) (hg' : w.heap[g']? = some (.cells cur 49 (0, 0))) (hs : cur.size = cs.length * 3) (hc : CAt w g cs) :
    (Builtin.copy_ #[47, 47] ty #[.slice (some ⟨g', 0, none⟩) cs.length cs.length, .slice (some ⟨g, 0, none⟩) cs.length cs.length]).run Try.prog w = .ok (goInt cs.length) (w.setRow g' (cflat cs).toArray) := by
  have hl := run_loadCells_list (P := Try.prog) w ⟨g, 0, none⟩ (cflat cs) (fun j v hj => by
    have : (⟨g, 0, none⟩ : Addr).add j = ⟨g, j, none⟩ := by unfold Addr.add; split <;> simp_all
    rw [this, cell_of_row w g j _ 49 (0, 0) hc]; simpa using hj)
  have h1 : ∀ v ∈ cflat cs, v.oneCell' = true := by
    intro v hv
    simp only [cflat, List.mem_flatMap] at hv
    obtain ⟨c, _, h⟩ := hv
    simp at h
    rcases h with h | h | h <;> subst h <;> rfl
  have hst := run_storeCells_at Try.prog g' 0 49 (cflat cs) 0 cur w hg' (by rw [cflat_len, hs]; omega) h1
  have he : (cur.toList.take (0 + 0) ++ cflat cs ++ cur.toList.drop (0 + 0 + (cflat cs).length)).toArray = (cflat cs).toArray := by
    rw [List.drop_eq_nil_of_le (by rw [cflat_len, Array.length_toList, hs]; omega)]; simp
  rw [he] at hst
  obtain ⟨i0, hi, hz0, hz1, hz2⟩ := info_parts Try.info49
  rw [cflat_len] at hl
  have hmin : Nat.min cs.length cs.length = cs.length := Nat.min_self _
  simp [Builtin.copy_, run_underlying Try.underlying47, Builtin.lenOf, Builtin.firstCells, sizeOf, typeInfo, hi, hz1, hl, hst, hmin]

end Go.Proofs.Ytiaebahmbgmajaa
