/-
  The walks of the document's Back, of Mark and Back.
-/
import Derived.Test.YtiaebahmbgmajaaK
namespace Go.Proofs.Ytiaebahmbgmajaa
open Go.RowKit

/-- What Back answers, and what it leaves. -/
def BackR (cs : List Cnt) (ms : List Int) (E : Int) (cs' : List Cnt) : Prop :=
  (E = 0 ∧ ms.length = cs.length ∧ okB cs ms cs.length ∧ cs' = bk cs ms cs.length) ∨ (E = 1 ∧ ¬ (ms.length = cs.length ∧ okB cs ms cs.length) ∧ cs' = cs)

theorem backR_any (cs : List Cnt) (ms : List Int) : ∃ E cs', BackR cs ms E cs' := by
  by_cases h : ms.length = cs.length ∧ okB cs ms cs.length
  · exact ⟨_, _, .inl ⟨rfl, h.1, h.2, rfl⟩⟩
  · exact ⟨_, _, .inr ⟨rfl, h, rfl⟩⟩

theorem Good.bk {cs : List Cnt} (h : Good cs) (ms : List Int) (ho : okB cs ms cs.length) : Good (bk cs ms cs.length) := by
  refine ⟨by rw [bk_len]; exact h.pos, by rw [bk_len]; exact h.len, fun c hc => ?_⟩
  obtain ⟨j, hj, rfl⟩ := List.getElem_of_mem hc
  rw [bk_len] at hj
  obtain ⟨b1, b2, b3, b4⟩ := h.each cs[j] (List.getElem_mem hj)
  have := ho j hj hj
  rw [bk_get cs ms _ j hj, if_pos hj]
  simp only
  omega
theorem Good.backR {cs cs' : List Cnt} {ms : List Int} {E : Int} (h : Good cs) (hr : BackR cs ms E cs') : Good cs' := by
  rcases hr with ⟨_, _, ho, rfl⟩ | ⟨_, _, rfl⟩
  · exact h.bk ms ho
  · exact h

theorem bk_map {cs : List Cnt} {ms : List Int} (hl : ms.length = cs.length) : (bk cs ms cs.length).map (·.1) = cs.map (·.1) ∧ (bk cs ms cs.length).map (·.2.1) = ms ∧ (bk cs ms cs.length).map (·.2.2) = cs.map (·.2.2) := by
  refine ⟨?_, ?_, ?_⟩
  · apply List.ext_getElem
    · simp [bk_len]
    · intro j h1 h2
      have hj : j < cs.length := by simpa using h2
      rw [List.getElem_map, List.getElem_map, bk_get cs ms _ j hj, if_pos hj]
  · apply List.ext_getElem
    · simp [bk_len, hl]
    · intro j h1 h2
      have hj : j < cs.length := by omega
      rw [List.getElem_map, bk_get cs ms _ j hj, if_pos hj, List.getD_eq_getElem?_getD, List.getElem?_eq_getElem h2]
      rfl
  · apply List.ext_getElem
    · simp [bk_len]
    · intro j h1 h2
      have hj : j < cs.length := by simpa using h2
      rw [List.getElem_map, List.getElem_map, bk_get cs ms _ j hj, if_pos hj]

set_option maxHeartbeats 400000 in
theorem rback_len (r : RL) (cs : List Cnt) (v : Value) (ms : List Int) (w : World) (h : Ref w r cs) (hv : Ints w v ms) (hl : ms.length ≠ cs.length) : Calls Try.prog 24 #[.pointer (some ⟨r.Br, 0, none⟩), v] w fun e w' => e = .returned (.int .i64 1) ∧ w' = w := by
  obtain ⟨p, c, rfl, _, _, _⟩ := hv
  have c0 := h.c0
  clear h
  have hl' : ((ms.length : Int) == (cs.length : Int)) = false := beq_false_of_ne (by omega)
  go_enter Try.func24, Try.ntmps24
  go_wp2
  go_ret
  exact ⟨rfl, rfl⟩

/-- The new row of Back. -/
theorem empty_row (w : World) (B : Nat) (hB : B ≤ w.heap.size) : (w.alloc (.cells #[] 3)).ownsRow B 3 1 (.slice (some ⟨w.heap.size, 0, none⟩) 0 0) 0 [] :=
  ⟨rfl, .inr ⟨w.heap.size, 0, #[], rfl, hB, heap_alloc_new w _, Nat.le_refl _, Nat.zero_le _, rfl, rfl⟩⟩

theorem ints_new {w : World} {b o : Nat} {ms : List Int} (h : ∀ i, i < ms.length → w.cell? ⟨b, o + i, none⟩ = some (.int .i64 (ms.getD i 0))) (ob : Obj) (q : Nat) :
    ∀ j u, (ms.map (Value.int .i64))[j]? = some u → ((w.drewN q).alloc ob).cell? ((⟨b, o, none⟩ : Addr).add j) = some u := by
  intro j u hj
  rw [List.getElem?_map] at hj
  cases hq : ms[j]? with
  | none => rw [hq] at hj; cases hj
  | some x =>
    have hlt : j < ms.length := (List.getElem?_eq_some_iff.1 hq).1
    have hc := h j hlt
    rw [addr_add, World.cell?_of_block (w := w.drewN q) (Below.heap_alloc _ _ _ (World.block_lt_of_cell? w _ hc))]
    rw [hq] at hj
    rw [List.getD_eq_getElem?_getD, hq] at hc
    exact hc.trans (by simpa using hj)
theorem ints_one (ms : List Int) : ∀ u ∈ ms.map (Value.int .i64), u.oneCell' = true := by
  intro u hu
  obtain ⟨_, _, rfl⟩ := List.mem_map.1 hu
  rfl

theorem back_mid {w w1 : World} {q n Br : Nat} {v' : Value} {xs : List Value} (h2 : w1.ownsRow w.heap.size 3 1 v' (0 + n) ([] ++ xs)) (h3 : ((w.drewN q).alloc (.cells #[] 3)).grownBy w1 (Value.slice (some ⟨(w.drewN q).heap.size, 0, none⟩) 0 0).ownBlock) (hlt : Br < w.heap.size) :
    w1.ownsRow w.heap.size 3 1 v' n xs ∧ Below w.heap.size w w1 ∧ w1.heap[Br]? = w.heap[Br]? := by
  have hs : ((w.drewN q).alloc (.cells #[] 3)).heap.size = w.heap.size + 1 := by rw [World.size_alloc]; rfl
  have hb : Below w.heap.size w w1 := by
    refine ⟨h3.os, h3.tape, h3.output, by have := h3.size; omega, fun k hk => ?_⟩
    rw [h3.block k (by omega) (by intro e; simp [Value.ownBlock] at e; have : k = w.heap.size := e; omega)]
    exact Below.heap_alloc (w.drewN q) _ k hk
  rw [Nat.zero_add, List.nil_append] at h2
  exact ⟨h2, hb, hb.block Br hlt⟩

set_option maxHeartbeats 1000000 in
theorem rback_walk (Br gl gu gp cl cu cp : Nat) (cs : List Cnt) (v : Value) (ms : List Int) (w : World) (h : Ref w ⟨Br, gl, gu, gp, cl, cu, cp⟩ cs) (hv : Ints w v ms) (hl : ms.length = cs.length) :
    Calls Try.prog 24 #[.pointer (some ⟨Br, 0, none⟩), v] w fun e w' =>
      (e = .returned (.int .i64 1) ∧ ¬ okB cs ms cs.length ∧ Below w.heap.size w w') ∨
      (e = .returned (.int .i64 0) ∧ okB cs ms cs.length ∧ ∃ (v' : Value) (w1 : World), w1.ownsRow w.heap.size 3 1 v' ms.length (ms.map (Value.int .i64)) ∧ Below w.heap.size w w1 ∧ w' = w1.setCell ⟨Br, 1, none⟩ v') := by
  obtain ⟨p, c, rfl, hpc, hcm, hx⟩ := hv
  obtain ⟨b, o, rfl, hcell⟩ := hx (by have := h.good.pos; omega)
  have c0 := h.c0
  have c1 := h.c1
  have fr1 := h.fr 1
  have hlt := h.lt
  have HR : Hid (Ref w ⟨Br, gl, gu, gp, cl, cu, cp⟩ cs) := h
  have HC : Hid (∀ i, i < ms.length → w.cell? ⟨b, o + i, none⟩ = some (.int .i64 (ms.getD i 0))) := hcell
  have hp := h.good.pos
  have h16 := h.good.len
  clear hx hcell h
  rw [hl] at hpc ⊢
  simp only at c0 c1 fr1 hlt
  obtain ⟨i0, hi, hz0, hz1, hz2⟩ := info_parts Try.info3
  go_enter Try.func24, Try.ntmps24
  go_wp2
  go_loopw [5] (fun ii wr => ∃ i q : Nat, ii = .int .i64 i ∧ i ≤ cs.length ∧ okB cs ms i ∧ wr = w.drewN q) (fun ii _ => cs.length - (intOf ii).toNat)
  case atStart => exact ⟨0, 0, rfl, Nat.zero_le _, fun j _ h => by omega, rfl⟩
  case round =>
    obtain ⟨i, q, rfl, hi', hok, hwr⟩ := hrel
    subst hwr
    by_cases hlt2 : i < cs.length
    · have hci := HC.out i (by omega)
      have hu := HR.out.uc hlt2
      have hb := HR.out.good.each cs[i] (List.getElem_mem hlt2)
      obtain ⟨U, hU⟩ : ∃ U, cs[i].2.1 = U := ⟨_, rfl⟩
      obtain ⟨m, hm⟩ : ∃ m, ms.getD i 0 = m := ⟨_, rfl⟩
      rw [hU] at hu hb
      rw [hm] at hci
      simp only at hu
      have H : Hid (cs[i].2.1 = U ∧ ms.getD i 0 = m ∧ okB cs ms i) := ⟨hU, hm, hok⟩
      clear hU hm hok
      by_cases hA : 0 ≤ m ∧ m ≤ U
      · obtain ⟨hA1, hA2⟩ := hA
        go_wp2
        go_quiet (fail)
        go_wp2
        go_roundw
        case rel =>
          obtain ⟨hU, hm, hok⟩ := H.out
          refine ⟨i + 1, _, by go_num, by omega, fun j hj hji => ?_, rfl⟩
          by_cases e : j = i
          · subst e; rw [hm, hU]; exact ⟨hA1, hA2⟩
          · exact hok j hj (by omega)
        case measure => simp [intOf]; omega
      · have HN : Hid (¬ okB cs ms cs.length) := fun h => hA (by
          have := h i hlt2 hlt2
          rw [H.out.1, H.out.2.1] at this
          exact this)
        by_cases hm0 : m < 0
        · clear hA
          go_wp2
          go_quiet (fail)
          go_wp2
          go_ret
          exact .inl ⟨rfl, HN.out, rfl, rfl, rfl, Nat.le_refl _, fun _ _ => rfl⟩
        · have hA' : U < m := by omega
          clear hA
          go_wp2
          go_quiet (fail)
          go_wp2
          go_ret
          exact .inl ⟨rfl, HN.out, rfl, rfl, rfl, Nat.le_refl _, fun _ _ => rfl⟩
    · have hie : i = cs.length := by omega
      have H : Hid (okB cs ms cs.length) := by rw [← hie]; exact hok
      clear hok hie
      go_wp2_with (at_builtin; refine wpList_append_own_at _ rfl _ _ 25 rfl w.heap.size 3 i0 (.int .i64 0) 1 8 Try.underlying25 hi hz0 hz1 hz2 rfl (by decide) _ _ _ rfl (empty_row (w.drewN q) w.heap.size (Nat.le_refl _)) ⟨b, o, none⟩ cs.length c (ms.map (Value.int .i64)) rfl (by simp [hl]) (ints_new HC.out (.cells #[] 3) q) (ints_one ms) (by unfold maxLen; omega) (by omega) (by simp) ?_; intro v' w1 h2 h3 h4 h5; have HB : Hid (w1.ownsRow w.heap.size 3 1 v' cs.length (ms.map (Value.int .i64)) ∧ Below w.heap.size w w1 ∧ w1.heap[Br]? = w.heap[Br]?) := back_mid h2 h3 hlt; obtain ⟨ta', tc', hv', _⟩ := row_form HB.out.1; subst hv'; have c1' := (World.cell?_of_block (a := ⟨Br, 1, none⟩) HB.out.2.2).trans c1; have f1' := (World.frozen?_of_block (a := ⟨Br, 1, none⟩) HB.out.2.2).trans fr1; clear h2 h3 h4 h5)
      go_ret
      exact .inr ⟨rfl, H.out, _, w1, HB.out.1, HB.out.2.1, rfl⟩

theorem Ref.below {W W' : World} {r : RL} {cs : List Cnt} (h : Ref W r cs) (hb : Below W.heap.size W W') : Ref W' r cs :=
  ⟨(hb.block _ h.lt).trans h.acc, h.rl.same (hb.block _ h.rl.lt), h.ru.same (hb.block _ h.ru.lt), h.rp.same (hb.block _ h.rp.lt), h.d1, h.d2, h.d3, h.good⟩

theorem Ref.backed {w w1 : World} {r : RL} {cs : List Cnt} {ms : List Int} {v' : Value} (h : Ref w r cs) (hl : ms.length = cs.length) (hok : okB cs ms cs.length) (hr : w1.ownsRow w.heap.size 3 1 v' ms.length (ms.map (Value.int .i64))) (hb : Below w.heap.size w w1) :
    ∃ g c, w.heap.size ≤ g ∧ Ref (w1.setCell ⟨r.Br, 1, none⟩ v') { r with gu := g, cu := c } (bk cs ms cs.length) := by
  obtain ⟨g, c, rfl, hg, _, hI⟩ := IntRow.of_owns hr (by have := h.good.pos; omega)
  have h1 := h.below hb
  have hlt := h.lt
  have hl1 := h.rl.lt
  have hp1 := h.rp.lt
  obtain ⟨m1, m2, m3⟩ := bk_map (cs := cs) (ms := ms) hl
  refine ⟨g, c, hg, ?_, ?_, ?_, ?_, by simp only; omega, h.d2, by simp only; omega, h.good.bk ms hok⟩
  · rw [bk_len]
    show (w1.setCell ⟨r.Br, 1, none⟩ _).heap[r.Br]? = _
    rw [setCell_eq_setRow w1 r.Br 1 _ 40 (0, 0) _ h1.acc, setRow_heap w1 r.Br _ _ 40 (0, 0) h1.acc, hl]
    simp
  · rw [m1]; exact h1.rl.same (Below.heap_setCell _ _ _ _ (h1.rl.ne h1.acc (by decide)))
  · rw [m2]; exact hI.same (Below.heap_setCell _ _ _ _ (hI.ne h1.acc (by decide)))
  · rw [m3]; exact h1.rp.same (Below.heap_setCell _ _ _ _ (h1.rp.ne h1.acc (by decide)))

theorem rback_any (r : RL) (cs cs' : List Cnt) (v : Value) (ms : List Int) (E : Int) (w : World) (h : Ref w r cs) (hv : Ints w v ms) (hE : BackR cs ms E cs') :
    Calls Try.prog 24 #[.pointer (some ⟨r.Br, 0, none⟩), v] w fun e w' => e = .returned (.int .i64 E) ∧ Only [r.Br] w w' ∧ ∃ g c, (g = r.gu ∨ w.heap.size ≤ g) ∧ Ref w' { r with gu := g, cu := c } cs' := by
  by_cases hl : ms.length = cs.length
  · obtain ⟨Br, gl, gu, gp, cl, cu, cp⟩ := r
    refine (rback_walk Br gl gu gp cl cu cp cs v ms w h hv hl).mono ?_
    rintro e w' (⟨rfl, hno, hb⟩ | ⟨rfl, hok, v', w1, hr, hb, rfl⟩)
    · rcases hE with ⟨_, _, ho, _⟩ | ⟨rfl, _, rfl⟩
      · exact absurd ho hno
      · exact ⟨rfl, Only.of_below hb, gu, cu, .inl rfl, h.below hb⟩
    · rcases hE with ⟨rfl, _, _, rfl⟩ | ⟨_, hn, _⟩
      · obtain ⟨g, c, hg, hR⟩ := h.backed hl hok hr hb
        exact ⟨rfl, (Only.of_below hb).set (by simp) _ _, g, c, .inr hg, hR⟩
      · exact absurd ⟨hl, hok⟩ hn
  · refine (rback_len r cs v ms w h hv hl).mono ?_
    rintro e w' ⟨rfl, rfl⟩
    rcases hE with ⟨_, hl', _⟩ | ⟨rfl, _, rfl⟩
    · exact absurd hl' hl
    · exact ⟨rfl, Only.refl _ _, r.gu, r.cu, .inl rfl, h⟩

end Go.Proofs.Ytiaebahmbgmajaa
