/-
  Both accounts together: what each call leaves.
-/
import Derived.Test.YtiaebahmbgmajaaO
namespace Go.Proofs.Ytiaebahmbgmajaa
open Go.RowKit

theorem rnew_bad (v : Value) (xs : List Int) (w : World) (hv : Ints w v xs) (hfit : ∀ x ∈ xs, x ≤ 9223372036854775807) (h : ¬ newOk xs) :
    Calls Try.prog 16 #[v] w fun e w' => e = .returned (.pointer none) ∧ w' = w := by
  by_cases hl : xs.length = 0 ∨ 16 < xs.length
  · exact rnew_len v xs w hv hl
  · refine (rnew_walk v xs w hv (by omega) (by omega) hfit).mono ?_
    rintro e w' (⟨rfl, _, rfl⟩ | ⟨r, rfl, hall, _⟩)
    · exact ⟨rfl, rfl⟩
    · exact absurd ⟨by omega, by omega, hall⟩ h
theorem rnew_good (v : Value) (xs : List Int) (w : World) (hv : Ints w v xs) (hfit : ∀ x ∈ xs, x ≤ 9223372036854775807) (h : newOk xs) :
    Calls Try.prog 16 #[v] w fun e w' => ∃ r : RL, e = .returned (.pointer (some ⟨r.Br, 0, none⟩)) ∧ Ref w' r (xs.map fun l => (l, 0, 0)) ∧ Below w.heap.size w w' ∧ w.heap.size ≤ r.Br ∧ w.heap.size ≤ r.gl ∧ w.heap.size ≤ r.gu ∧ w.heap.size ≤ r.gp := by
  refine (rnew_walk v xs w hv h.1 h.2.1 hfit).mono ?_
  rintro e w' (⟨rfl, ⟨x, hx, hn⟩, _⟩ | ⟨r, rfl, _, hr⟩)
  · have := h.2.2 x hx; omega
  · exact ⟨r, rfl, hr⟩

/-- The last mark: a row of its own. -/
def Mrk (W : World) (r : RL) (B : Nat) (mv : Value) (ms : List Int) : Prop :=
  ∃ gm cm, mv = .slice (some ⟨gm, 0, none⟩) ms.length cm ∧ IntRow W gm cm ms ∧ gm ≠ r.gu ∧ gm ≠ r.gp ∧ B ≤ gm

/-- Both accounts, the last mark, and the variable of the round. -/
structure St (w0 : World) (Ba Br : Nat) (ca cr : List Cnt) (mv : Value) (ms : List Int) (Bo : Nat) (ov : Option (Array Value)) (W : World) : Prop where
  acc : ∃ g, Acc W Ba g ca
  rf : ∃ r : RL, r.Br = Br ∧ Ref W r cr ∧ w0.heap.size ≤ r.gu ∧ w0.heap.size ≤ r.gp ∧ Mrk W r w0.heap.size mv ms
  below : Below w0.heap.size w0 W
  fa : w0.heap.size ≤ Ba
  fb : w0.heap.size ≤ Br
  ob : ∀ a, ov = some a → W.heap[Bo]? = some (.cells a 34 (0, 0))

/-- Worlds that differ in what was drawn alone. -/
def Alk (w w' : World) : Prop := w'.heap = w.heap ∧ w'.os = w.os ∧ w'.tape = w.tape ∧ w'.output = w.output

theorem ne_of_types {W : World} {a b s t : Nat} {x y : Array Value} {fr fr' : Nat × Nat} (ha : W.heap[a]? = some (.cells x s fr)) (hb : W.heap[b]? = some (.cells y t fr')) (h : s ≠ t) : a ≠ b := by
  intro e
  subst e
  rw [ha] at hb
  simp at hb
  exact h hb.2.1

theorem Ref.same {W W' : World} {r : RL} {cs : List Cnt} (h : Ref W r cs) (hb : ∀ k, k = r.Br ∨ k = r.gl ∨ k = r.gu ∨ k = r.gp → W'.heap[k]? = W.heap[k]?) : Ref W' r cs :=
  ⟨(hb _ (.inl rfl)).trans h.acc, h.rl.same (hb _ (.inr (.inl rfl))), h.ru.same (hb _ (.inr (.inr (.inl rfl)))), h.rp.same (hb _ (.inr (.inr (.inr rfl)))), h.d1, h.d2, h.d3, h.good⟩
theorem Acc.same {W W' : World} {Ba g : Nat} {cs : List Cnt} (h : Acc W Ba g cs) (h1 : W'.heap[Ba]? = W.heap[Ba]?) (h2 : W'.heap[g]? = W.heap[g]?) : Acc W' Ba g cs := ⟨h1.trans h.acc, h2.trans h.cnt, h.good⟩

theorem lt_of_get {W : World} {k : Nat} {o : Obj} (h : W.heap[k]? = some o) : k < W.heap.size := (Array.getElem?_eq_some_iff.1 h).1

theorem St.of_below {w0 : World} {Ba Br : Nat} {ca cr : List Cnt} {mv : Value} {ms : List Int} {Bo : Nat} {ov : Option (Array Value)} {W W' : World} (h : St w0 Ba Br ca cr mv ms Bo ov W) (hb : Below W.heap.size W W') : St w0 Ba Br ca cr mv ms Bo ov W' := by
  obtain ⟨g, ha⟩ := h.acc
  obtain ⟨r, e, hr, h1, h2, gm, cm, e2, hm, m1, m2, m3⟩ := h.rf
  exact ⟨⟨g, ha.same (hb.block _ ha.acc.lt) (hb.block _ ha.cnt.lt)⟩, ⟨r, e, hr.below hb, h1, h2, gm, cm, e2, hm.same (hb.block _ hm.lt), m1, m2, m3⟩, h.below.trans (hb.mono h.below.size), h.fa, h.fb, fun a ho => (hb.block _ (lt_of_get (h.ob a ho))).trans (h.ob a ho)⟩
theorem St.alk {w0 : World} {Ba Br : Nat} {ca cr : List Cnt} {mv : Value} {ms : List Int} {Bo : Nat} {ov : Option (Array Value)} {W W' : World} (h : St w0 Ba Br ca cr mv ms Bo ov W) (ha : Alk W W') : St w0 Ba Br ca cr mv ms Bo ov W' :=
  h.of_below ⟨ha.2.1, ha.2.2.1, ha.2.2.2, by rw [ha.1]; exact Nat.le_refl _, fun k _ => by rw [ha.1]⟩
theorem St.alloc {w0 : World} {Ba Br : Nat} {ca cr : List Cnt} {mv : Value} {ms : List Int} {Bo : Nat} {ov : Option (Array Value)} {W : World} (h : St w0 Ba Br ca cr mv ms Bo ov W) (o : Obj) : St w0 Ba Br ca cr mv ms Bo ov (W.alloc o) := h.of_below (one_below W o)

theorem St.of_tch {w0 : World} {Ba Br g : Nat} {ca ca' cr : List Cnt} {mv : Value} {ms : List Int} {Bo : Nat} {ov : Option (Array Value)} {W W' : World} (h : St w0 Ba Br ca cr mv ms Bo ov W) (ht : Tch Ba W W') (ha' : Acc W' Ba g ca') : St w0 Ba Br ca' cr mv ms Bo ov W' := by
  obtain ⟨g0, ha⟩ := h.acc
  obtain ⟨r, e, hr, h1, h2, gm, cm, e2, hm, m1, m2, m3⟩ := h.rf
  refine ⟨⟨g, ha'⟩, ⟨r, e, hr.same (fun k hk => ?_), h1, h2, gm, cm, e2, hm.same (ht.block _ hm.lt (hm.ne ha.acc (by decide))), m1, m2, m3⟩, h.below.trans (ht.below h.fa ha.acc.lt), h.fa, h.fb, fun a ho => (ht.block _ (lt_of_get (h.ob a ho)) (ne_of_types (h.ob a ho) ha.acc (by decide))).trans (h.ob a ho)⟩
  rcases hk with rfl | rfl | rfl | rfl
  · exact ht.block _ hr.lt (ne_of_types hr.acc ha.acc (by decide))
  · exact ht.block _ hr.rl.lt (hr.rl.ne ha.acc (by decide))
  · exact ht.block _ hr.ru.lt (hr.ru.ne ha.acc (by decide))
  · exact ht.block _ hr.rp.lt (hr.rp.ne ha.acc (by decide))

theorem st_take {w0 : World} {Ba Br : Nat} {ca cr : List Cnt} {mv : Value} {ms : List Int} {Bo : Nat} {ov : Option (Array Value)} {W0 : World} (W : World) (k n : Int) (h : St w0 Ba Br ca cr mv ms Bo ov W0) (ha : Alk W0 W) :
    Calls Try.prog 17 #[.pointer (some ⟨Ba, 0, none⟩), .int .i64 k, .int .i64 n] W fun e W' => e = .returned (.int .i64 (takeE ca k n)) ∧ St w0 Ba Br (takeC ca k n) cr mv ms Bo ov W' := by
  have h := h.alk ha
  obtain ⟨g, hacc⟩ := h.acc
  refine (take_any Ba g k n ca W hacc).mono ?_
  rintro e W' ⟨rfl, ht, g', ha'⟩
  exact ⟨rfl, h.of_tch ht ha'⟩
theorem st_give {w0 : World} {Ba Br : Nat} {ca cr : List Cnt} {mv : Value} {ms : List Int} {Bo : Nat} {ov : Option (Array Value)} {W0 : World} (W : World) (k n : Int) (hn : Fit n) (h : St w0 Ba Br ca cr mv ms Bo ov W0) (ha : Alk W0 W) :
    Calls Try.prog 19 #[.pointer (some ⟨Ba, 0, none⟩), .int .i64 k, .int .i64 n] W fun e W' => e = .returned (.tuple #[]) ∧ St w0 Ba Br (giveC ca k n) cr mv ms Bo ov W' := by
  have h := h.alk ha
  obtain ⟨g, hacc⟩ := h.acc
  refine (give_any Ba g k n ca W hacc hn).mono ?_
  rintro e W' ⟨rfl, ht, g', ha'⟩
  exact ⟨rfl, h.of_tch ht ha'⟩
theorem st_back {w0 : World} {Ba Br : Nat} {ca ca' cr : List Cnt} {mv : Value} {ms : List Int} {Bo : Nat} {ov : Option (Array Value)} {W0 : World} (W : World) (v : Value) (ls : List Int) (E : Int) (hv : Ints W0 v ls) (hE : BackR ca ls E ca') (h : St w0 Ba Br ca cr mv ms Bo ov W0) (ha : Alk W0 W) :
    Calls Try.prog 23 #[.pointer (some ⟨Ba, 0, none⟩), v] W fun e W' => e = .returned (.int .i64 E) ∧ St w0 Ba Br ca' cr mv ms Bo ov W' := by
  have h := h.alk ha
  have hv : Ints W v ls := by
    obtain ⟨p, c, rfl, h1, h2, hx⟩ := hv
    exact ⟨p, c, rfl, h1, h2, fun hp => by
      obtain ⟨b, o, rfl, hc⟩ := hx hp
      exact ⟨b, o, rfl, fun i hi => (World.cell?_of_block (w := W0) (by rw [ha.1])).trans (hc i hi)⟩⟩
  obtain ⟨g, hacc⟩ := h.acc
  refine (back_any Ba g ca ca' v ls E W hacc hv hE).mono ?_
  rintro e W' ⟨rfl, ht, g', ha'⟩
  exact ⟨rfl, h.of_tch ht ha'⟩

theorem St.of_only {w0 : World} {Ba Br : Nat} {ca cr cr' : List Cnt} {mv : Value} {ms : List Int} {Bo : Nat} {ov : Option (Array Value)} {W W' : World} (h : St w0 Ba Br ca cr mv ms Bo ov W) {r : RL} (e : r.Br = Br) (hr : Ref W r cr) (h1 : w0.heap.size ≤ r.gu) (h2 : w0.heap.size ≤ r.gp) (hm : Mrk W r w0.heap.size mv ms) (ho : Only [r.gu, r.gp] W W') (hr' : Ref W' r cr') : St w0 Ba Br ca cr' mv ms Bo ov W' := by
  obtain ⟨g, ha⟩ := h.acc
  obtain ⟨gm, cm, e2, hm, m1, m2, m3⟩ := hm
  have hne : ∀ {b s : Nat} {y : Array Value} {fr : Nat × Nat}, W.heap[b]? = some (.cells y s fr) → s ≠ 3 → b ∉ [r.gu, r.gp] := by
    intro b s y fr hb hs hmem
    simp only [List.mem_cons, List.not_mem_nil, or_false] at hmem
    rcases hmem with e | e
    · exact hr.ru.ne hb hs e.symm
    · exact hr.rp.ne hb hs e.symm
  have hsz := h.below.size
  exact ⟨⟨g, ha.same (ho.block _ ha.acc.lt (hne ha.acc (by decide))) (ho.block _ ha.cnt.lt (hne ha.cnt (by decide)))⟩, ⟨r, e, hr', h1, h2, gm, cm, e2, hm.same (ho.block _ hm.lt (by simp [m1, m2])), m1, m2, m3⟩, h.below.trans (ho.below (by simp [h1, h2]) hsz), h.fa, h.fb, fun a hoo => (ho.block _ (lt_of_get (h.ob a hoo)) (hne (h.ob a hoo) (by decide))).trans (h.ob a hoo)⟩

theorem st_rtake {w0 : World} {Ba Br : Nat} {ca cr : List Cnt} {mv : Value} {ms : List Int} {Bo : Nat} {ov : Option (Array Value)} {W0 : World} (W : World) (k n : Int) (h : St w0 Ba Br ca cr mv ms Bo ov W0) (ha : Alk W0 W) :
    Calls Try.prog 18 #[.pointer (some ⟨Br, 0, none⟩), .int .i64 k, .int .i64 n] W fun e W' => e = .returned (.int .i64 (takeE cr k n)) ∧ St w0 Ba Br ca (takeC cr k n) mv ms Bo ov W' := by
  have h := h.alk ha
  obtain ⟨r, e, hr, h1, h2, hm⟩ := h.rf
  rw [← e]
  refine (rtake_any r cr k n W hr).mono ?_
  rintro e' W' ⟨rfl, ho, hr'⟩
  rw [e]
  exact ⟨rfl, h.of_only e hr h1 h2 hm ho hr'⟩
theorem st_rgive {w0 : World} {Ba Br : Nat} {ca cr : List Cnt} {mv : Value} {ms : List Int} {Bo : Nat} {ov : Option (Array Value)} {W0 : World} (W : World) (k n : Int) (hn : Fit n) (h : St w0 Ba Br ca cr mv ms Bo ov W0) (ha : Alk W0 W) :
    Calls Try.prog 20 #[.pointer (some ⟨Br, 0, none⟩), .int .i64 k, .int .i64 n] W fun e W' => e = .returned (.tuple #[]) ∧ St w0 Ba Br ca (giveC cr k n) mv ms Bo ov W' := by
  have h := h.alk ha
  obtain ⟨r, e, hr, h1, h2, hm⟩ := h.rf
  rw [← e]
  refine (rgive_any r cr k n W hr hn).mono ?_
  rintro e' W' ⟨rfl, ho, hr'⟩
  rw [e]
  exact ⟨rfl, h.of_only e hr h1 h2 hm ho hr'⟩
theorem st_rback {w0 : World} {Ba Br : Nat} {ca cr cr' : List Cnt} {mv : Value} {ms : List Int} {Bo : Nat} {ov : Option (Array Value)} {W0 : World} (W : World) (v : Value) (ls : List Int) (E : Int) (hv : Ints W0 v ls) (hE : BackR cr ls E cr') (h : St w0 Ba Br ca cr mv ms Bo ov W0) (ha : Alk W0 W) :
    Calls Try.prog 24 #[.pointer (some ⟨Br, 0, none⟩), v] W fun e W' => e = .returned (.int .i64 E) ∧ St w0 Ba Br ca cr' mv ms Bo ov W' := by
  have h := h.alk ha
  have hv : Ints W v ls := by
    obtain ⟨p, c, rfl, h1, h2, hx⟩ := hv
    exact ⟨p, c, rfl, h1, h2, fun hp => by
      obtain ⟨b, o, rfl, hc⟩ := hx hp
      exact ⟨b, o, rfl, fun i hi => (World.cell?_of_block (w := W0) (by rw [ha.1])).trans (hc i hi)⟩⟩
  obtain ⟨r, e, hr, h1, h2, gm, cm, e2, hm, m1, m2, m3⟩ := h.rf
  obtain ⟨g, hacc⟩ := h.acc
  rw [← e]
  refine (rback_any r cr cr' v ls E W hr hv hE).mono ?_
  rintro e' W' ⟨rfl, ho, g', c', hg', hr'⟩
  rw [e]
  have hne : ∀ {b s : Nat} {y : Array Value} {fr : Nat × Nat}, W.heap[b]? = some (.cells y s fr) → s ≠ 40 → b ∉ [r.Br] := by
    intro b s y fr hb hs hmem
    simp only [List.mem_cons, List.not_mem_nil, or_false] at hmem
    exact ne_of_types hb hr.acc hs hmem
  have hsz := h.below.size
  have hml := hm.lt
  have hmb : gm ∉ [r.Br] := by
    intro hmem
    simp only [List.mem_cons, List.not_mem_nil, or_false] at hmem
    exact hm.ne hr.acc (by decide) hmem
  refine ⟨rfl, ⟨g, hacc.same (ho.block _ hacc.acc.lt (hne hacc.acc (by decide))) (ho.block _ hacc.cnt.lt (hne hacc.cnt (by decide)))⟩, ⟨{ r with gu := g', cu := c' }, e, hr', ?_, h2, gm, cm, e2, hm.same (ho.block _ hml hmb), ?_, m2, m3⟩, h.below.trans (ho.below (by simp [e, h.fb]) hsz), h.fa, h.fb, fun a hoo => (ho.block _ (lt_of_get (h.ob a hoo)) (hne (h.ob a hoo) (by decide))).trans (h.ob a hoo)⟩
  · show w0.heap.size ≤ g'
    rcases hg' with rfl | hg'
    · exact h1
    · omega
  · show gm ≠ g'
    rcases hg' with rfl | hg'
    · exact m1
    · omega

theorem St.ints {w0 : World} {Ba Br : Nat} {ca cr : List Cnt} {mv : Value} {ms : List Int} {Bo : Nat} {ov : Option (Array Value)} {W : World} (h : St w0 Ba Br ca cr mv ms Bo ov W) : Ints W mv ms := by
  obtain ⟨r, e, hr, h1, h2, gm, cm, rfl, hm, m1, m2, m3⟩ := h.rf
  exact hm.ints
theorem St.good {w0 : World} {Ba Br : Nat} {ca cr : List Cnt} {mv : Value} {ms : List Int} {Bo : Nat} {ov : Option (Array Value)} {W : World} (h : St w0 Ba Br ca cr mv ms Bo ov W) : Good ca := by
  obtain ⟨g, ha⟩ := h.acc
  exact ha.good

/-- Mark, its answer kept as the last mark. -/
theorem st_mark {w0 : World} {Ba Br : Nat} {ca cr : List Cnt} {mv : Value} {ms : List Int} {Bo : Nat} {ov : Option (Array Value)} {W0 : World} (W : World) (h : St w0 Ba Br ca cr mv ms Bo ov W0) (ha : Alk W0 W) :
    Calls Try.prog 21 #[.pointer (some ⟨Ba, 0, none⟩)] W fun e W' => ∃ gm, e = .returned (.slice (some ⟨gm, 0, none⟩) ca.length ca.length) ∧ Ints W' (.slice (some ⟨gm, 0, none⟩) ca.length ca.length) (ca.map (·.2.1)) ∧ St w0 Ba Br ca cr mv ms Bo ov W' ∧ St w0 Ba Br ca cr (.slice (some ⟨gm, 0, none⟩) ca.length ca.length) (ca.map (·.2.1)) Bo ov W' := by
  have h := h.alk ha
  obtain ⟨g, hacc⟩ := h.acc
  refine (mark_any Ba g ca W hacc).mono ?_
  rintro e W' ⟨rfl, hI, hb⟩
  have h' := h.of_below hb
  obtain ⟨r, e, hr, h1, h2, hm⟩ := h.rf
  have hi := hI.ints
  rw [List.length_map] at hi
  exact ⟨_, rfl, hi, h', h'.acc, ⟨r, e, hr.below hb, h1, h2, W.heap.size, ca.length, by rw [List.length_map], hI, by have := hr.ru.lt; omega, by have := hr.rp.lt; omega, h.below.size⟩, h'.below, h'.fa, h'.fb, h'.ob⟩

/-- The cell of the document's account that holds what is used. -/
theorem St.used {w0 : World} {Ba Br : Nat} {ca cr : List Cnt} {mv : Value} {ms : List Int} {Bo : Nat} {ov : Option (Array Value)} {W : World} (h : St w0 Ba Br ca cr mv ms Bo ov W) :
    ∃ gu cu gp cp, W.cell? ⟨Br, 1, none⟩ = some (.slice (some ⟨gu, 0, none⟩) cr.length cu) ∧ W.cell? ⟨Br, 2, none⟩ = some (.slice (some ⟨gp, 0, none⟩) cr.length cp) ∧ Ints W (.slice (some ⟨gu, 0, none⟩) cr.length cu) (cr.map (·.2.1)) ∧ (∀ k (hk : k < cr.length), W.cell? ⟨gu, k, none⟩ = some (.int .i64 cr[k].2.1) ∧ W.cell? ⟨gp, k, none⟩ = some (.int .i64 cr[k].2.2)) := by
  obtain ⟨r, rfl, hr, h1, h2, _⟩ := h.rf
  have hi := hr.ru.ints
  rw [List.length_map] at hi
  exact ⟨_, _, _, _, hr.c1, hr.c2, hi, fun k hk => ⟨hr.uc hk, hr.pc hk⟩⟩

theorem st_is {w0 : World} {Ba Br : Nat} {ca cr : List Cnt} {mv : Value} {ms : List Int} {Bo : Nat} {ov : Option (Array Value)} {W0 : World} (W : World) (k : Int) (h : St w0 Ba Br ca cr mv ms Bo ov W0) (ha : Alk W0 W) :
    Calls Try.prog 28 #[.pointer (some ⟨Br, 0, none⟩), .int .i64 k] W fun e W' => e = .returned (.bool (decide (0 ≤ k) && decide (k < cr.length))) ∧ W' = W := by
  have h := h.alk ha
  obtain ⟨r, rfl, hr, h1, h2, _⟩ := h.rf
  by_cases hk : 0 ≤ k ∧ k < cr.length
  · obtain ⟨K, rfl⟩ := Int.eq_ofNat_of_zero_le hk.1
    have : (decide (0 ≤ (K : Int)) && decide ((K : Int) < cr.length)) = true := by simp; omega
    rw [this]
    exact is_in r cr K W hr (by omega)
  · have : (decide (0 ≤ k) && decide (k < cr.length)) = false := by simp; omega
    rw [this]
    exact is_out r cr k W hr (by omega)

end Go.Proofs.Ytiaebahmbgmajaa
