/-
  Rows of features that grow; the laws' own.
-/
import Derived.Test.YtiklbkkimmgbcaaFK
import Derived.Deep.Slices
import Derived.Deep.RegionLaw
namespace Go.Proofs.Ytiklbkkimmgbcaa
open Go.RowKit Go.Maps

theorem step_append_own (w : World) {ops : Array Oper} {o : Oper} {a : Act} {K : Act → World → Prop} {Q : Exit → Act → World → Prop} {X : Prop} (hgd : o.guard = none) (s x : Operand) (t : TypeId)
    (ho : o.op = .call { callee := .builtin .append, args := #[s, x], argTypes := #[t, t] })
    (base : Nat) (e : TypeId) (i : TypeInfo) (z : Value) (size bytes : Nat) (ht : Try.prog.underlying t = some (.slice e)) (hi : Try.prog.info? e = some i) (hz : i.zero = some z)
    (hsize : i.size = size) (hby : i.bytes = bytes) (hzs : z.cells.size = size) (hsz : 0 < size)
    (v : Value) (n : Nat) (xs : List Value) (hs : a.eval s = v) (hown : w.ownsRow base e size v n xs)
    (ad : Addr) (m c : Nat) (news : List Value) (hx : a.eval x = .slice (some ad) m c) (hl : news.length = m * size) (hnews : ∀ j u, news[j]? = some u → w.cell? (ad.add j) = some u) (h1 : ∀ u ∈ news, u.oneCell' = true)
    (h63 : n + m ≤ maxLen) (hbytes : (n + m) * bytes ≤ 140737488355328) (hbase : base ≤ w.heap.size)
    (h : ∀ v' w', w'.ownsRow base e size v' (n + m) (xs ++ news) → w.grownBy w' v.ownBlock → (v'.ownBlock = v.ownBlock ∨ v'.ownBlock = some w.heap.size) → K (a.put o.dst v') w') :
    if Region.wanted o (yielded ops a.tmps) = true then Oper.wp Try.prog o a w K Q else X := by
  rw [if_pos (by simp [Region.wanted, hgd])]
  obtain ⟨v', w', hr, h2, h3, _, h5⟩ := run_append_own_at (P := Try.prog) w base t o.type e i z size bytes ht hi hz hsize hby hzs hsz v n xs hown ad m c news hl hnews h1 h63 hbytes hbase
  unfold Oper.wp execOp
  simp only [ho, resolve, invoke, builtin, Sem.run_bind, Sem.run_pure, Result.andThen_ok, List.map_toArray, List.map_cons, List.map_nil, hs, hx, hr]
  exact h v' w' h2 h3 h5

theorem row_slice {W : World} {base size n : Nat} {e : TypeId} {v : Value} {xs : List Value} (h : W.ownsRow base e size v n xs) : ∃ a c, v = .slice a n c := by
  obtain ⟨_, r⟩ := h
  rcases r with ⟨h1, h2⟩ | ⟨g, cap, cur, h1, _⟩
  · exact ⟨none, 0, by rw [h1]; simp_all⟩
  · exact ⟨_, _, h1⟩


theorem row_keep {n0 : Nat} {W W' : World} {ty : TypeId} {k : Nat} {fv : Value} {n : Nat} {vs : List Value} (h : W.ownsRow n0 ty k fv n vs) (hB : ∀ g, fv.ownBlock = some g → W'.heap[g]? = W.heap[g]?) : W'.ownsRow n0 ty k fv n vs := by
  obtain ⟨h1, h2⟩ := h
  refine ⟨h1, ?_⟩
  rcases h2 with h2 | ⟨g, cap, cur, e, hb, hg, r⟩
  · exact .inl h2
  · exact .inr ⟨g, cap, cur, e, hb, (hB g (by rw [e]; rfl)).trans hg, r⟩
theorem row_block {W : World} {n0 : Nat} {ty : TypeId} {k : Nat} {fv : Value} {n : Nat} {vs : List Value} (h : W.ownsRow n0 ty k fv n vs) {g : Nat} (hg : fv.ownBlock = some g) : n0 ≤ g ∧ ∃ cur, W.heap[g]? = some (.cells cur ty (0, 0)) := by
  obtain ⟨_, ⟨e, _⟩ | ⟨g', cap, cur, e, hb, hg', _⟩⟩ := h
  · rw [e] at hg; cases hg
  · rw [e] at hg
    have : g' = g := by simpa [Value.ownBlock] using hg
    subst this
    exact ⟨hb, cur, hg'⟩

/-- The cells of features. -/
def flF (l : List Ft) : List Value := l.flatMap fun f => [.int .i64 f.kind, .int .i64 f.ar, .string f.fn]
theorem flF_len (l : List Ft) : (flF l).length = l.length * 3 := by
  induction l with
  | nil => rfl
  | cons a r ih => simp only [flF, List.flatMap_cons, List.length_append, List.length_cons, List.length_nil] at ih ⊢; omega
theorem flF_snoc (l : List Ft) (f : Ft) : flF (l ++ [f]) = flF l ++ [.int .i64 f.kind, .int .i64 f.ar, .string f.fn] := by simp [flF]
theorem flF_get : ∀ (l : List Ft) (i : Nat) (h : i < l.length), (flF l)[i * 3]? = some (.int .i64 l[i].kind) ∧ (flF l)[i * 3 + 1]? = some (.int .i64 l[i].ar) ∧ (flF l)[i * 3 + 2]? = some (.string l[i].fn)
  | f :: l, 0, _ => ⟨rfl, rfl, rfl⟩
  | f :: l, i + 1, h => by
    have ih := flF_get l i (by simpa using h)
    have e : ∀ j, (flF (f :: l))[(i + 1) * 3 + j]? = (flF l)[i * 3 + j]? := fun j => by
      show ([.int .i64 f.kind, .int .i64 f.ar, .string f.fn] ++ flF l)[(i + 1) * 3 + j]? = _
      rw [List.getElem?_append_right (by simp; omega)]
      congr 1
      simp
      omega
    exact ⟨(e 0).trans ih.1, (e 1).trans ih.2.1, (e 2).trans ih.2.2⟩
theorem ftAt_of_row {W : World} {base : Nat} {ty : TypeId} {v : Value} {l : List Ft} (h : W.ownsRow base ty 3 v l.length (flF l)) : FtAt W v l := by
  obtain ⟨hl, ⟨e, h0⟩ | ⟨g, cap, cur, e, hb, hg, hc, hm, hsz, ht⟩⟩ := h
  · have : l = [] := List.eq_nil_of_length_eq_zero h0
    subst this
    exact ⟨none, 0, e, Nat.le_refl _, by omega, fun h => absurd h (by simp)⟩
  · refine ⟨_, cap, e, hc, by unfold maxLen at hm; omega, fun _ => ⟨g, 0, (Array.getElem?_eq_some_iff.1 hg).1, rfl, fun i hi => ?_⟩⟩
    have hget : ∀ j u, (flF l)[j]? = some u → W.cell? ⟨g, 0 + j, none⟩ = some u := fun j u hj => by
      have hjl : j < l.length * 3 := by have := (List.getElem?_eq_some_iff.1 hj).1; rwa [flF_len] at this
      rw [← ht, List.getElem?_take, if_pos hjl] at hj
      rw [Nat.zero_add, cell_of_row _ _ _ _ ty (0, 0) hg, ← hj]
      simp
    obtain ⟨q0, q1, q2⟩ := flF_get l i hi
    exact ⟨hget _ _ q0, hget _ _ q1, hget _ _ q2⟩
theorem Try.info63q : (Try.prog.info? 63).map (fun i => (i.zero, i.size, i.bytes)) = some (some (.agg #[.int .i64 0, .int .i64 0, .string ⟨#[]⟩]), 3, 32) := by kernel_rfl

set_option maxRecDepth 100000 in
set_option maxHeartbeats 8000000 in
theorem own_any (l : List Ft) (v : Value) (w : World) (hl : FtAt w v l) (hlen : l.length ≤ 1048576) :
    Calls Try.prog 13 #[v] w fun e w' => ∃ v', e = .returned v' ∧ FtAt w' v' l ∧ Below w.heap.size w w' := by
  obtain ⟨a1, c1, rfl, hc1, hm1⟩ := hl.slice
  have HL : Hid (FtAt w (.slice a1 l.length c1) l) := hl
  obtain ⟨i0, hi0, hz0, hz1, hz2⟩ := info_parts Try.info63q
  clear hl
  go_enter Try.func13, Try.ntmps13
  go_wp2
  go_loopw [3, 4] (fun vo vi wr => ∃ (i : Nat) (oa : Option Addr) (oc : Nat), vi = .int .i64 i ∧ vo = .slice oa i oc ∧ i ≤ l.length ∧ Hid (Below w.heap.size w wr ∧ wr.ownsRow w.heap.size 63 3 (.slice oa i oc) i (flF (l.take i)))) (fun _ vi _ => l.length - (intOf vi).toNat)
  case atStart => exact ⟨0, none, 0, rfl, rfl, Nat.zero_le _, Below.refl _ _, World.ownsRow_nil _ _ _ _⟩
  case round =>
    obtain ⟨i, oa, oc, rfl, rfl, hi, HI⟩ := hrel
    by_cases hlt : i < l.length
    · have hiI : (i : Int) < (l.length : Int) := by omega
      have hn0 : (0 : Int) ≤ (i : Int) := by omega
      obtain ⟨b, o, rfl, hb, x0, x1, x2⟩ := HL.out.nth hlt
      obtain ⟨f, hf⟩ : ∃ f, l[i] = f := ⟨_, rfl⟩
      rw [hf] at x0 x1 x2
      have HT : Hid (flF (l.take (i + 1)) = flF (l.take i) ++ [.int .i64 f.kind, .int .i64 f.ar, .string f.fn]) := by
        show _ = _
        rw [List.take_succ_eq_append_getElem hlt, hf, flF_snoc]
      have HX : Hid (∀ Z, Below w.heap.size w Z → Z.cell? ⟨b, o + i * 3, none⟩ = some (.int .i64 f.kind) ∧ Z.cell? ⟨b, o + i * 3 + 1, none⟩ = some (.int .i64 f.ar) ∧ Z.cell? ⟨b, o + i * 3 + 2, none⟩ = some (.string f.fn)) := fun Z hZ => ⟨kc hZ hb x0, kc hZ hb x1, kc hZ hb x2⟩
      obtain ⟨Wd, hWd⟩ : ∃ X, wr.drew = X := ⟨_, rfl⟩
      have hd : Below wr.heap.size wr Wd := by rw [← hWd]; exact (Below.refl _ wr).drew
      have Bd : Below w.heap.size w Wd := HI.out.1.trans (hd.mono HI.out.1.size)
      have Rd := row_keep HI.out.2 (W' := Wd) (fun g hg => by
        obtain ⟨_, cq, hcq⟩ := row_block HI.out.2 hg
        exact hd.block g (Array.getElem?_eq_some_iff.1 hcq).1)
      have HD : Hid (Below w.heap.size w Wd ∧ Wd.ownsRow w.heap.size 63 3 (.slice oa i oc) i (flF (l.take i))) := ⟨Bd, Rd⟩
      have HE : Hid (i < l.length) := hlt
      clear x0 x1 x2 hb hf hd Bd Rd HI
      go_wp2
      refine wp_region_held_drew (S := fun Z => Below w.heap.size w Z) (by kernel_rfl) (by rw [hWd]; exact HD.out.1) (fun hHeld => ?_)
      rw [hWd] at hHeld ⊢
      refine take_mk 0 (.slice oa i oc) rfl (by kernel_rfl) (by kernel_rfl) (by kernel_rfl) (fun _ _ _ h => h) (Or.inl ⟨by rfl, fun Z hZ => by go_simp⟩) (by assumption) ?_
      try simp only [Act.put, List.setIfInBounds_toArray, List.set_cons_zero, List.set_cons_succ]
      refine take_mk 1 (.slice (some ⟨b, o, none⟩) l.length c1) rfl (by kernel_rfl) (by kernel_rfl) (by kernel_rfl) (fun _ _ _ h => h) (Or.inl ⟨by rfl, fun Z hZ => by go_simp⟩) (by assumption) ?_
      try simp only [Act.put, List.setIfInBounds_toArray, List.set_cons_zero, List.set_cons_succ]
      refine take_mk 2 (.int .i64 (i : Int)) rfl (by kernel_rfl) (by kernel_rfl) (by kernel_rfl) (fun _ _ _ h => h) (Or.inl ⟨by rfl, fun Z hZ => by go_simp⟩) (by assumption) ?_
      try simp only [Act.put, List.setIfInBounds_toArray, List.set_cons_zero, List.set_cons_succ]
      refine take_mk 3 (.pointer (some ⟨b, o + i * 3, none⟩)) rfl (by kernel_rfl) (by kernel_rfl) (by kernel_rfl) (fun _ _ _ h => h) (Or.inl ⟨by rfl, fun Z hZ => by go_simp⟩) (by assumption) ?_
      try simp only [Act.put, List.setIfInBounds_toArray, List.set_cons_zero, List.set_cons_succ]
      refine take_mk 4 (.pointer (some ⟨b, o + i * 3, none⟩)) rfl (by kernel_rfl) (by kernel_rfl) (by kernel_rfl) (fun _ _ _ h => h) (Or.inl ⟨by rfl, fun Z hZ => by go_simp⟩) (by assumption) ?_
      try simp only [Act.put, List.setIfInBounds_toArray, List.set_cons_zero, List.set_cons_succ]
      refine take_mk 5 (.int .i64 f.kind) rfl (by kernel_rfl) (by kernel_rfl) (by kernel_rfl) (fun _ _ _ h => h) (Or.inl ⟨by rfl, fun Z hZ => by obtain ⟨y0, y1, y2⟩ := HX.out Z hZ; go_simp⟩) (by assumption) ?_
      try simp only [Act.put, List.setIfInBounds_toArray, List.set_cons_zero, List.set_cons_succ]
      refine take_mk 6 (.slice (some ⟨b, o, none⟩) l.length c1) rfl (by kernel_rfl) (by kernel_rfl) (by kernel_rfl) (fun _ _ _ h => h) (Or.inl ⟨by rfl, fun Z hZ => by go_simp⟩) (by assumption) ?_
      try simp only [Act.put, List.setIfInBounds_toArray, List.set_cons_zero, List.set_cons_succ]
      refine take_mk 7 (.int .i64 (i : Int)) rfl (by kernel_rfl) (by kernel_rfl) (by kernel_rfl) (fun _ _ _ h => h) (Or.inl ⟨by rfl, fun Z hZ => by go_simp⟩) (by assumption) ?_
      try simp only [Act.put, List.setIfInBounds_toArray, List.set_cons_zero, List.set_cons_succ]
      refine take_mk 8 (.pointer (some ⟨b, o + i * 3, none⟩)) rfl (by kernel_rfl) (by kernel_rfl) (by kernel_rfl) (fun _ _ _ h => h) (Or.inl ⟨by rfl, fun Z hZ => by go_simp⟩) (by assumption) ?_
      try simp only [Act.put, List.setIfInBounds_toArray, List.set_cons_zero, List.set_cons_succ]
      refine take_mk 9 (.pointer (some ⟨b, o + i * 3 + 1, none⟩)) rfl (by kernel_rfl) (by kernel_rfl) (by kernel_rfl) (fun _ _ _ h => h) (Or.inl ⟨by rfl, fun Z hZ => by go_simp⟩) (by assumption) ?_
      try simp only [Act.put, List.setIfInBounds_toArray, List.set_cons_zero, List.set_cons_succ]
      refine take_mk 10 (.int .i64 f.ar) rfl (by kernel_rfl) (by kernel_rfl) (by kernel_rfl) (fun _ _ _ h => h) (Or.inl ⟨by rfl, fun Z hZ => by obtain ⟨y0, y1, y2⟩ := HX.out Z hZ; go_simp⟩) (by assumption) ?_
      try simp only [Act.put, List.setIfInBounds_toArray, List.set_cons_zero, List.set_cons_succ]
      refine take_mk 11 (.slice (some ⟨b, o, none⟩) l.length c1) rfl (by kernel_rfl) (by kernel_rfl) (by kernel_rfl) (fun _ _ _ h => h) (Or.inl ⟨by rfl, fun Z hZ => by go_simp⟩) (by assumption) ?_
      try simp only [Act.put, List.setIfInBounds_toArray, List.set_cons_zero, List.set_cons_succ]
      refine take_mk 12 (.int .i64 (i : Int)) rfl (by kernel_rfl) (by kernel_rfl) (by kernel_rfl) (fun _ _ _ h => h) (Or.inl ⟨by rfl, fun Z hZ => by go_simp⟩) (by assumption) ?_
      try simp only [Act.put, List.setIfInBounds_toArray, List.set_cons_zero, List.set_cons_succ]
      refine take_mk 13 (.pointer (some ⟨b, o + i * 3, none⟩)) rfl (by kernel_rfl) (by kernel_rfl) (by kernel_rfl) (fun _ _ _ h => h) (Or.inl ⟨by rfl, fun Z hZ => by go_simp⟩) (by assumption) ?_
      try simp only [Act.put, List.setIfInBounds_toArray, List.set_cons_zero, List.set_cons_succ]
      refine take_mk 14 (.pointer (some ⟨b, o + i * 3 + 2, none⟩)) rfl (by kernel_rfl) (by kernel_rfl) (by kernel_rfl) (fun _ _ _ h => h) (Or.inl ⟨by rfl, fun Z hZ => by go_simp⟩) (by assumption) ?_
      try simp only [Act.put, List.setIfInBounds_toArray, List.set_cons_zero, List.set_cons_succ]
      refine take_mk 15 (.string f.fn) rfl (by kernel_rfl) (by kernel_rfl) (by kernel_rfl) (fun _ _ _ h => h) (Or.inl ⟨by rfl, fun Z hZ => by obtain ⟨y0, y1, y2⟩ := HX.out Z hZ; go_simp⟩) (by assumption) ?_
      try simp only [Act.put, List.setIfInBounds_toArray, List.set_cons_zero, List.set_cons_succ]
      refine take_mk 16 (fval f) rfl (by kernel_rfl) (by kernel_rfl) (by kernel_rfl) (fun _ _ _ h => h) (Or.inl ⟨by rfl, fun Z hZ => by go_simp⟩) (by assumption) ?_
      try simp only [Act.put, List.setIfInBounds_toArray, List.set_cons_zero, List.set_cons_succ]
      refine wpAnyH_ready (rs := [17]) (by kernel_rfl) (by simp) (AllReadyH.cons (o := ⟨_, _, _, _, _, _⟩) rfl (fun K hK => ?_) AllReadyH.nil)
      rw [if_pos (by rfl)]
      go_simp
      obtain ⟨P3, eP3⟩ : ∃ Z, Wd.alloc (.cells #[.int .i64 f.kind, .int .i64 f.ar, .string f.fn] 63) = Z := ⟨_, rfl⟩
      have bP3 : Below Wd.heap.size Wd P3 := by rw [← eP3]; exact below_box _ _
      have BP3 : Below w.heap.size w P3 := HD.out.1.trans (bP3.mono HD.out.1.size)
      obtain ⟨g4, hg4⟩ : ∃ n, Wd.heap.size = n := ⟨_, rfl⟩
      have h4 : P3.heap[g4]? = some (.cells #[.int .i64 f.kind, .int .i64 f.ar, .string f.fn] 63 (0, 0)) := by rw [← eP3, ← hg4]; exact (MapKept.heap_alloc _ _).1
      have R3 := row_keep HD.out.2 (W' := P3) (fun g hg => by
        obtain ⟨_, cq, hcq⟩ := row_block HD.out.2 hg
        exact bP3.block g (Array.getElem?_eq_some_iff.1 hcq).1)
      refine hK.out _ _ (by rw [eP3]; exact BP3) (fun _ => ?_)
      rw [eP3, hg4]
      clear hK K
      try simp only [Act.put, List.setIfInBounds_toArray, List.set_cons_zero, List.set_cons_succ]
      refine wpAnyH_ready (rs := [18]) (by kernel_rfl) (by simp) (AllReadyH.cons (o := ⟨_, _, _, _, _, _⟩) rfl (fun K hK => ?_) AllReadyH.nil)
      refine step_append_own P3 rfl (.tmp 11) (.tmp 28) 26 rfl w.heap.size 63 i0 _ 3 32 Try.underlying26 hi0 hz0 hz1 hz2 rfl (by decide) (.slice oa i oc) i (flF (l.take i)) rfl R3 ⟨g4, 0, none⟩ 1 1 [.int .i64 f.kind, .int .i64 f.ar, .string f.fn] rfl rfl (fun j u hj => by rw [Addr.add_mid, Nat.zero_add, cell_of_row _ _ _ _ 63 (0, 0) h4]; simpa using hj) (by intro u hu; simp only [List.mem_cons, List.not_mem_nil, or_false] at hu; rcases hu with rfl | rfl | rfl <;> rfl) (by unfold maxLen; omega) (by omega) BP3.size ?_
      intro v5 P4 hr5 hgr5 _
      obtain ⟨a5, c5, rfl⟩ := row_slice hr5
      have BP4 : Below w.heap.size w P4 := BP3.trans (below_of_grown hgr5 BP3.size (fun g e => (row_block R3 e).1))
      refine hK.out _ _ BP4 (fun _ => ?_)
      clear hK K
      try simp only [Act.put, List.setIfInBounds_toArray, List.set_cons_zero, List.set_cons_succ]
      refine take_mk 19 (.slice a5 (i + 1) c5) rfl (by kernel_rfl) (by kernel_rfl) (by kernel_rfl) (fun _ _ _ h => h) (Or.inl ⟨by rfl, fun Z hZ => by go_simp⟩) (by assumption) ?_
      try simp only [Act.put, List.setIfInBounds_toArray, List.set_cons_zero, List.set_cons_succ]
      refine wpAnyH_done (by kernel_rfl) ?_ _
      try simp only [Act.put]
      have HN : Hid (Below w.heap.size w P4 ∧ P4.ownsRow w.heap.size 63 3 (.slice a5 (i + 1) c5) (i + 1) (flF (l.take (i + 1)))) := ⟨BP4, by rw [HT.out]; exact hr5⟩
      clear bP3 BP3 h4 R3 hr5 hgr5 BP4 hHeld
      go_wp2
      go_roundw
      case rel => exact ⟨i + 1, a5, c5, by go_num, rfl, by have := HE.out; omega, HN.out⟩
      case measure => simp [intOf]; have := HE.out; omega
    · have e : l.take i = l := List.take_of_length_le (by omega)
      have hil : i = l.length := by omega
      subst hil
      have HF : Hid (FtAt wr (.slice oa l.length oc) l ∧ Below w.heap.size w wr) := by
        have := HI.out.2
        rw [e] at this
        exact ⟨ftAt_of_row this, HI.out.1⟩
      clear HI e
      go_wp2
      go_ret
      exact ⟨_, rfl, HF.out⟩

end Go.Proofs.Ytiklbkkimmgbcaa
