/-
  slices.Clone at ints; a loop over the parts that collects into a list; term.Places.
-/
import Derived.Test.YtbbfpllffcfmhaaL
namespace Go.Proofs.Ytbbfpllffcfmhaa
open Go.RowKit Go.Shelf

attribute [local go_sem] Oper.semAt_some

theorem Try.info29 : (Try.prog.info? 29).map (fun i => (i.zero, i.size, i.bytes)) = some (some (.slice none 0 0), 1, 24) := by kernel_rfl

theorem row_cells {W : World} {base : Nat} {g : Nat} {n c : Nat} {xs : List Value} {e : TypeId} (h : W.ownsRow base e 1 (.slice (some ⟨g, 0, none⟩) n c) n xs) : ∀ j u, xs[j]? = some u → W.cell? ((⟨g, 0, none⟩ : Addr).add j) = some u := h.cells rfl

theorem nil_eq (w : World) : Sem.run Try.prog (binOp .eql 29 (.slice none 0 0) (.slice none 0 0)) w = .ok (.bool true) w := by kernel_rfl
theorem nil_ne (a : Addr) (n c : Nat) (w : World) : Sem.run Try.prog (binOp .eql 29 (.slice (some a) n c) (.slice none 0 0)) w = .ok (.bool false) w := by kernel_rfl

set_option maxRecDepth 100000 in
set_option maxHeartbeats 1000000 in
/-- slices.Clone at ints. -/
theorem clone_any (base : Nat) (pv : Value) (pl : List Int) (w : World) (h : w.ownsRow base 3 1 pv pl.length (pl.map fun x => Value.int .i64 x)) (hl : pl.length ≤ 1048576) :
    Calls Try.prog 62 #[pv] w fun e w' => ∃ a c, e = .returned (.slice a pl.length c) ∧ Below w.heap.size w w' := by
  rcases h.2 with ⟨rfl, h0⟩ | ⟨g, cap, cur, rfl, hb, hg, hc, hm, hs, ht⟩
  · have H0 : Hid (pl.length = 0) := h0
    clear h0 h
    have e1 := nil_eq
    go_enter Try.func62, Try.ntmps62
    go_wp2
    go_ret
    exact ⟨none, 0, by rw [show pl.length = 0 from H0]; rfl, Below.refl _ _⟩
  · obtain ⟨i0, hi, hz0, hz1, hz2⟩ := info_parts Try.info3
    have hr := World.ownsRow_made (base := w.heap.size) (e := 3) (size := 1) w #[] 0 (Nat.le_refl _) (by decide) rfl
    have hcell := row_cells h
    have hg' : w.grownBy (w.alloc (.cells #[] 3)) none := World.grownBy_alloc w _ none
    have hcell' : ∀ j u, (pl.map fun x => Value.int .i64 x)[j]? = some u → (w.alloc (.cells #[] 3)).cell? ((⟨g, 0, none⟩ : Addr).add j) = some u := fun j u hj => hg'.cell (hcell j u hj) (by simp)
    clear hcell hs ht hg h
    have e1 := nil_ne
    go_enter Try.func62, Try.ntmps62
    go_wp2_with (at_builtin; refine wpList_append_own_at _ rfl _ _ 29 rfl w.heap.size 3 i0 (.int .i64 0) 1 8 Try.underlying29 hi hz0 hz1 hz2 rfl (by decide) _ _ _ rfl hr ⟨g, 0, none⟩ pl.length cap (pl.map fun x => Value.int .i64 x) rfl (by simp) hcell' (by simp [Value.oneCell']) (by unfold maxLen; omega) (by omega) (by simp) ?_; intro v' w1 hown hgrow _ hat)
    go_ret
    have hb1 : Below w.heap.size w w1 := (below_box w _).trans ⟨hgrow.os, hgrow.tape, hgrow.output, hgrow.size, fun k hk => hgrow.block k (by simp; omega) (fun e => by have e' : some k = some w.heap.size := e; have := Option.some.inj e'; omega)⟩
    rcases hown.2 with ⟨rfl, h0⟩ | ⟨g', cap', cur', rfl, _⟩
    · exact ⟨none, 0, by rw [show pl.length = 0 by omega]; rfl, hb1⟩
    · exact ⟨_, _, by rw [Nat.zero_add]; rfl, hb1⟩

/-- What a loop over the parts collects in a list whose slice lies in one box. -/
structure RInv (w : World) (B : Nat) (ty e : TypeId) (rel : List Part → List Value → Prop) (E : List Nat) (pre : List Part) (v : Value) (cs : List Value) (W : World) : Prop where
  box : Boxed W B ty v
  row : W.ownsRow w.heap.size e 1 v cs.length cs
  say : rel pre cs
  out : B ∉ E
  mine : ∀ g, v.ownBlock = some g → g ∉ E
  low : ∀ r ∈ E, w.heap.size ≤ r ∧ r < W.heap.size
  bel : Below w.heap.size w W

abbrev RInvE (w : World) (B : Nat) (ty e : TypeId) (rel : List Part → List Value → Prop) (E : List Nat) (pre : List Part) (W : World) : Prop := ∃ v cs, RInv w B ty e rel E pre v cs W

section
variable {w : World} {B : Nat} {ty e : TypeId} {rel : List Part → List Value → Prop}

theorem RInv.abide : Abide (RInvE w B ty e rel) := by
  rintro E E' s W W' row ⟨v, cs, h⟩ hg hr hE
  have hlt := h.box.lt
  refine ⟨v, cs, h.box.kept hg (fun e => h.out (hr B e.symm)), h.row.kept hg ?_, h.say, fun hb => ?_, fun g hgv hge => ?_, fun r hr' => ?_, h.bel.trans ⟨hg.os, hg.tape, hg.output, hg.size, fun k hk => hg.block k (Nat.lt_of_lt_of_le hk h.bel.size) (fun e => by have := h.low k (hr k e.symm); omega)⟩⟩
  · cases ho : v.ownBlock with
    | none => exact .inl rfl
    | some g => exact .inr fun e => h.mine g ho (hr g e.symm)
  · rcases hE B hb with hb | hb
    · exact h.out hb
    · omega
  · have := (h.row.lt g hgv).2
    rcases hE g hge with h' | h'
    · exact h.mine g hgv h'
    · omega
  · rcases hE r hr' with h' | h'
    · exact ⟨(h.low r h').1, Nat.lt_of_lt_of_le (h.low r h').2 hg.size⟩
    · exact ⟨Nat.le_trans h.bel.size h'.1, h'.2⟩

variable {E : List Nat} {pre : List Part} {v : Value} {cs : List Value} {W W' : World}

theorem RInv.grow (h : RInv w B ty e rel E pre v cs W) (hb : Below W.heap.size W W') : Kept w.heap.size E W W' ∧ RInv w B ty e rel E pre v cs W' := by
  have hg : W.grownBy W' none := ⟨hb.os, hb.tape, hb.output, hb.size, fun k hk _ => hb.block k hk⟩
  exact ⟨⟨hb.mono h.bel.size, fun r hr => hb.block r (h.low r hr).2⟩, ⟨(hb.block B h.box.lt).trans h.box, h.row.kept hg (by cases v.ownBlock <;> simp), h.say, h.out, h.mine, fun r hr => ⟨(h.low r hr).1, Nat.lt_of_lt_of_le (h.low r hr).2 hb.size⟩, h.bel.trans (hb.mono h.bel.size)⟩⟩

/-- Behind an append and the store of what it gave. -/
theorem RInv.push (h : RInv w B ty e rel E pre v cs W) (hte : ty ≠ e) (hB : w.heap.size ≤ B) (x : Value) (v' : Value) (w1 : World) (hown : w1.ownsRow w.heap.size e 1 v' (cs.length + 1) (cs ++ [x])) (hg : W.grownBy w1 v.ownBlock) (hat : v'.ownBlock = v.ownBlock ∨ v'.ownBlock = some W.heap.size) (pre' : List Part) (hs : rel pre' (cs ++ [x])) :
    (w1.cell? ⟨B, 0, none⟩ = some v ∧ w1.frozen? ⟨B, 0, none⟩ = false) ∧ Kept w.heap.size E W (w1.setCell ⟨B, 0, none⟩ v') ∧ RInv w B ty e rel E pre' v' (cs ++ [x]) (w1.setCell ⟨B, 0, none⟩ v') := by
  have hnb := h.box.not_row hte h.row
  have p1 := h.box.kept hg hnb
  have g2 := grownBy_setCell' w1 B v'
  have b1 : Below w.heap.size W w1 := ⟨hg.os, hg.tape, hg.output, hg.size, fun i hi => hg.block i (Nat.lt_of_lt_of_le hi h.bel.size) fun e => by
    have := (h.row.lt i e.symm).1
    omega⟩
  have b2 : Below w.heap.size w1 (w1.setCell ⟨B, 0, none⟩ v') := (Below.refl _ _).setCell (p := ⟨B, 0, none⟩) hB _
  have hne : v'.ownBlock = none ∨ v'.ownBlock ≠ some B := .inr fun e => p1.not_row hte hown e.symm
  refine ⟨⟨p1.cell, p1.frozen⟩, ⟨b1.trans b2, fun r hr => ?_⟩, ⟨p1.set v', ?_, hs, h.out, fun g hgv hge => ?_, fun r hr => ⟨(h.low r hr).1, ?_⟩, h.bel.trans (b1.trans b2)⟩⟩
  · have hlt := (h.low r hr).2
    have e1 : w1.heap[r]? = W.heap[r]? := hg.block r hlt (fun e => h.mine r e.symm hr)
    exact (g2.block r (Nat.lt_of_lt_of_le hlt hg.size) (fun e => h.out (Option.some.inj e ▸ hr))).trans e1
  · have := hown.kept g2 hne
    rw [List.length_append, List.length_singleton]
    exact this
  · rcases hat with h1 | h1
    · exact h.mine g (h1 ▸ hgv) hge
    · rw [h1] at hgv
      cases hgv
      have := (h.low _ hge).2
      omega
  · have := (h.low r hr).2
    have := hg.size
    have := g2.size
    omega
end

/-- 'append' as one step of a region that draws its order, in a round. -/
theorem stepIn_append {F : Fence} {nF : Nat} (w : World) {ops : Array Oper} {o : Oper} {a : Act} {K : Act → World → Prop} {Q : Exit → Act → World → Prop} {X : Prop} (hgd : o.guard = none) (s x : Operand) (t : TypeId)
    (ho : o.op = .call { callee := .builtin .append, args := #[s, x], argTypes := #[t, t] })
    (base : Nat) (e : TypeId) (i : TypeInfo) (z : Value) (size bytes : Nat) (ht : Try.prog.underlying t = some (.slice e)) (hi : Try.prog.info? e = some i) (hz : i.zero = some z)
    (hsize : i.size = size) (hby : i.bytes = bytes) (hzs : z.cells.size = size) (hsz : 0 < size)
    (v : Value) (n : Nat) (xs : List Value) (hs : a.eval s = v) (hown : w.ownsRow base e size v n xs)
    (ad : Addr) (m c : Nat) (news : List Value) (hx : a.eval x = .slice (some ad) m c) (hl : news.length = m * size) (hnews : ∀ j u, news[j]? = some u → w.cell? (ad.add j) = some u) (h1 : ∀ u ∈ news, u.oneCell' = true)
    (h63 : n + m ≤ maxLen) (hbytes : (n + m) * bytes ≤ 140737488355328) (hbase : base ≤ w.heap.size)
    (h : ∀ v' w', w'.ownsRow base e size v' (n + m) (xs ++ news) → w.grownBy w' v.ownBlock → (v'.ownBlock = v.ownBlock ∨ v'.ownBlock = some w.heap.size) → K (a.put o.dst v') w') :
    if Region.wanted o (yielded ops a.tmps) = true then Oper.wpIn F nF Try.prog o a w K Q else X := by
  rw [if_pos (by simp [Region.wanted, hgd])]
  obtain ⟨v', w', hr, h2, h3, _, h5⟩ := run_append_own_at (P := Try.prog) w base t o.type e i z size bytes ht hi hz hsize hby hzs hsz v n xs hown ad m c news hl hnews h1 h63 hbytes hbase
  unfold Oper.wpIn
  refine ⟨by simp [Oper.about, ho, resolve, Target.leads, Sem.run_pure], ?_⟩
  rw [Oper.semAt_plain F _ _ (by rw [ho]; intro c hc'; cases hc')]
  simp [execOp, ho, resolve, invoke, builtin, hs, hx, hr, Result.andThen]
  exact h v' w' h2 h3 h5

end Go.Proofs.Ytbbfpllffcfmhaa
