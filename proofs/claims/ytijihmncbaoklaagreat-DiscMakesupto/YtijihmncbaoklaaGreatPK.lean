/-
  unify.matched.
-/
import Derived.Test.YtijihmncbaoklaaGreatPH
namespace Go.Proofs.YtijihmncbaoklaaGreat
open Go.RowKit Go.Maps

/-- What matched answers. -/
def MAns (w : World) (p : T) (res : Option Ta) (e : Ending) (W : World) : Prop :=
  Below w.heap.size w W ∧ ∃ bm, e = .returned (.tuple #[.map (some bm), .bool res.isSome]) ∧ ∀ τ, res = some τ → ∃ σ n, MapIs W 3 bm (pm σ) n ∧ σ.ta = τ ∧ n ≤ p.nn ∧ ∀ x t sl, σ x = some (t, sl) → ArgsAt w sl t.args ∧ Fit64 x

theorem enter60 : ∀ args w, (callFunc 85 args).run Tryz.prog w = .ok (.enter 85 args) w := enters_of Tryz.func85 (by kernel_rfl) rfl

/-- fits, of matched's closure. -/
theorem fit_any (w0 W : World) (Bp Bt Bm bm N : Nat) (p t : T) (sp st : Value) (res : Option Ta) (h0 : Below w0.heap.size w0 W) (hp : ArgsAt w0 sp p.args) (ht : ArgsAt w0 st t.args)
    (cp : W.heap[Bp]? = some (.cells #[.int .i64 p.v, .string p.fn, sp] 32 (0, 0))) (ct : W.heap[Bt]? = some (.cells #[.int .i64 t.v, .string t.fn, st] 32 (0, 0)))
    (cm : W.heap[Bm]? = some (.cells #[.map (some bm)] 121 (0, 0))) (hbm0 : w0.heap.size ≤ bm) (hBm : Bm ≠ bm) (hmap : MapIs W 3 bm (fun _ => none) 0) (hsh : p.shape = true) (hN : p.nn ≤ N) (hN2 : N ≤ 1073741824)
    (hrun : MRun [(p, t)] (fun _ => none) res) :
    Calls Tryz.prog 84 #[.func (.func 85) #[] #[.pointer (some ⟨Bp, 0, none⟩), .pointer (some ⟨Bt, 0, none⟩), .pointer (some ⟨Bm, 0, none⟩)]] W fun e W' =>
      e = .returned (.bool res.isSome) ∧ Only [bm] W W' ∧ ∀ τ, res = some τ → ∃ σ n, MapIs W' 3 bm (pm σ) n ∧ σ.ta = τ ∧ n ≤ N ∧ ∀ x t sl, σ x = some (t, sl) → ArgsAt w0 sl t.args ∧ Fit64 x := by
  have hb := below_box W (.cells #[.bool false] 4)
  have hlt : ∀ {k : Nat} {o : Obj}, W.heap[k]? = some o → k < W.heap.size := fun h => (Array.getElem?_eq_some_iff.1 h).1
  have kp : ∀ {k : Nat} {o : Obj}, W.heap[k]? = some o → (fbox W).heap[k]? = some o := fun h => (hb.block _ (hlt h)).trans h
  have hc := closure_any w0 (fbox W) Bp Bt Bm bm N p t sp st res (h0.trans (hb.mono h0.size)) hp ht (kp cp) (kp ct) (one_facts (kp cm)).1 hbm0 hBm (hmap.same (hb.block bm hmap.lt)) hsh hN hN2 hrun
  have hbox : ∀ w', Only [bm] (fbox W) w' → w'.heap[W.heap.size]? = some (.cells #[.bool false] 4 (0, 0)) := fun w' h => (h.block W.heap.size (by simp) (by have := hmap.lt; simp; omega)).trans (MapKept.heap_alloc W (.cells #[.bool false] 4)).1
  have hset : ∀ (w1 : World) (b : Bool), Only [bm] (fbox W) w1 → Only [bm] W (w1.setCell ⟨W.heap.size, 0, none⟩ (.bool b)) ∧ (w1.setCell ⟨W.heap.size, 0, none⟩ (.bool b)).heap[bm]? = w1.heap[bm]? := fun w1 b h => by
    have hne : bm ≠ W.heap.size := by have := hmap.lt; omega
    have h1 : Only [bm] W w1 := (Only.of_below (B := [bm]) hb).trans h (fun r hr => .inl hr)
    refine ⟨⟨h1.os, h1.tape, h1.output, by simpa using h1.size, fun k hk hn => ?_⟩, Below.heap_setCell _ _ _ bm hne⟩
    rw [Below.heap_setCell _ _ _ k (by show k ≠ W.heap.size; omega)]
    exact h1.block k hk hn
  cases res with
  | none =>
    refine (fits_no 85 _ enter60 W (fun w' => Only [bm] (fbox W) w') (hc.mono fun e w' h => ?_)).mono ?_
    · obtain ⟨h1, h2⟩ := h
      exact ⟨h2, hbox w' h1, h1⟩
    · rintro e w' ⟨rfl, w1, _, hq, rfl⟩
      exact ⟨rfl, (hset w1 false hq).1, fun τ h => by cases h⟩
  | some τ =>
    refine (fits_yes 85 _ enter60 W (fun w' => MOut w0 (fbox W) bm N (some τ) (.returned (.tuple #[])) w') (hc.mono fun e w' h => ?_)).mono ?_
    · have h1 := h.1
      obtain ⟨_, he, h2⟩ := h
      exact ⟨he, hbox w' h1, h1, rfl, h2⟩
    · rintro e w' ⟨rfl, w1, _, hq, rfl⟩
      obtain ⟨h1, _, σ, n, hm, hτ, hn, hs⟩ := hq
      refine ⟨rfl, (hset w1 true h1).1, fun τ' e => ?_⟩
      cases e
      exact ⟨σ, n, hm.same (hset w1 true h1).2, hτ, hn, hs⟩

/-- The world ahead of fits. -/
abbrev mW (w : World) (p : T) (sp : Value) (t : T) (st : Value) : World := ((tbox2 w p sp t st).alloc (.cells #[.map (some (w.heap.size + 1 + 1 + 1))] 121)).alloc (.map #[] 0)

theorem mW_heap (w : World) (p : T) (sp : Value) (t : T) (st : Value) : (mW w p sp t st).heap[w.heap.size]? = some (.cells #[.int .i64 p.v, .string p.fn, sp] 32 (0, 0)) ∧ (mW w p sp t st).heap[w.heap.size + 1]? = some (.cells #[.int .i64 t.v, .string t.fn, st] 32 (0, 0)) ∧
    (mW w p sp t st).heap[w.heap.size + 1 + 1]? = some (.cells #[.map (some (w.heap.size + 1 + 1 + 1))] 121 (0, 0)) ∧ MapIs (mW w p sp t st) 3 (w.heap.size + 1 + 1 + 1) (fun _ => none) 0 := by
  have b2 := below_box2 (tbox2 w p sp t st) (.cells #[.map (some (w.heap.size + 1 + 1 + 1))] 121) (.map #[] 0)
  have b1 := below_box (w.alloc (tbox p sp)) (tbox t st)
  have b3 := below_box ((tbox2 w p sp t st).alloc (.cells #[.map (some (w.heap.size + 1 + 1 + 1))] 121)) (.map #[] 0)
  refine ⟨?_, ?_, ?_, ?_⟩
  · refine (b2.block _ (by simp; omega)).trans ((b1.block _ (by simp)).trans (MapKept.heap_alloc w (tbox p sp)).1)
  · have := (MapKept.heap_alloc (w.alloc (tbox p sp)) (tbox t st)).1
    rw [World.size_alloc] at this
    exact (b2.block _ (by simp)).trans this
  · have := (MapKept.heap_alloc (tbox2 w p sp t st) (.cells #[.map (some (w.heap.size + 1 + 1 + 1))] 121)).1
    rw [World.size_alloc, World.size_alloc] at this
    exact (b3.block _ (by simp)).trans this
  · have := MapIs.made ((tbox2 w p sp t st).alloc (.cells #[.map (some (w.heap.size + 1 + 1 + 1))] 121)) 3
    rw [World.size_alloc, World.size_alloc, World.size_alloc] at this
    exact this

set_option maxRecDepth 100000 in
set_option maxHeartbeats 2000000 in
theorem matched_any (p t : T) (sp st : Value) (w : World) (res : Option Ta) (hp : ArgsAt w sp p.args) (ht : ArgsAt w st t.args) (hsh : p.shape = true) (hN : p.nn ≤ 1073741824) (hrun : MRun [(p, t)] (fun _ => none) res) :
    Calls Tryz.prog 60 #[tval p sp, tval t st] w fun e W => MAns w p res e W := by
  obtain ⟨pa, pc, rfl, _, _⟩ := hp.slice
  obtain ⟨ta, tc, rfl, _, _⟩ := ht.slice
  have hbW : Below w.heap.size w (mW w p (.slice pa p.args.length pc) t (.slice ta t.args.length tc)) := (below_box2 w _ _).trans ((below_box2 (tbox2 w p (.slice pa p.args.length pc) t (.slice ta t.args.length tc)) _ _).mono (by simp; omega))
  obtain ⟨e0, e1, e2, e3⟩ := mW_heap w p (.slice pa p.args.length pc) t (.slice ta t.args.length tc)
  have hfit := fit_any w _ w.heap.size (w.heap.size + 1) (w.heap.size + 1 + 1) (w.heap.size + 1 + 1 + 1) p.nn p t (.slice pa p.args.length pc) (.slice ta t.args.length tc) res hbW hp ht e0 e1 e2 (by omega) (by omega) e3 hsh (Nat.le_refl _) hN hrun
  have hfit2 := hfit.mono (R' := fun e W' => e = .returned (.bool res.isSome) ∧ W'.heap[w.heap.size + 1 + 1]? = some (.cells #[.map (some (w.heap.size + 1 + 1 + 1))] 121 (0, 0)) ∧ Hid (Below w.heap.size w W' ∧ ∀ τ, res = some τ → ∃ σ n, MapIs W' 3 (w.heap.size + 1 + 1 + 1) (pm σ) n ∧ σ.ta = τ ∧ n ≤ p.nn ∧ ∀ x t sl, σ x = some (t, sl) → ArgsAt w sl t.args ∧ Fit64 x)) (fun e W' h => ⟨h.1, (h.2.1.block _ (Array.getElem?_eq_some_iff.1 e2).1 (by simp)).trans e2, hbW.trans (h.2.1.below hbW.size (fun r hr => by simp at hr; omega)), h.2.2⟩)
  clear hfit e0 e1 e2 e3 hbW hp ht hrun
  have hmf : ∀ (fn : Fn) (first cap : Array Value) (w : World), (Instr.makeFunc fn first cap).run Tryz.prog w = .ok (.func fn first cap) w := fun _ _ _ _ => rfl
  have hmm := @run_makeMap Tryz.prog
  go_enter Tryz.func60, Tryz.ntmps60
  go_wp2_with (go_at_call 84; refine hfit2.mono ?_; rintro e W' ⟨rfl, hbx, HF⟩; obtain ⟨c1, z1⟩ := one_facts hbx)
  refine bodyPost_ret (v := .tuple #[.map (some (w.heap.size + 1 + 1 + 1)), .bool res.isSome]) (by simp [results, Tryz.results60, go_sem, *]) rfl ?_
  have hne : ∀ k, k ≠ w.heap.size + 1 + 1 → (W'.setCell ⟨w.heap.size + 1 + 1, 0, none⟩ (.map (some (w.heap.size + 1 + 1 + 1)))).heap[k]? = W'.heap[k]? := fun k hk => Below.heap_setCell _ _ _ k hk
  refine ⟨HF.out.1.setCell (p := ⟨w.heap.size + 1 + 1, 0, none⟩) (by show w.heap.size ≤ w.heap.size + 1 + 1; omega) _, _, rfl, fun τ hτ => ?_⟩
  obtain ⟨σ, n, hm, h⟩ := HF.out.2 τ hτ
  exact ⟨σ, n, hm.same (hne _ (by omega)), h⟩

end Go.Proofs.YtijihmncbaoklaaGreat
