import Derived.Test.YtijihmncbaoklaaGreatPC
import Derived.Test.YtijihmncbaoklaaGreatSE
import Derived.Test.YtijihmncbaoklaaGreatPA
import Derived.Test.YtijihmncbaoklaaGreatD

/-
  fits: what comes to its end, and what leaves by a panic.
-/
namespace Go.Proofs.YtijihmncbaoklaaGreat
open Go.RowKit

/-- The variable in which fits holds its answer. -/
abbrev fbox (w : World) : World := w.alloc (.cells #[.bool false] 4)

theorem one_facts {X : World} {n ty : Nat} {u : Value} (h : X.heap[n]? = some (.cells #[u] ty (0, 0))) : X.cell? ⟨n, 0, none⟩ = some u ∧ X.frozen? ⟨n, 0, none⟩ = false := by
  constructor <;> simp [World.cell?, World.frozen?, h]

set_option maxHeartbeats 1000000 in
theorem fits_yes (g : Nat) (lb : Array Value) (eg : ∀ args w, (callFunc g args).run Tryz.prog w = .ok (.enter g args) w) (w : World) (Q : World → Prop)
    (hc : Calls Tryz.prog g lb (fbox w) fun e w' => e = .returned (.tuple #[]) ∧ w'.heap[w.heap.size]? = some (.cells #[.bool false] 4 (0, 0)) ∧ Q w') :
    Calls Tryz.prog 84 #[.func (.func g) #[] lb] w fun e w' => e = .returned (.bool true) ∧ ∃ w1, w1.heap[w.heap.size]? = some (.cells #[.bool false] 4 (0, 0)) ∧ Q w1 ∧ w' = w1.setCell ⟨w.heap.size, 0, none⟩ (.bool true) := by
  have hmf : ∀ (fn : Fn) (first cap : Array Value) (w : World), (Instr.makeFunc fn first cap).run Tryz.prog w = .ok (.func fn first cap) w := fun _ _ _ _ => rfl
  go_enter_defers Tryz.func84, Tryz.ntmps84
  go_wp2_with (go_at_fn g; refine hc.mono ?_; rintro e w1 ⟨rfl, hb, hq⟩; obtain ⟨c1, z1⟩ := one_facts hb)
  refine leaves_cons (f := 114) (args := #[.pointer (some ⟨w.heap.size, 0, none⟩)]) (by simp) (by simp [go_sem]) ?_
  refine (catch_idle ⟨w.heap.size, 0, none⟩ _).mono ?_
  rintro e u' w'' ⟨rfl, rfl, rfl⟩
  refine ⟨.bool true, ?_, rfl, w1, hb, hq, rfl⟩
  simp [results, Tryz.results84, go_sem, c1]

set_option maxHeartbeats 1000000 in
theorem fits_no (g : Nat) (lb : Array Value) (eg : ∀ args w, (callFunc g args).run Tryz.prog w = .ok (.enter g args) w) (w : World) (Q : World → Prop)
    (hc : Calls Tryz.prog g lb (fbox w) fun e w' => e = .panicked misfit ∧ w'.heap[w.heap.size]? = some (.cells #[.bool false] 4 (0, 0)) ∧ Q w') :
    Calls Tryz.prog 84 #[.func (.func g) #[] lb] w fun e w' => e = .returned (.bool false) ∧ ∃ w1, w1.heap[w.heap.size]? = some (.cells #[.bool false] 4 (0, 0)) ∧ Q w1 ∧ w' = w1.setCell ⟨w.heap.size, 0, none⟩ (.bool false) := by
  have hmf : ∀ (fn : Fn) (first cap : Array Value) (w : World), (Instr.makeFunc fn first cap).run Tryz.prog w = .ok (.func fn first cap) w := fun _ _ _ _ => rfl
  go_enter_defers Tryz.func84, Tryz.ntmps84
  go_wp2_with (go_at_fn g; refine hc.mono ?_; rintro e w1 ⟨rfl, hb, hq⟩; obtain ⟨c1, z1⟩ := one_facts hb)
  refine leaves_cons (f := 114) (args := #[.pointer (some ⟨w.heap.size, 0, none⟩)]) (by simp) (by simp [go_sem]) ?_
  refine (catch_panicking ⟨w.heap.size, 0, none⟩ false 174 _ [] _ c1 z1).mono ?_
  rintro e u' w'' ⟨rfl, rfl, rfl⟩
  refine ⟨.bool false, ?_, rfl, w1, hb, hq, rfl⟩
  simp [results, Tryz.results84, go_sem, c1]

end Go.Proofs.YtijihmncbaoklaaGreat

/-
  unify.stand: what the variables of a pattern stand for.
-/
namespace Go.Proofs.YtijihmncbaoklaaGreat
open Go.RowKit Go.Maps

/-- What stands for each variable, and where its arguments lie. -/
abbrev Sg := Int → Option (T × Value)

def pm (σ : Sg) : Value → Option Value
  | .int .i64 v => (σ v).map fun q => tval q.1 q.2
  | _ => none

def Sg.put (σ : Sg) (v : Int) (t : T) (sl : Value) : Sg := fun x => if x = v then some (t, sl) else σ x

theorem pm_put (σ : Sg) (v : Int) (t : T) (sl : Value) : upd (pm σ) (.int .i64 v) (tval t sl) = pm (σ.put v t sl) := by
  funext x
  unfold upd
  by_cases h : x = .int .i64 v
  · subst h
    simp [pm, Sg.put]
  · rw [if_neg h]
    unfold pm
    split
    · rename_i y
      have : y ≠ v := fun e => h (by rw [e])
      simp [Sg.put, this]
    · rfl

theorem zeroT (w : World) : (zeroValue 32).run Tryz.prog w = .ok (.agg #[.int .i64 0, .string ⟨#[]⟩, .slice none 0 0]) w := by kernel_rfl

/-- Behind the copy of what stood there. -/
abbrev stW (W : World) (p : T) (sp : Value) (u v s : Value) : World := (W.alloc (tbox p sp)).alloc (.cells #[u, v, s] 32)

set_option maxRecDepth 100000 in
set_option maxHeartbeats 1000000 in
theorem stand_new (σ : Sg) (b n : Nat) (v : Int) (p : T) (pa : Option Addr) (pn pc : Nat) (W : World) (hm : MapIs W 3 b (pm σ) n) (hn : n ≤ 1073741824) (hv : Fit64 v) (h0 : σ v = none) :
    Calls Tryz.prog 87 #[.map (some b), .int .i64 v, tval p (.slice pa pn pc)] W fun e W' => e = .returned (.tuple #[]) ∧ MapIs W' 3 b (pm (σ.put v p (.slice pa pn pc))) (n + 1) ∧ Only [b] W W' := by
  have hb := below_box W (tbox p (.slice pa pn pc))
  have hno : pm σ (.int .i64 v) = none := by simp [pm, h0]
  have hm1 : MapIs (W.alloc (tbox p (.slice pa pn pc))) 3 b (pm σ) n := hm.same (hb.block b hm.lt)
  have hlk := ((hm1.look keyed3 Tryz.underlying121 (zeroT _) (key3 hv)).2 hno).1
  have hbB : Below W.heap.size W (stW W p (.slice pa pn pc) (.int .i64 0) (.string ⟨#[]⟩) (.slice none 0 0)) := below_box2 W _ _
  obtain ⟨W', hrun, hM, hg⟩ := (hm.same (hbB.block b hm.lt)).put keyed3 Tryz.underlying121 (by unfold maxLen; omega) (key3 hv) (tval p (.slice pa pn pc))
  rw [hno, pm_put] at hM
  simp only at hM
  have hO : Only [b] W W' := (Only.of_below (B := [b]) hbB).trans (B' := [b]) (Only.of_grown hg (fun r e => by cases e; simp)) (fun r hr => .inl hr)
  clear hg hbB hm1 hno h0
  go_enter Tryz.func87, Tryz.ntmps87
  go_wp2_with (refine wpList_mapUpdate_run rfl 121 _ _ _ rfl (.map (some b)) (.int .i64 v) (tval p (.slice pa pn pc)) rfl rfl rfl hrun ?_)
  refine bodyPost_end (results_none rfl _ _ _) rfl ?_
  exact ⟨rfl, hM, hO⟩

set_option maxRecDepth 100000 in
set_option maxHeartbeats 1000000 in
theorem stand_same (σ : Sg) (b n : Nat) (v : Int) (p t : T) (sl sp : Value) (W : World) (hm : MapIs W 3 b (pm σ) n) (hn : n ≤ 1073741824) (hv : Fit64 v) (h0 : σ v = some (t, sl)) (hs : ArgsAt W sl t.args) (hp : ArgsAt W sp p.args) (he : t = p) :
    Calls Tryz.prog 87 #[.map (some b), .int .i64 v, tval p sp] W fun e W' => e = .returned (.tuple #[]) ∧ MapIs W' 3 b (pm (σ.put v p sp)) n ∧ Only [b] W W' := by
  obtain ⟨ta, tc, rfl, _, _⟩ := hs.slice
  obtain ⟨pa, pc, rfl, _, _⟩ := hp.slice
  have hb := below_box W (tbox p (.slice pa p.args.length pc))
  have hno : pm σ (.int .i64 v) = some (tval t (.slice ta t.args.length tc)) := by simp [pm, h0]
  have hm1 : MapIs (W.alloc (tbox p (.slice pa p.args.length pc))) 3 b (pm σ) n := hm.same (hb.block b hm.lt)
  have hlk := ((hm1.look keyed3 Tryz.underlying121 (zeroT _) (key3 hv)).1 _ hno).1
  have hbB : Below W.heap.size W (stW W p (.slice pa p.args.length pc) (.int .i64 t.v) (.string t.fn) (.slice ta t.args.length tc)) := below_box2 W _ _
  have hsame := (tsame_any t) p (.slice ta t.args.length tc) (.slice pa p.args.length pc) _ (ArgsAt.keep hbB (Nat.le_refl _) hs) (ArgsAt.keep hbB (Nat.le_refl _) hp)
  rw [same_iff.2 he] at hsame
  have cB := tbox_cells W p (.slice pa p.args.length pc)
  have key : ∀ w3, Below (stW W p (.slice pa p.args.length pc) (.int .i64 t.v) (.string t.fn) (.slice ta t.args.length tc)).heap.size (stW W p (.slice pa p.args.length pc) (.int .i64 t.v) (.string t.fn) (.slice ta t.args.length tc)) w3 → ∃ W', (Instr.mapUpdate 121 (.map (some b)) (.int .i64 v) (tval p (.slice pa p.args.length pc))).run Tryz.prog w3 = .ok () W' ∧ MapIs W' 3 b (pm (σ.put v p (.slice pa p.args.length pc))) n ∧ Only [b] W W' ∧ w3.cell? ⟨W.heap.size, 0, none⟩ = some (.int .i64 p.v) ∧ w3.cell? ⟨W.heap.size, 1, none⟩ = some (.string p.fn) ∧ w3.cell? ⟨W.heap.size, 2, none⟩ = some (.slice pa p.args.length pc) := by
    intro w3 h3
    have hb3 : Below W.heap.size W w3 := hbB.trans (h3.mono (by simp; omega))
    obtain ⟨W', hrun, hM, hg⟩ := (hm.same (hb3.block b hm.lt)).put keyed3 Tryz.underlying121 (by unfold maxLen; omega) (key3 hv) (tval p (.slice pa p.args.length pc))
    rw [hno, pm_put] at hM
    simp only at hM
    have hq := (below_box (W.alloc (tbox p (.slice pa p.args.length pc))) (.cells #[.int .i64 t.v, .string t.fn, .slice ta t.args.length tc] 32)).trans (h3.mono (by simp))
    exact ⟨W', hrun, hM, (Only.of_below (B := [b]) hb3).trans (B' := [b]) (Only.of_grown hg (fun r e => by cases e; simp)) (fun r hr => .inl hr), kc hq (by simp) cB.1, kc hq (by simp) cB.2.1, kc hq (by simp) cB.2.2⟩
  clear hbB hm1 hno h0 cB hs hp hm he
  go_enter Tryz.func87, Tryz.ntmps87
  go_wp2_with (first
    | (refine wpList_mapUpdate_run rfl 121 _ _ _ rfl (.map (some b)) (.int .i64 v) (tval p (.slice pa p.args.length pc)) rfl rfl rfl hrun ?_)
    | (go_at_call 115; refine hsame.mono ?_; rintro e w3 ⟨rfl, h3⟩; obtain ⟨W', hrun, hM, hO, c0, c1, c2⟩ := key w3 h3; clear key h3))
  refine bodyPost_end (results_none rfl _ _ _) rfl ?_
  exact ⟨rfl, hM, hO⟩

set_option maxRecDepth 100000 in
set_option maxHeartbeats 1000000 in
theorem stand_no (σ : Sg) (b n : Nat) (v : Int) (p t : T) (sl sp : Value) (W : World) (hm : MapIs W 3 b (pm σ) n) (hv : Fit64 v) (h0 : σ v = some (t, sl)) (hs : ArgsAt W sl t.args) (hp : ArgsAt W sp p.args) (he : t ≠ p) :
    Calls Tryz.prog 87 #[.map (some b), .int .i64 v, tval p sp] W fun e W' => e = .panicked misfit ∧ Below W.heap.size W W' := by
  obtain ⟨ta, tc, rfl, _, _⟩ := hs.slice
  obtain ⟨pa, pc, rfl, _, _⟩ := hp.slice
  have hb := below_box W (tbox p (.slice pa p.args.length pc))
  have hno : pm σ (.int .i64 v) = some (tval t (.slice ta t.args.length tc)) := by simp [pm, h0]
  have hm1 : MapIs (W.alloc (tbox p (.slice pa p.args.length pc))) 3 b (pm σ) n := hm.same (hb.block b hm.lt)
  have hlk := ((hm1.look keyed3 Tryz.underlying121 (zeroT _) (key3 hv)).1 _ hno).1
  have hbB : Below W.heap.size W (stW W p (.slice pa p.args.length pc) (.int .i64 t.v) (.string t.fn) (.slice ta t.args.length tc)) := below_box2 W _ _
  have hsame := ((tsame_any t) p (.slice ta t.args.length tc) (.slice pa p.args.length pc) _ (ArgsAt.keep hbB (Nat.le_refl _) hs) (ArgsAt.keep hbB (Nat.le_refl _) hp)).mono (R' := fun e w' => e = .returned (.bool (same t p)) ∧ Below W.heap.size W w') (fun e w' h => ⟨h.1, hbB.trans (h.2.mono (by simp; omega))⟩)
  rw [same_false.2 he] at hsame
  clear hbB hm1 hno h0 hs hp hm he
  go_enter Tryz.func87, Tryz.ntmps87
  go_wp2_with (go_at_call 115; refine hsame.mono ?_; rintro e w3 ⟨rfl, h3⟩)
  exact ⟨rfl, rfl, h3⟩

end Go.Proofs.YtijihmncbaoklaaGreat
