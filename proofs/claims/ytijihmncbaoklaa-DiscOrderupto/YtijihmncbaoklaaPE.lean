/-
  unify.stand: what the variables of a pattern stand for.
-/
import Derived.Test.YtijihmncbaoklaaPA
import Derived.Test.YtijihmncbaoklaaPC
import Derived.Test.YtijihmncbaoklaaD
import Derived.Test.YtijihmncbaoklaaSE
namespace Go.Proofs.Ytijihmncbaoklaa
open Go.RowKit Go.Maps

/-- What stands for each variable, and where its arguments lie. -/
abbrev Sg := Int → Option (T × Value)

def pm (σ : Sg) : Value → Option Value
  | .int .i64 v => (σ v).map fun q => tval q.1 q.2
  | _ => none

def Sg.put (σ : Sg) (v : Int) (t : T) (sl : Value) : Sg := fun x => if x = v then some (t, sl) else σ x

theorem pm_put (σ : Sg) (v : Int) (t : T) (sl : Value) : upd (pm σ) (.int .i64 v) (tval t sl) = pm (σ.put v t sl) := by
  funext x
  unfold upd
  by_cases h : x = .int .i64 v
  · subst h
    simp [pm, Sg.put]
  · rw [if_neg h]
    unfold pm
    split
    · rename_i y
      have : y ≠ v := fun e => h (by rw [e])
      simp [Sg.put, this]
    · rfl

theorem zeroT (w : World) : (zeroValue 24).run Try.prog w = .ok (.agg #[.int .i64 0, .string ⟨#[]⟩, .slice none 0 0]) w := by kernel_rfl

/-- Behind the copy of what stood there. -/
abbrev stW (W : World) (p : T) (sp : Value) (u v s : Value) : World := (W.alloc (tbox p sp)).alloc (.cells #[u, v, s] 24)

set_option maxRecDepth 100000 in
set_option maxHeartbeats 1000000 in
theorem stand_new (σ : Sg) (b n : Nat) (v : Int) (p : T) (pa : Option Addr) (pn pc : Nat) (W : World) (hm : MapIs W 3 b (pm σ) n) (hn : n ≤ 1073741824) (hv : Fit64 v) (h0 : σ v = none) :
    Calls Try.prog 56 #[.map (some b), .int .i64 v, tval p (.slice pa pn pc)] W fun e W' => e = .returned (.tuple #[]) ∧ MapIs W' 3 b (pm (σ.put v p (.slice pa pn pc))) (n + 1) ∧ Only [b] W W' := by
  have hb := below_box W (tbox p (.slice pa pn pc))
  have hno : pm σ (.int .i64 v) = none := by simp [pm, h0]
  have hm1 : MapIs (W.alloc (tbox p (.slice pa pn pc))) 3 b (pm σ) n := hm.same (hb.block b hm.lt)
  have hlk := ((hm1.look keyed3 Try.underlying91 (zeroT _) (key3 hv)).2 hno).1
  have hbB : Below W.heap.size W (stW W p (.slice pa pn pc) (.int .i64 0) (.string ⟨#[]⟩) (.slice none 0 0)) := below_box2 W _ _
  obtain ⟨W', hrun, hM, hg⟩ := (hm.same (hbB.block b hm.lt)).put keyed3 Try.underlying91 (by unfold maxLen; omega) (key3 hv) (tval p (.slice pa pn pc))
  rw [hno, pm_put] at hM
  simp only at hM
  have hO : Only [b] W W' := (Only.of_below (B := [b]) hbB).trans (B' := [b]) (Only.of_grown hg (fun r e => by cases e; simp)) (fun r hr => .inl hr)
  clear hg hbB hm1 hno h0
  go_enter Try.func56, Try.ntmps56
  go_wp2_with (refine wpList_mapUpdate_run rfl 91 _ _ _ rfl (.map (some b)) (.int .i64 v) (tval p (.slice pa pn pc)) rfl rfl rfl hrun ?_)
  refine bodyPost_end (results_none rfl _ _ _) rfl ?_
  exact ⟨rfl, hM, hO⟩

set_option maxRecDepth 100000 in
set_option maxHeartbeats 1000000 in
theorem stand_same (σ : Sg) (b n : Nat) (v : Int) (p t : T) (sl sp : Value) (W : World) (hm : MapIs W 3 b (pm σ) n) (hn : n ≤ 1073741824) (hv : Fit64 v) (h0 : σ v = some (t, sl)) (hs : ArgsAt W sl t.args) (hp : ArgsAt W sp p.args) (he : t = p) :
    Calls Try.prog 56 #[.map (some b), .int .i64 v, tval p sp] W fun e W' => e = .returned (.tuple #[]) ∧ MapIs W' 3 b (pm (σ.put v p sp)) n ∧ Only [b] W W' := by
  obtain ⟨ta, tc, rfl, _, _⟩ := hs.slice
  obtain ⟨pa, pc, rfl, _, _⟩ := hp.slice
  have hb := below_box W (tbox p (.slice pa p.args.length pc))
  have hno : pm σ (.int .i64 v) = some (tval t (.slice ta t.args.length tc)) := by simp [pm, h0]
  have hm1 : MapIs (W.alloc (tbox p (.slice pa p.args.length pc))) 3 b (pm σ) n := hm.same (hb.block b hm.lt)
  have hlk := ((hm1.look keyed3 Try.underlying91 (zeroT _) (key3 hv)).1 _ hno).1
  have hbB : Below W.heap.size W (stW W p (.slice pa p.args.length pc) (.int .i64 t.v) (.string t.fn) (.slice ta t.args.length tc)) := below_box2 W _ _
  have hsame := (tsame_any t) p (.slice ta t.args.length tc) (.slice pa p.args.length pc) _ (ArgsAt.keep hbB (Nat.le_refl _) hs) (ArgsAt.keep hbB (Nat.le_refl _) hp)
  rw [same_iff.2 he] at hsame
  have cB := tbox_cells W p (.slice pa p.args.length pc)
  have key : ∀ w3, Below (stW W p (.slice pa p.args.length pc) (.int .i64 t.v) (.string t.fn) (.slice ta t.args.length tc)).heap.size (stW W p (.slice pa p.args.length pc) (.int .i64 t.v) (.string t.fn) (.slice ta t.args.length tc)) w3 → ∃ W', (Instr.mapUpdate 91 (.map (some b)) (.int .i64 v) (tval p (.slice pa p.args.length pc))).run Try.prog w3 = .ok () W' ∧ MapIs W' 3 b (pm (σ.put v p (.slice pa p.args.length pc))) n ∧ Only [b] W W' ∧ w3.cell? ⟨W.heap.size, 0, none⟩ = some (.int .i64 p.v) ∧ w3.cell? ⟨W.heap.size, 1, none⟩ = some (.string p.fn) ∧ w3.cell? ⟨W.heap.size, 2, none⟩ = some (.slice pa p.args.length pc) := by
    intro w3 h3
    have hb3 : Below W.heap.size W w3 := hbB.trans (h3.mono (by simp; omega))
    obtain ⟨W', hrun, hM, hg⟩ := (hm.same (hb3.block b hm.lt)).put keyed3 Try.underlying91 (by unfold maxLen; omega) (key3 hv) (tval p (.slice pa p.args.length pc))
    rw [hno, pm_put] at hM
    simp only at hM
    have hq := (below_box (W.alloc (tbox p (.slice pa p.args.length pc))) (.cells #[.int .i64 t.v, .string t.fn, .slice ta t.args.length tc] 24)).trans (h3.mono (by simp))
    exact ⟨W', hrun, hM, (Only.of_below (B := [b]) hb3).trans (B' := [b]) (Only.of_grown hg (fun r e => by cases e; simp)) (fun r hr => .inl hr), kc hq (by simp) cB.1, kc hq (by simp) cB.2.1, kc hq (by simp) cB.2.2⟩
  clear hbB hm1 hno h0 cB hs hp hm he
  go_enter Try.func56, Try.ntmps56
  go_wp2_with (first
    | (refine wpList_mapUpdate_run rfl 91 _ _ _ rfl (.map (some b)) (.int .i64 v) (tval p (.slice pa p.args.length pc)) rfl rfl rfl hrun ?_)
    | (go_at_call 81; refine hsame.mono ?_; rintro e w3 ⟨rfl, h3⟩; obtain ⟨W', hrun, hM, hO, c0, c1, c2⟩ := key w3 h3; clear key h3))
  refine bodyPost_end (results_none rfl _ _ _) rfl ?_
  exact ⟨rfl, hM, hO⟩

set_option maxRecDepth 100000 in
set_option maxHeartbeats 1000000 in
theorem stand_no (σ : Sg) (b n : Nat) (v : Int) (p t : T) (sl sp : Value) (W : World) (hm : MapIs W 3 b (pm σ) n) (hv : Fit64 v) (h0 : σ v = some (t, sl)) (hs : ArgsAt W sl t.args) (hp : ArgsAt W sp p.args) (he : t ≠ p) :
    Calls Try.prog 56 #[.map (some b), .int .i64 v, tval p sp] W fun e W' => e = .panicked misfit ∧ Below W.heap.size W W' := by
  obtain ⟨ta, tc, rfl, _, _⟩ := hs.slice
  obtain ⟨pa, pc, rfl, _, _⟩ := hp.slice
  have hb := below_box W (tbox p (.slice pa p.args.length pc))
  have hno : pm σ (.int .i64 v) = some (tval t (.slice ta t.args.length tc)) := by simp [pm, h0]
  have hm1 : MapIs (W.alloc (tbox p (.slice pa p.args.length pc))) 3 b (pm σ) n := hm.same (hb.block b hm.lt)
  have hlk := ((hm1.look keyed3 Try.underlying91 (zeroT _) (key3 hv)).1 _ hno).1
  have hbB : Below W.heap.size W (stW W p (.slice pa p.args.length pc) (.int .i64 t.v) (.string t.fn) (.slice ta t.args.length tc)) := below_box2 W _ _
  have hsame := ((tsame_any t) p (.slice ta t.args.length tc) (.slice pa p.args.length pc) _ (ArgsAt.keep hbB (Nat.le_refl _) hs) (ArgsAt.keep hbB (Nat.le_refl _) hp)).mono (R' := fun e w' => e = .returned (.bool (same t p)) ∧ Below W.heap.size W w') (fun e w' h => ⟨h.1, hbB.trans (h.2.mono (by simp; omega))⟩)
  rw [same_false.2 he] at hsame
  clear hbB hm1 hno h0 hs hp hm he
  go_enter Try.func56, Try.ntmps56
  go_wp2_with (go_at_call 81; refine hsame.mono ?_; rintro e w3 ⟨rfl, h3⟩)
  exact ⟨rfl, rfl, h3⟩

end Go.Proofs.Ytijihmncbaoklaa
