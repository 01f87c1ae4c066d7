/-
  The document's Terms: all sides of a clause.
-/
import Derived.Test.YtgnjgpplelakkaaLV
import Derived.Test.YtgnjgpplelakkaaMD
namespace Go.Proofs.Ytgnjgpplelakkaa
open Go.RowKit Go.Maps

/-- What stands in the loop of Terms. -/
structure TmI (w : World) (l : List Lt) (i : Nat) (v : Value) (ps : List (T × Value)) (W : World) : Prop where
  args : ps.map (·.1) = sidesOf (l.take i)
  ok : ∀ p ∈ ps, ArgsAt w p.2 p.1.args
  row : W.ownsRow w.heap.size 26 3 v ps.length (flatT ps)
  bel : Below w.heap.size w W

theorem sides_len (l : List Lt) : (sidesOf l).length = 2 * l.length := by
  induction l with
  | nil => rfl
  | cons x r ih =>
    have e : sidesOf (x :: r) = x.l :: x.r :: sidesOf r := rfl
    rw [e, List.length_cons, List.length_cons, List.length_cons, ih]
    omega

theorem TmI.terms {w : World} {l : List Lt} {v : Value} {ps : List (T × Value)} {W : World} (h : TmI w l l.length v ps W) : ArgsAt W v (sidesOf l) := by
  have h1 := h.args
  rw [List.take_length] at h1
  have hl : (sidesOf l).length = ps.length := by rw [← h1]; simp
  exact (argsP_of_row (P := fun _ => True) h.row hl h1 (fun _ _ => trivial) (fun p hp => (ArgsAt.belowP (ArgsAt.keep h.bel (Nat.le_refl _) (h.ok p hp))).keep (Nat.le_refl _) (fun _ _ _ => ⟨trivial, rfl⟩))).args

theorem lit6 (w : World) (v0 v1 v2 v3 v4 v5 : Value) (ty : TypeId) : ∀ j u, [v0, v1, v2, v3, v4, v5][j]? = some u → (w.alloc (.cells #[v0, v1, v2, v3, v4, v5] ty)).cell? ((⟨w.heap.size, 0, none⟩ : Addr).add j) = some u := by
  intro j u hj
  have ea : (⟨w.heap.size, 0, none⟩ : Addr).add j = ⟨w.heap.size, j, none⟩ := by unfold Addr.add; split <;> simp_all
  rw [ea, World.cell?_alloc_new]
  simpa using hj

set_option maxRecDepth 100000 in
set_option maxHeartbeats 8000000 in
theorem rterms_any (l : List Lt) (v : Value) (w : World) (hl : ClauseAt w v l) (hlen : l.length ≤ 1048576) :
    Calls Try.prog 45 #[v] w fun e w' => ∃ a c, e = .returned (.slice a (sidesOf l).length c) ∧ ArgsAt w' (.slice a (sidesOf l).length c) (sidesOf l) ∧ Below w.heap.size w w' := by
  obtain ⟨a, c, rfl⟩ := hl.slice
  have HL : Hid (ClauseAt w (.slice a l.length c) l) := hl
  clear hl
  obtain ⟨i0, hi0, hz0, hz1, hz2⟩ := info_parts Try.info26
  go_enter Try.func45, Try.ntmps45
  go_wp2
  go_loopw [3, 4] (fun vo vi wr => ∃ i : Nat, vi = .int .i64 i ∧ i ≤ l.length ∧ ∃ ps, TmI w l i vo ps wr) (fun _ vi _ => l.length - (intOf vi).toNat)
  case atStart => exact ⟨0, rfl, Nat.zero_le _, [], rfl, fun p hp => absurd hp (by simp), World.ownsRow_nil _ _ _ _, Below.refl _ _⟩
  case round =>
    obtain ⟨i, rfl, hi, ps, hI⟩ := hrel
    obtain ⟨pa, pc, hvo⟩ := row_slice hI.row
    subst hvo
    by_cases hlt : i < l.length
    · obtain ⟨bb, o, sl, sr, e1, hX0⟩ := HL.out.nth hlt
      cases e1
      have hX := (hX0.keep hI.bel).keep (Below.refl _ wr).drew
      have hss := sides_succ l i hlt
      have hpl : ps.length ≤ 2 * i := by
        have h1 := congrArg List.length hI.args
        rw [List.length_map, sides_len, List.length_take] at h1
        omega
      obtain ⟨x, hx⟩ : ∃ x, l[i] = x := ⟨_, rfl⟩
      simp only [hx] at hX hX0 hss
      obtain ⟨c0, c1, c2, c3, c4, c5, c6⟩ : wr.drew.cell? ⟨bb, o + i * 7, none⟩ = some (.bool x.neg) ∧ wr.drew.cell? ⟨bb, o + i * 7 + 1, none⟩ = some (.int .i64 x.l.v) ∧ wr.drew.cell? ⟨bb, o + i * 7 + 2, none⟩ = some (.string x.l.fn) ∧ wr.drew.cell? ⟨bb, o + i * 7 + 3, none⟩ = some sl ∧ wr.drew.cell? ⟨bb, o + i * 7 + 4, none⟩ = some (.int .i64 x.r.v) ∧ wr.drew.cell? ⟨bb, o + i * 7 + 5, none⟩ = some (.string x.r.fn) ∧ wr.drew.cell? ⟨bb, o + i * 7 + 6, none⟩ = some sr := ⟨hX.c0, hX.c1, hX.c2, hX.c3, hX.c4, hX.c5, hX.c6⟩
      obtain ⟨la, lc, rfl, _⟩ := hX.al.slice
      obtain ⟨ra, rc, rfl, _⟩ := hX.ar.slice
      have i0' : (i : Int) < (l.length : Int) := by omega
      have i1' : (0 : Int) ≤ (i : Int) := by omega
      have hbd : Below wr.heap.size wr wr.drew := (Below.refl _ wr).drew
      have hba := below_box wr.drew (.cells #[.int .i64 x.l.v, .string x.l.fn, .slice la x.l.args.length lc, .int .i64 x.r.v, .string x.r.fn, .slice ra x.r.args.length rc] 26)
      have hb2 : Below wr.heap.size wr (wr.drew.alloc (.cells #[.int .i64 x.l.v, .string x.l.fn, .slice la x.l.args.length lc, .int .i64 x.r.v, .string x.r.fn, .slice ra x.r.args.length rc] 26)) := hbd.trans hba
      have HR : Hid ((wr.drew.alloc (.cells #[.int .i64 x.l.v, .string x.l.fn, .slice la x.l.args.length lc, .int .i64 x.r.v, .string x.r.fn, .slice ra x.r.args.length rc] 26)).ownsRow w.heap.size 26 3 (.slice pa ps.length pc) ps.length (flatT ps)) := row_keep hI.row (fun g hg => hb2.block g (hI.row.lt g hg).2)
      have HB : Hid (w.heap.size ≤ (wr.drew.alloc (.cells #[.int .i64 x.l.v, .string x.l.fn, .slice la x.l.args.length lc, .int .i64 x.r.v, .string x.r.fn, .slice ra x.r.args.length rc] 26)).heap.size) := Nat.le_trans hI.bel.size hb2.size
      have HI : Hid (TmI w l i (.slice pa ps.length pc) ps wr ∧ ArgsAt w (.slice la x.l.args.length lc) x.l.args ∧ ArgsAt w (.slice ra x.r.args.length rc) x.r.args) := ⟨hI, hX0.al, hX0.ar⟩
      have HE : Hid (∀ v' w6, w6.ownsRow w.heap.size 26 3 v' (ps.length + 2) (flatT ps ++ [.int .i64 x.l.v, .string x.l.fn, .slice la x.l.args.length lc, .int .i64 x.r.v, .string x.r.fn, .slice ra x.r.args.length rc]) → (wr.drew.alloc (.cells #[.int .i64 x.l.v, .string x.l.fn, .slice la x.l.args.length lc, .int .i64 x.r.v, .string x.r.fn, .slice ra x.r.args.length rc] 26)).grownBy w6 (Value.slice pa ps.length pc).ownBlock → TmI w l (i + 1) v' (ps ++ [(x.l, .slice la x.l.args.length lc), (x.r, .slice ra x.r.args.length rc)]) w6) := fun v' w6 h2 h3 => by
        refine ⟨?_, fun p hp => ?_, ?_, ?_⟩
        · rw [hss, List.map_append, HI.out.1.args]
          simp
        · rcases List.mem_append.1 hp with hp | hp
          · exact HI.out.1.ok p hp
          · simp at hp
            rcases hp with rfl | rfl
            · exact HI.out.2.1
            · exact HI.out.2.2
        · have e : flatT (ps ++ [(x.l, .slice la x.l.args.length lc), (x.r, .slice ra x.r.args.length rc)]) = flatT ps ++ [.int .i64 x.l.v, .string x.l.fn, .slice la x.l.args.length lc, .int .i64 x.r.v, .string x.r.fn, .slice ra x.r.args.length rc] := by simp [flatT]
          rw [e, List.length_append]
          exact h2
        · have hb4 := HI.out.1.bel.trans (hb2.mono HI.out.1.bel.size)
          exact hb4.trans ⟨h3.os, h3.tape, h3.output, h3.size, fun j hj => h3.block j (by have := hb4.size; omega) (fun e => by have := (HI.out.1.row.lt j e.symm).1; omega)⟩
      clear hX hX0 hI hx hss hba hbd hb2
      go_wp2
      go_region_law (first
        | (refine step_append_own _ rfl (.tmp 11) (.tmp 22) 24 rfl w.heap.size 26 i0 _ 3 48 Try.underlying24 hi0 hz0 hz1 hz2 rfl (by decide) (.slice pa ps.length pc) ps.length (flatT ps) rfl HR.out ⟨wr.heap.size, 0, none⟩ 2 2 [.int .i64 x.l.v, .string x.l.fn, .slice la x.l.args.length lc, .int .i64 x.r.v, .string x.r.fn, .slice ra x.r.args.length rc] rfl rfl (lit6 wr.drew _ _ _ _ _ _ 26) (by { intro y hy; simp only [List.mem_cons, List.not_mem_nil, or_false] at hy; rcases hy with rfl | rfl | rfl | rfl | rfl | rfl <;> rfl }) (by unfold maxLen; omega) (by omega) HB.out ?_; intro v' w6 hrow6 hg6 hb6; obtain ⟨a6, c6, rfl⟩ := row_slice hrow6))
      all_goals (
        have HF := HE.out _ w6 hrow6 hg6
        have HFF : Hid (TmI w l (i + 1) (.slice a6 (ps.length + 2) c6) (ps ++ [(x.l, .slice la x.l.args.length lc), (x.r, .slice ra x.r.args.length rc)]) w6) := HF
        clear HF hrow6 hg6 hb6
        go_wp2
        go_roundw
        case rel => exact ⟨i + 1, by go_num, by omega, _, HFF.out⟩
        case measure => simp [intOf]; omega)
    · have hil : i = l.length := by omega
      subst hil
      have hpl : ps.length = (sidesOf l).length := by
        have h1 := congrArg List.length hI.args
        rw [List.length_map, List.take_length] at h1
        exact h1
      have HF : Hid (ArgsAt wr (.slice pa (sidesOf l).length pc) (sidesOf l) ∧ Below w.heap.size w wr) := ⟨by have := hI.terms; rw [hpl] at this; exact this, hI.bel⟩
      rw [hpl]
      clear hI hpl
      go_wp2
      go_ret
      exact ⟨_, _, rfl, HF.out⟩

end Go.Proofs.Ytgnjgpplelakkaa
