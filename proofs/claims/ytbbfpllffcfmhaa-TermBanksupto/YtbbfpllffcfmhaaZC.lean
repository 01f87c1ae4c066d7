/-
  built.
-/
import Derived.Test.YtbbfpllffcfmhaaZB
import Derived.Test.YtbbfpllffcfmhaaM
import Derived.Deep.RegionLaw
namespace Go.Proofs.Ytbbfpllffcfmhaa
open Go.RowKit Go.Maps

theorem rec_cells {W : World} {b : Nat} {e : Ent} (h : W.heap[b]? = some (.cells e.cells.toArray 84 (0, 0))) : W.cell? ⟨b, 0, none⟩ = some (.int .i64 e.nd.v) ∧ W.cell? ⟨b, 1, none⟩ = some (.string e.nd.fn) ∧ W.cell? ⟨b, 2, none⟩ = some (.int .i64 e.nd.args.length) ∧ ∀ i (hi : i < e.nd.args.length), e.nd.args.length ≤ 16 → W.cell? ⟨b, 3 + i, none⟩ = some (.int .i64 e.nd.args[i]) := by
  refine ⟨?_, ?_, ?_, fun i hi h16 => ?_⟩
  · rw [cell_of_row _ _ _ _ 84 (0, 0) h]; rfl
  · rw [cell_of_row _ _ _ _ 84 (0, 0) h]; rfl
  · rw [cell_of_row _ _ _ _ 84 (0, 0) h]; rfl
  · rw [cell_of_row _ _ _ _ 84 (0, 0) h]
    have hl : e.nd.cells.length = 19 := ndCells_len _ _ _ _
    have := pad_at e.nd.args i (by omega)
    simp only [Ent.cells, List.getElem?_toArray]
    rw [List.getElem?_append_left (by omega)]
    simp only [Nd.cells, ndCells]
    rw [List.getElem?_append_right (by simp), show 3 + i - [Value.int .i64 e.nd.v, .string e.nd.fn, .int .i64 (e.nd.args.length : Int)].length = i by simp, this, List.getD_eq_getElem?_getD, List.getElem?_eq_getElem hi]
    rfl

/-- 'append' as one step of a region that draws its order. -/
theorem step_append_own (w : World) {ops : Array Oper} {o : Oper} {a : Act} {K : Act → World → Prop} {Q : Exit → Act → World → Prop} {X : Prop} (hgd : o.guard = none) (s x : Operand) (t : TypeId)
    (ho : o.op = .call { callee := .builtin .append, args := #[s, x], argTypes := #[t, t] })
    (base : Nat) (e : TypeId) (i : TypeInfo) (z : Value) (size bytes : Nat) (ht : Try.prog.underlying t = some (.slice e)) (hi : Try.prog.info? e = some i) (hz : i.zero = some z)
    (hsize : i.size = size) (hby : i.bytes = bytes) (hzs : z.cells.size = size) (hsz : 0 < size)
    (v : Value) (n : Nat) (xs : List Value) (hs : a.eval s = v) (hown : w.ownsRow base e size v n xs)
    (ad : Addr) (m c : Nat) (news : List Value) (hx : a.eval x = .slice (some ad) m c) (hl : news.length = m * size) (hnews : ∀ j u, news[j]? = some u → w.cell? (ad.add j) = some u) (h1 : ∀ u ∈ news, u.oneCell' = true)
    (h63 : n + m ≤ maxLen) (hbytes : (n + m) * bytes ≤ 140737488355328) (hbase : base ≤ w.heap.size)
    (h : ∀ v' w', w'.ownsRow base e size v' (n + m) (xs ++ news) → w.grownBy w' v.ownBlock → (v'.ownBlock = v.ownBlock ∨ v'.ownBlock = some w.heap.size) → K (a.put o.dst v') w') :
    if Region.wanted o (yielded ops a.tmps) = true then Oper.wp Try.prog o a w K Q else X := by
  rw [if_pos (by simp [Region.wanted, hgd])]
  obtain ⟨v', w', hr, h2, h3, _, h5⟩ := run_append_own_at (P := Try.prog) w base t o.type e i z size bytes ht hi hz hsize hby hzs hsz v n xs hown ad m c news hl hnews h1 h63 hbytes hbase
  unfold Oper.wp execOp
  simp only [ho, resolve, invoke, builtin, Sem.run_bind, Sem.run_pure, Result.andThen_ok, List.map_toArray, List.map_cons, List.map_nil, hs, hx, hr]
  exact h v' w' h2 h3 h5

theorem row_slice {W : World} {base size n : Nat} {e : TypeId} {v : Value} {xs : List Value} (h : W.ownsRow base e size v n xs) : ∃ a c, v = .slice a n c := by
  obtain ⟨_, r⟩ := h
  rcases r with ⟨h1, h2⟩ | ⟨g, cap, cur, h1, _⟩
  · exact ⟨none, 0, by rw [h1]; simp_all⟩
  · exact ⟨_, _, h1⟩

theorem info24 : (Try.prog.info? 24).map (fun i => (i.zero, i.size, i.bytes)) = some (some (.agg #[.int .i64 0, .string ⟨#[]⟩, .slice none 0 0]), 3, 48) := by kernel_rfl

/-- The cells of a row of terms. -/
def flat (ps : List (T × Value)) : List Value := ps.flatMap fun p => [.int .i64 p.1.v, .string p.1.fn, p.2]
theorem flat_snoc (ps : List (T × Value)) (p : T × Value) : flat (ps ++ [p]) = flat ps ++ [.int .i64 p.1.v, .string p.1.fn, p.2] := by simp [flat]

theorem set_any {W : World} {g i : Nat} {cs : List Value} {v : Value} {ty : TypeId} (h : W.heap[g]? = some (.cells cs.toArray ty (0, 0))) : (W.setCell ⟨g, i, none⟩ v).heap[g]? = some (.cells (cs.set i v).toArray ty (0, 0)) := by
  rw [setCell_eq_setRow W g i _ ty (0, 0) _ h, setRow_heap W g _ _ ty (0, 0) h]
  simp

/-- What a round of built leaves. -/
def Built (t : T) (W : World) (k : Nat) (wr : World) : Prop := ∃ v ps, (ps.map (·.1) = t.args.take k) ∧ (∀ p ∈ ps, ∃ a c, p.2 = .slice a 0 c ∧ c ≤ 9223372036854775807) ∧ wr.ownsRow W.heap.size 24 3 v k (flat ps) ∧ wr.heap[W.heap.size + 1]? = some (.cells #[.int .i64 t.v, .string t.fn, v] 24 (0, 0)) ∧ v.ownBlock ≠ some (W.heap.size + 1) ∧ v.ownBlock ≠ some W.heap.size ∧ wr.heap[W.heap.size]? = some (.cells #[.int .i64 0, .string ⟨#[]⟩, .slice none 0 0] 24 (0, 0)) ∧ Below W.heap.size W wr

theorem built_end (t : T) (W wr X w6 : World) (k : Nat) (hlt : k < t.args.length) (v : Value) (ps : List (T × Value)) (hps : ps.map (·.1) = t.args.take k) (hsl : ∀ p ∈ ps, ∃ a c, p.2 = .slice a 0 c ∧ c ≤ 9223372036854775807) (hrow : wr.ownsRow W.heap.size 24 3 v k (flat ps)) (hv1 : v.ownBlock ≠ some (W.heap.size + 1)) (hv2 : v.ownBlock ≠ some W.heap.size) (h4 : wr.heap[W.heap.size]? = some (.cells #[.int .i64 0, .string ⟨#[]⟩, .slice none 0 0] 24 (0, 0))) (hbw : Below W.heap.size W wr)
    (a5 : Option Addr) (c5 : Nat) (hc5 : c5 ≤ 9223372036854775807) (hX : Below wr.heap.size wr X) (hN : W.heap.size + 1 < wr.heap.size) (v' : Value) (hrow6 : w6.ownsRow W.heap.size 24 3 v' (k + 1) (flat ps ++ [.int .i64 t.args[k].v, .string t.args[k].fn, .slice a5 0 c5])) (hg6 : X.grownBy w6 v.ownBlock) (hb6 : v'.ownBlock = v.ownBlock ∨ v'.ownBlock = some X.heap.size)
    (hb66 : w6.heap[W.heap.size + 1]? = some (.cells #[.int .i64 t.v, .string t.fn, v] 24 (0, 0))) : Built t W (k + 1) (w6.setCell ⟨W.heap.size + 1, 2, none⟩ v') := by
  have hXs := hX.size
  have n1 : v'.ownBlock ≠ some (W.heap.size + 1) := by
    rcases hb6 with h | h
    · rw [h]; exact hv1
    · rw [h]; intro e; have := Option.some.inj e; omega
  have n2 : v'.ownBlock ≠ some W.heap.size := by
    rcases hb6 with h | h
    · rw [h]; exact hv2
    · rw [h]; intro e; have := Option.some.inj e; omega
  have hgs := World.grownBy_setCell_any w6 (W.heap.size + 1) 2 v'
  have hset := set_any (cs := [.int .i64 t.v, .string t.fn, v]) (i := 2) (v := v') hb66
  have hX6 : Below W.heap.size X w6 := ⟨hg6.os, hg6.tape, hg6.output, hg6.size, fun r hr => hg6.block r (by have := hbw.size; omega) (fun e => by
    have := (hrow.lt r (by simp [← e])).1
    omega)⟩
  refine ⟨v', ps ++ [(t.args[k], .slice a5 0 c5)], ?_, fun p hp => ?_, ?_, hset, n1, n2, ?_, ?_⟩
  · rw [List.map_append, hps, List.take_succ_eq_append_getElem hlt]; rfl
  · rcases List.mem_append.1 hp with hp | hp
    · exact hsl p hp
    · cases List.mem_singleton.1 hp
      exact ⟨a5, c5, rfl, hc5⟩
  · rw [flat_snoc]
    exact row_keep hrow6 (fun g hg => hgs.block g (hrow6.lt g (by simp [hg])).2 (fun e => n1 (by rw [hg, e])))
  · rw [hgs.block _ (by have := hg6.size; omega) (fun e => by have := Option.some.inj e; omega), hg6.block _ (by omega) (fun e => hv2 e.symm), hX.block _ (by omega)]
    exact h4
  · exact (hbw.trans ((hX.mono hbw.size).trans hX6)).setCell (p := ⟨W.heap.size + 1, 2, none⟩) (by simp) _

theorem flat_get (ps : List (T × Value)) : ∀ (i : Nat) (h : i < ps.length), (flat ps)[i * 3]? = some (.int .i64 ps[i].1.v) ∧ (flat ps)[i * 3 + 1]? = some (.string ps[i].1.fn) ∧ (flat ps)[i * 3 + 2]? = some ps[i].2 := by
  induction ps with
  | nil => intro i h; cases h
  | cons p ps ih =>
    intro i h
    have e : flat (p :: ps) = [.int .i64 p.1.v, .string p.1.fn, p.2] ++ flat ps := by simp [flat]
    cases i with
    | zero => rw [e]; exact ⟨rfl, rfl, rfl⟩
    | succ i =>
      have := ih i (by simpa using h)
      rw [e, show (i + 1) * 3 = i * 3 + 3 by omega]
      exact this

theorem args_of_row {w : World} {base : Nat} {v : Value} {l : List T} {ps : List (T × Value)} (h : w.ownsRow base 24 3 v l.length (flat ps)) (hps : ps.map (·.1) = l) (hsl : ∀ p ∈ ps, ∃ a c, p.2 = .slice a 0 c ∧ c ≤ 9223372036854775807) (hflat : ∀ a ∈ l, a.args = []) : ArgsAt w v l := by
  have hlen : ps.length = l.length := by rw [← hps]; simp
  have hi : ∀ i (h : i < l.length), (ps[i]'(by omega)).1 = l[i] := fun i h => by subst hps; simp
  have sub : ∀ i (h : i < l.length), ArgsAt w ((fun i => (ps[i]?.map (·.2)).getD undef) i) l[i].args := by
    intro i hil
    obtain ⟨a, c, e, hc⟩ := hsl (ps[i]'(by omega)) (List.getElem_mem _)
    rw [hflat l[i] (List.getElem_mem hil)]
    simp only [List.getElem?_eq_getElem (show i < ps.length by omega), Option.map_some, Option.getD_some, e]
    exact .mk a c [] (fun _ => undef) (Nat.zero_le _) hc (fun h => by cases h) (fun i h => by cases h)
  obtain ⟨_, r⟩ := h
  rcases r with ⟨e, hn⟩ | ⟨g, cap, cur, e, hb, hg, hcap, hmax, hsz, htk⟩
  · have : l = [] := List.length_eq_zero_iff.1 hn
    subst this
    subst e
    exact .mk none 0 [] (fun _ => undef) (Nat.zero_le _) (by omega) (fun h => by cases h) (fun i h => by cases h)
  · subst e
    refine .mk _ cap l _ hcap (by unfold maxLen at hmax; omega) (fun h0 => ⟨g, 0, (Array.getElem?_eq_some_iff.1 hg).1, rfl, fun i hil => ?_⟩) sub
    obtain ⟨f1, f2, f3⟩ := flat_get ps i (by omega)
    have look : ∀ j u, j < l.length * 3 → (flat ps)[j]? = some u → w.cell? ⟨g, 0 + j, none⟩ = some u := fun j u hj hu => by
      rw [Nat.zero_add, cell_of_row _ _ _ _ 24 (0, 0) hg]
      rw [← htk, List.getElem?_take_of_lt hj] at hu
      simpa using hu
    rw [hi i hil] at f1 f2
    refine ⟨look _ _ (by omega) f1, ?_, ?_⟩
    · exact look _ _ (by omega) f2
    · refine (look _ _ (by omega) f3).trans ?_
      simp only [List.getElem?_eq_getElem (show i < ps.length by omega), Option.map_some, Option.getD_some]

set_option maxRecDepth 100000 in
set_option maxHeartbeats 2000000 in
theorem built_one (n0 Ba : Nat) (B : List Nat) (limit : Int) (es : List Ent) (free : List Int) (hnod : (es.map (·.id)).Nodup) (t : T) (e : Ent) (he : e ∈ es) (hfit : Fit64 e.id) (hv : e.nd.v = t.v) (hf : e.nd.fn = t.fn) (hal : e.nd.args.length = t.args.length) (h16 : t.args.length ≤ 16) (hflat : ∀ a ∈ t.args, a.args = [])
    (hsub : ∀ i (h : i < e.nd.args.length) (h' : i < t.args.length), ∀ X, BankSt n0 Ba B limit es free X → Calls Try.prog 56 #[.pointer (some ⟨Ba, 0, none⟩), .int .i64 e.nd.args[i]] X fun e' X' => ∃ a c, e' = .returned (tval t.args[i] (.slice a 0 c)) ∧ c ≤ 9223372036854775807 ∧ Below X.heap.size X X') (W : World) (hb : BankSt n0 Ba B limit es free W) :
    Calls Try.prog 56 #[.pointer (some ⟨Ba, 0, none⟩), .int .i64 e.id] W fun e' W' => ∃ sl, e' = .returned (tval t sl) ∧ (∀ g, sl.ownBlock = some g → W.heap.size ≤ g) ∧ ArgsAt W' sl t.args ∧ Below W.heap.size W W' := by
  obtain ⟨bn, br, fv, l, hB⟩ := hb
  obtain ⟨_, _, c2, _⟩ := hB.cells
  have hids : l.map (·.1.id) = es.map (·.id) := by rw [← hB.ents, List.map_map]; rfl
  obtain ⟨x, hx, hxi, hone, hrec⟩ := recMap_find l e.id (by rw [hids]; exact List.mem_map_of_mem he) (by rw [hids]; exact hnod)
  have hxe : x.1 = e := by
    rw [← hB.ents] at he
    obtain ⟨y, hy, rfl⟩ := List.mem_map.1 he
    rw [hone y hy rfl]
  have hrc := hB.each x hx
  rw [hxe] at hrc
  have hbel0 := below_box W (.cells #[.int .i64 0, .string ⟨#[]⟩, .slice none 0 0] 24)
  have hBa := (Array.getElem?_eq_some_iff.1 hB.head).1
  have hxl := (Array.getElem?_eq_some_iff.1 hrc).1
  obtain ⟨r0, r1, r2, r3⟩ := rec_cells hrc
  rw [hv] at r0
  rw [hf] at r1
  have c2' := kc hbel0 hBa c2
  have r0' := kc hbel0 hxl r0
  have r1' := kc hbel0 hxl r1
  have hlk : (Instr.lookup 73 (.map (some br)) (.int .i64 e.id) false).run Try.prog (W.alloc (.cells #[.int .i64 0, .string ⟨#[]⟩, .slice none 0 0] 24)) = .ok (.pointer (some ⟨x.2, 0, none⟩)) (W.alloc (.cells #[.int .i64 0, .string ⟨#[]⟩, .slice none 0 0] 24)) := (((hB.recs.same (hbel0.block br hB.recs.lt)).look keyed3 Try.underlying73 (zero85 _) (key3 hfit)).1 _ hrec).2
  have hne1 : W.heap.size + 1 ≠ x.2 := by omega
  have hne2 : W.heap.size ≠ x.2 := by omega
  go_enter Try.func56, Try.ntmps56
  go_wp2
  go_region_held3 (fun w => w.cell? ⟨x.2, 0, none⟩ = some (.int .i64 t.v) ∧ w.cell? ⟨x.2, 1, none⟩ = some (.string t.fn)) (first | exact ⟨r0', r1'⟩ | go_keep) (fail)
  have hbel2 : Below W.heap.size W ((W.alloc (.cells #[.int .i64 0, .string ⟨#[]⟩, .slice none 0 0] 24)).alloc (.cells #[.int .i64 t.v, .string t.fn, .slice none 0 0] 24)).drew := (below_box2 W _ _).drew
  have r2' := kc hbel2 hxl r2
  go_wp2_with (go_at_call 68; refine (arguments_any x.2 _ _ r2' (by omega)).mono ?_; rintro e' W3 ⟨rfl, q, rfl⟩)
  go_loopw [31] (fun i wr => ∃ k : Nat, k ≤ t.args.length ∧ i = .int .i64 k ∧ Hid (Built t W k wr)) (fun i _ => t.args.length - (intOf i).toNat)
  case atStart =>
    have h1 := (MapKept.heap_alloc W (.cells #[.int .i64 0, .string ⟨#[]⟩, .slice none 0 0] 24)).1
    have h2 := (MapKept.heap_alloc (W.alloc (.cells #[.int .i64 0, .string ⟨#[]⟩, .slice none 0 0] 24)) (.cells #[.int .i64 t.v, .string t.fn, .slice none 0 0] 24)).1
    rw [World.size_alloc] at h2
    have h3 : ∀ k, k < W.heap.size + 2 → ∀ X : World, X = ((W.alloc (.cells #[.int .i64 0, .string ⟨#[]⟩, .slice none 0 0] 24)).alloc (.cells #[.int .i64 t.v, .string t.fn, .slice none 0 0] 24)) → (X.drewN (1 + q)).heap[k]? = X.heap[k]? := fun k hk X hX => (below_drewN (Below.refl X.heap.size X) (1 + q)).block k (by rw [hX]; simp; omega)
    refine ⟨0, Nat.zero_le _, rfl, .slice none 0 0, [], rfl, (fun p hp => by cases hp), World.ownsRow_nil _ _ _ _, (h3 _ (by omega) _ rfl).trans h2, by simp [Value.ownBlock], by simp [Value.ownBlock], (h3 _ (by omega) _ rfl).trans ?_, below_drewN (below_box2 W _ _) (1 + q)⟩
    rw [Below.heap_alloc _ _ _ (by simp)]
    exact h1
  case round =>
    obtain ⟨k, hk, rfl, v, ps, hps, hsl, hrow, hbox, hv1, hv2, h4, hbw⟩ := hrel
    by_cases hlt : k < t.args.length
    · have harg := kc hbw hxl (r3 k (by omega) (by omega))
      have hki : ((k : Int) < (t.args.length : Int)) := by omega
      have hcv : wr.cell? ⟨W.heap.size + 1, 2, none⟩ = some v := by rw [cell_of_row _ _ _ #[Value.int .i64 t.v, .string t.fn, v] 24 (0, 0) hbox]; rfl
      have hdb : Below wr.heap.size wr wr.drew := (Below.refl _ _).drew
      have hB4 : BankSt n0 Ba B limit es free wr.drew := ⟨bn, br, fv, l, hB.keep (fun r hr => (hdb.block r (Nat.lt_of_lt_of_le (hB.there r hr) hbw.size)).trans (hbw.block r (hB.there r hr)))⟩
      have hown := row_keep (W' := wr.drew) hrow (fun g hg => hdb.block g (hrow.lt g (by simp [hg])).2)
      have hcall := (hsub k (by omega) hlt wr.drew hB4).mono (R' := fun e' W5 => ∃ a5 c5, e' = .returned (.agg #[.int .i64 t.args[k].v, .string t.args[k].fn, .slice a5 0 c5]) ∧ c5 ≤ 9223372036854775807 ∧ W5.cell? ⟨W.heap.size + 1, 2, none⟩ = some v ∧ (∀ o, (W5.alloc o).cell? ⟨W.heap.size + 1, 2, none⟩ = some v) ∧ Hid (∀ o, (W5.alloc o).ownsRow W.heap.size 24 3 v k (flat ps)) ∧ Hid (∀ o, (W5.alloc o).heap[W.heap.size + 1]? = some (.cells #[.int .i64 t.v, .string t.fn, v] 24 (0, 0))) ∧ Hid (∀ o, Below wr.heap.size wr (W5.alloc o))) (by
        rintro e' W5 ⟨a5, c5, he5, hc5, hb5⟩
        have hb5' : Below wr.heap.size wr W5 := hdb.trans hb5
        have hN6l := (Array.getElem?_eq_some_iff.1 hbox).1
        have hb6 : ∀ o, Below wr.heap.size wr (W5.alloc o) := fun o => hb5'.trans ((below_box W5 o).mono hb5'.size)
        exact ⟨a5, c5, he5, hc5, kc hb5' hN6l hcv, fun o => kc (hb6 o) hN6l hcv, fun o => row_keep hrow (fun g hg => (hb6 o).block g (hrow.lt g (by simp [hg])).2), fun o => ((hb6 o).block _ hN6l).trans hbox, hb6⟩)
      obtain ⟨i0, hi0, hiz⟩ := Option.map_eq_some_iff.1 info24
      simp only [Prod.mk.injEq] at hiz
      obtain ⟨hz0, hz1, hz2⟩ := hiz
      have hcvd : wr.drew.cell? ⟨W.heap.size + 1, 2, none⟩ = some v := hcv
      have hN6l := (Array.getElem?_eq_some_iff.1 hbox).1
      clear hsub hB4 hown hdb hB
      go_wp2
      go_region_law (first
        | (refine step_append_own _ rfl (.tmp 36) (.tmp 40) 22 rfl W.heap.size 24 i0 _ 3 48 Try.underlying22 hi0 hz0 hz1 hz2 rfl (by decide) v k (flat ps) rfl (HW5 _) ⟨W5.heap.size, 0, none⟩ 1 1 [.int .i64 t.args[k].v, .string t.args[k].fn, .slice a5 0 c5] rfl rfl (fun j u hj => by { rw [Addr.add_mid, Nat.zero_add, cell_of_row _ _ _ _ 24 (0, 0) (MapKept.heap_alloc W5 _).1]; simpa using hj }) (by { intro u hu; simp only [List.mem_cons, List.not_mem_nil, or_false] at hu; rcases hu with rfl | rfl | rfl <;> rfl }) (by unfold maxLen; omega) (by omega) (Nat.le_trans (by omega) (HB5 _).size) ?_; intro v' w6 hrow6 hg6 hb6; obtain ⟨a6, c6, rfl⟩ := row_slice hrow6; have hb66 := (hg6.block (W.heap.size + 1) (Array.getElem?_eq_some_iff.1 (HX5 _)).1 (fun h => hv1 h.symm)).trans (HX5 _); have hc6 : w6.cell? ⟨W.heap.size + 1, 2, none⟩ = some v := by { rw [cell_of_row _ _ _ #[Value.int .i64 t.v, .string t.fn, v] 24 (0, 0) hb66]; rfl }; have hf6 : w6.frozen? ⟨W.heap.size + 1, 2, none⟩ = false := by { simp [World.frozen?, hb66] })
        | (go_simp; go_at_call 56; refine hcall.mono ?_; rintro _ W5 ⟨a5, c5, rfl, hc5, hcell5, hcell5', HW5, HX5, HB5⟩; go_simp))
      all_goals (
        have HE : Hid (Built t W (k + 1) (w6.setCell ⟨W.heap.size + 1, 2, none⟩ (.slice a6 (k + 1) c6))) := built_end t W wr _ w6 k hlt v ps hps hsl hrow hv1 hv2 h4 hbw a5 c5 hc5 (HB5 _) hN6l _ hrow6 hg6 hb6 hb66
        go_wp2
        go_roundw
        case rel => exact ⟨k + 1, by omega, by go_num, HE⟩
        case measure => simp [intOf]; omega)
    · have hke : k = t.args.length := by omega
      subst hke
      obtain ⟨av, cv, rfl⟩ := row_slice hrow
      have b0 : wr.cell? ⟨W.heap.size + 1, 0, none⟩ = some (.int .i64 t.v) := by rw [cell_of_row _ _ _ _ 24 (0, 0) hbox]; rfl
      have b1 : wr.cell? ⟨W.heap.size + 1, 1, none⟩ = some (.string t.fn) := by rw [cell_of_row _ _ _ _ 24 (0, 0) hbox]; rfl
      have b2 : wr.cell? ⟨W.heap.size + 1, 2, none⟩ = some (.slice av t.args.length cv) := by rw [cell_of_row _ _ _ _ 24 (0, 0) hbox]; rfl
      have d0 : wr.cell? ⟨W.heap.size, 0, none⟩ = some (.int .i64 0) := by rw [cell_of_row _ _ _ _ 24 (0, 0) h4]; rfl
      have d1 : wr.cell? ⟨W.heap.size, 1, none⟩ = some (.string ⟨#[]⟩) := by rw [cell_of_row _ _ _ _ 24 (0, 0) h4]; rfl
      have d2 : wr.cell? ⟨W.heap.size, 2, none⟩ = some (.slice none 0 0) := by rw [cell_of_row _ _ _ _ 24 (0, 0) h4]; rfl
      have dz : ∀ o, wr.frozen? ⟨W.heap.size, o, none⟩ = false := fun o => by simp [World.frozen?, h4]
      have HA : Hid (ArgsAt (((wr.setCell ⟨W.heap.size, 0, none⟩ (.int .i64 t.v)).setCell ⟨W.heap.size, 1, none⟩ (.string t.fn)).setCell ⟨W.heap.size, 2, none⟩ (.slice av t.args.length cv)) (.slice av t.args.length cv) t.args ∧ Below W.heap.size W (((wr.setCell ⟨W.heap.size, 0, none⟩ (.int .i64 t.v)).setCell ⟨W.heap.size, 1, none⟩ (.string t.fn)).setCell ⟨W.heap.size, 2, none⟩ (.slice av t.args.length cv))) := by
        refine ⟨args_of_row (row_keep hrow (fun g hg => ?_)) (by rw [hps]; exact List.take_length) hsl hflat, ((hbw.setCell (p := ⟨W.heap.size, 0, none⟩) (Nat.le_refl _) _).setCell (p := ⟨W.heap.size, 1, none⟩) (Nat.le_refl _) _).setCell (p := ⟨W.heap.size, 2, none⟩) (Nat.le_refl _) _⟩
        have hgn : g ≠ W.heap.size := fun e => hv2 (by rw [hg, e])
        have st : ∀ (X : World) (o : Nat) (u : Value), (X.setCell ⟨W.heap.size, o, none⟩ u).heap[g]? = X.heap[g]? := fun X o u => Below.heap_setCell _ _ _ g hgn
        rw [st, st, st]
      have HG : Hid (∀ g, (Value.slice av t.args.length cv).ownBlock = some g → W.heap.size ≤ g) := fun g hg => (hrow.lt g (by simp [hg])).1
      clear hsub hrow hbox h4
      go_wp2
      exact bodyPost_ret (v := tval t (.slice av t.args.length cv)) (by simp [results, Try.results56, go_sem, *]) rfl ⟨_, rfl, HG, HA⟩

end Go.Proofs.Ytbbfpllffcfmhaa
