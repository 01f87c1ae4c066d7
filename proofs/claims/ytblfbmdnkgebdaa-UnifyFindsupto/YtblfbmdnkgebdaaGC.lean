import Derived.Test.YtblfbmdnkgebdaaPQ
import Derived.RegionTactic
import Derived.BigRegion

/-
  The graph in memory.
-/
namespace Go.Proofs.Ytblfbmdnkgebdaa
open Go.RowKit Go.Maps

/-- A node of the graph, and where its term's arguments lie. -/
structure Nd where
  t : T
  sl : Value
  first : Int
  up : Int
  op : Bool
  size : Int
  depth : Int

def cells8 (m : Nd) : List Value := [.int .i64 m.t.v, .string m.t.fn, m.sl, .int .i64 m.first, .int .i64 m.up, .bool m.op, .int .i64 m.size, .int .i64 m.depth]
def flat8 (ns : List Nd) : List Value := ns.flatMap cells8
theorem flat8_snoc (ns : List Nd) (m : Nd) : flat8 (ns ++ [m]) = flat8 ns ++ cells8 m := by simp [flat8]
theorem flat8_cons (ns : List Nd) (m : Nd) : flat8 (m :: ns) = cells8 m ++ flat8 ns := by simp [flat8]
theorem flat8_len (ns : List Nd) : (flat8 ns).length = ns.length * 8 := by
  induction ns with
  | nil => rfl
  | cons p r ih => rw [flat8_cons, List.length_append, ih]; simp [cells8]; omega
theorem flat8_get : ∀ (ns : List Nd) (i : Nat) (h : i < ns.length) (j : Nat), j < 8 → (flat8 ns)[i * 8 + j]? = (cells8 ns[i])[j]?
  | m :: r, 0, _, j, hj => by
    rw [flat8_cons, List.getElem?_append_left (by simp [cells8]; omega)]
    simp
  | m :: r, i + 1, h, j, hj => by
    have e : (i + 1) * 8 + j = 8 + (i * 8 + j) := by omega
    rw [flat8_cons, e, List.getElem?_append_right (by simp [cells8])]
    have e2 : 8 + (i * 8 + j) - (cells8 m).length = i * 8 + j := by simp [cells8]
    rw [e2, flat8_get r i (by simpa using h) j hj]
    simp
  | [], i, h, _, _ => absurd h (by simp)
theorem flat8_set : ∀ (ns : List Nd) (i : Nat) (h : i < ns.length) (j : Nat) (v : Value) (m : Nd), j < 8 → (cells8 ns[i]).set j v = cells8 m → (flat8 ns).set (i * 8 + j) v = flat8 (ns.set i m)
  | a :: r, 0, _, j, v, m, hj, e => by
    rw [flat8_cons, List.set_cons_zero, flat8_cons, List.set_append_left _ _ (by simp [cells8]; omega)]
    congr 1
    simpa using e
  | a :: r, i + 1, h, j, v, m, hj, e => by
    have e1 : (i + 1) * 8 + j = 8 + (i * 8 + j) := by omega
    rw [flat8_cons, List.set_cons_succ, flat8_cons, List.set_append_right _ _ (by simp [cells8]; omega)]
    have e2 : (i + 1) * 8 + j - (cells8 a).length = i * 8 + j := by simp [cells8]; omega
    rw [e2, flat8_set r i (by simpa using h) j v m hj (by simpa using e)]
  | [], i, h, _, _, _, _, _ => absurd h (by simp)

/-- Of each variable the first node. -/
abbrev Nv := Int → Option Int
def vm (ν : Nv) : Value → Option Value
  | .int .i64 v => (ν v).map fun k => .int .i64 k
  | _ => none
def Nv.put (ν : Nv) (v k : Int) : Nv := fun x => if x = v then some k else ν x
theorem vm_put (ν : Nv) (v k : Int) : upd (vm ν) (.int .i64 v) (.int .i64 k) = vm (ν.put v k) := by
  funext x
  unfold upd
  by_cases h : x = .int .i64 v
  · subst h
    simp [vm, Nv.put]
  · rw [if_neg h]
    unfold vm
    split
    · rename_i y
      have : y ≠ v := fun e => h (by rw [e])
      simp [Nv.put, this]
    · rfl

theorem Try.info89 : (Try.prog.info? 89).map (fun i => (i.zero, i.size, i.bytes)) = some (some (.agg #[.int .i64 0, .string ⟨#[]⟩, .slice none 0 0, .int .i64 0, .int .i64 0, .bool false, .int .i64 0, .int .i64 0]), 8, 88) := by kernel_rfl

/-- The graph in block g: its nodes, and of each variable the first. -/
structure GAt (w0 : World) (base g bv : Nat) (ns : List Nd) (ν : Nv) (n : Nat) (v : Value) (W : World) : Prop where
  box : W.heap[g]? = some (.cells #[v, .map (some bv)] 51 (0, 0))
  row : W.ownsRow base 89 8 v ns.length (flat8 ns)
  map : MapIs W 3 bv (vm ν) n
  args : ∀ m ∈ ns, ArgsAt w0 m.sl m.t.args
  ne : g ≠ bv
  own : v.ownBlock ≠ some g ∧ v.ownBlock ≠ some bv

theorem GAt.keep {w0 : World} {base g bv : Nat} {ns : List Nd} {ν : Nv} {n : Nat} {v : Value} {W W' : World} (h : GAt w0 base g bv ns ν n v W) (hb : Below W.heap.size W W') : GAt w0 base g bv ns ν n v W' :=
  ⟨(hb.block g (Array.getElem?_eq_some_iff.1 h.box).1).trans h.box, row6_keep h.row (fun k e => hb.block k (h.row.lt k e).2), h.map.same (hb.block bv h.map.lt), h.args, h.ne, h.own⟩

/-- A field of a node is read. -/
theorem GAt.field {w0 : World} {base g bv : Nat} {ns : List Nd} {ν : Nv} {n : Nat} {v : Value} {W : World} (h : GAt w0 base g bv ns ν n v W) {i : Nat} (hi : i < ns.length) : ∃ b c, v = .slice (some ⟨b, 0, none⟩) ns.length c ∧ b < W.heap.size ∧ ∀ j u, (cells8 ns[i])[j]? = some u → W.cell? ⟨b, i * 8 + j, none⟩ = some u := by
  rcases h.row.2 with ⟨_, h0⟩ | ⟨b, cap, cur, e, _, hg, _⟩
  · omega
  · refine ⟨b, cap, e, (Array.getElem?_eq_some_iff.1 hg).1, fun j u hj => ?_⟩
    have hj8 : j < 8 := by have := (List.getElem?_eq_some_iff.1 hj).1; simpa [cells8] using this
    have hr := h.row
    rw [e] at hr
    rw [hr.cellAt (i * 8 + j) (by omega), flat8_get ns i hi j hj8]
    exact hj

/-- A field of a node is written. -/
theorem GAt.write {w0 : World} {base g bv : Nat} {ns : List Nd} {ν : Nv} {n b c : Nat} {W : World} (h : GAt w0 base g bv ns ν n (.slice (some ⟨b, 0, none⟩) ns.length c) W) {i : Nat} (hi : i < ns.length) {j : Nat} (hj : j < 8) {u : Value} {m : Nd} (e : (cells8 ns[i]).set j u = cells8 m) (hm : ArgsAt w0 m.sl m.t.args) : GAt w0 base g bv (ns.set i m) ν n (.slice (some ⟨b, 0, none⟩) ns.length c) (W.setCell ⟨b, i * 8 + j, none⟩ u) := by
  have hg : g ≠ b := fun e => h.own.1 (by rw [e]; rfl)
  have hb : bv ≠ b := fun e => h.own.2 (by rw [e]; rfl)
  refine ⟨(Below.heap_setCell _ _ _ g hg).trans h.box, ?_, h.map.same (Below.heap_setCell _ _ _ bv hb), fun q hq => ?_, h.ne, h.own⟩
  · rw [List.length_set, ← flat8_set ns i hi j u m hj e]
    exact (h.row.stored _ u).1
  · rcases List.mem_or_eq_of_mem_set hq with hq | rfl
    · exact h.args q hq
    · exact hm

end Go.Proofs.Ytblfbmdnkgebdaa

/-
  graph.head: the way up to the node that stands for the class.
-/
namespace Go.Proofs.Ytblfbmdnkgebdaa
open Go.RowKit Go.Maps

/-- From node i so many steps up to the head r. -/
inductive Upw (ns : List Nd) : Nat → Nat → Nat → Prop
  | here (i : Nat) (hi : i < ns.length) (hu : ns[i].up = (i : Int)) : Upw ns 0 i i
  | step (k i j r : Nat) (hi : i < ns.length) (hu : ns[i].up = (j : Int)) (hne : i ≠ j) (h : Upw ns k j r) : Upw ns (k + 1) i r

theorem Upw.lt {ns : List Nd} {k i r : Nat} (h : Upw ns k i r) : i < ns.length := by cases h <;> assumption
theorem Upw.root {ns : List Nd} {k i r : Nat} (h : Upw ns k i r) : Upw ns 0 r r := by
  induction h with
  | here i hi hu => exact .here i hi hu
  | step _ _ _ _ _ _ _ _ ih => exact ih

/-- The same nodes, but for the ways up; the heads are the same. -/
def Same8 (ns ns' : List Nd) : Prop := ns'.length = ns.length ∧ (∀ i (h : i < ns.length) (h' : i < ns'.length), ns'[i] = { ns[i] with up := ns'[i].up }) ∧ ∀ k i r, Upw ns k i r → ∃ k', k' ≤ k ∧ Upw ns' k' i r
theorem Same8.refl (ns : List Nd) : Same8 ns ns := ⟨rfl, fun _ _ _ => rfl, fun k _ _ h => ⟨k, Nat.le_refl _, h⟩⟩
theorem Same8.trans {a b c : List Nd} (h : Same8 a b) (k : Same8 b c) : Same8 a c := by
  refine ⟨k.1.trans h.1, fun i h1 h2 => ?_, fun q i r hr => ?_⟩
  · have e1 := h.2.1 i h1 (h.1 ▸ h1)
    have e2 := k.2.1 i (h.1 ▸ h1) h2
    rw [e2, e1]
  · obtain ⟨q1, l1, h1⟩ := h.2.2 q i r hr
    obtain ⟨q2, l2, h2⟩ := k.2.2 q1 i r h1
    exact ⟨q2, Nat.le_trans l2 l1, h2⟩

/-- A node is hung higher up. -/
theorem half {ns : List Nd} {k i j : Nat} {r : Nat} (hi : i < ns.length) (hu : ns[i].up = (j : Int)) (hne : i ≠ j) (h : Upw ns k j r) (hj : j < ns.length) : Same8 ns (ns.set i { ns[i] with up := ns[j].up }) := by
  have hget : ∀ x (hx : x < ns.length), (ns.set i { ns[i] with up := ns[j].up })[x]'(by simpa using hx) = if i = x then { ns[i] with up := ns[j].up } else ns[x] := fun x hx => List.getElem_set _
  refine ⟨List.length_set, fun x h1 h2 => ?_, fun q x s hq => ?_⟩
  · rw [hget x h1]
    by_cases e : i = x
    · subst e; simp
    · simp [e]
  · induction hq with
    | here x hx hux =>
      refine ⟨0, Nat.le_refl _, .here x (by simpa using hx) ?_⟩
      rw [hget x hx]
      by_cases e : i = x
      · subst e
        rw [hu] at hux
        exact absurd (by omega) hne
      · rw [if_neg e]; exact hux
    | step q x y s hx hux hxy hr ih =>
      obtain ⟨q', lq, h'⟩ := ih
      by_cases e : i = x
      · subst e
        have hyj : y = j := by rw [hu] at hux; omega
        subst hyj
        cases h' with
        | here _ hy huy =>
          rw [hget y hj, if_neg hne] at huy
          refine ⟨1, by omega, .step 0 i y y (by simpa using hi) ?_ hne (.here y hy ?_)⟩
          · rw [hget i hi, if_pos rfl]; exact huy
          · rw [hget y hj, if_neg hne]; exact huy
        | step q2 _ z _ hy huy hyz h2 =>
          rw [hget y hj, if_neg hne] at huy
          by_cases ez : i = z
          · subst ez
            exact ⟨q2, by omega, h2⟩
          · exact ⟨q2 + 1, by omega, .step q2 i z s (by simpa using hi) (by rw [hget i hi, if_pos rfl]; exact huy) ez h2⟩
      · exact ⟨q' + 1, by omega, .step q' x y s (by simpa using hx) (by rw [hget x hx, if_neg e]; exact hux) hxy h'⟩

end Go.Proofs.Ytblfbmdnkgebdaa

/-
  graph.head: the walk.
-/
namespace Go.Proofs.Ytblfbmdnkgebdaa
open Go.RowKit Go.Maps

/-- Nothing but one block has turned. -/
structure Wrote (b : Nat) (W W' : World) : Prop where
  os : W'.os = W.os
  tape : W'.tape = W.tape
  output : W'.output = W.output
  size : W'.heap.size = W.heap.size
  block : ∀ k, k ≠ b → W'.heap[k]? = W.heap[k]?
theorem Wrote.refl (b : Nat) (W : World) : Wrote b W W := ⟨rfl, rfl, rfl, rfl, fun _ _ => rfl⟩
theorem Wrote.set {b : Nat} {W W' : World} (h : Wrote b W W') (o : Nat) (u : Value) : Wrote b W ((W'.setCell ⟨b, o, none⟩ u).drew) :=
  ⟨h.os, h.tape, h.output, by simpa using h.size, fun k hk => (Below.heap_setCell _ _ _ k hk).trans (h.block k hk)⟩

theorem up_next {ns : List Nd} {q j r : Nat} (h : Upw ns q j r) : ∃ z q', (ns[j]'h.lt).up = ((z : Nat) : Int) ∧ q' ≤ q ∧ Upw ns q' z r := by
  cases h with
  | here _ hi hu => exact ⟨j, 0, hu, Nat.le_refl _, .here j hi hu⟩
  | step k _ z _ hi hu _ h => exact ⟨z, k, hu, Nat.le_succ _, h⟩

theorem nd_up (m : Nd) (u : Int) : (cells8 m).set 4 (.int .i64 u) = cells8 { m with up := u } := rfl

set_option maxRecDepth 100000 in
set_option maxHeartbeats 2000000 in
theorem head_any (w0 : World) (base g bv b c : Nat) (ns : List Nd) (ν : Nv) (n : Nat) (W : World) (h : GAt w0 base g bv ns ν n (.slice (some ⟨b, 0, none⟩) ns.length c) W) (k i r : Nat) (hr : Upw ns k i r) (_hl : ns.length ≤ 1073741824) :
    Calls Try.prog 54 #[.pointer (some ⟨g, 0, none⟩), .int .i64 i] W fun e W' => e = .returned (.int .i64 r) ∧ ∃ ns', Same8 ns ns' ∧ GAt w0 base g bv ns' ν n (.slice (some ⟨b, 0, none⟩) ns.length c) W' ∧ Wrote b W W' := by
  have H0 : Hid (GAt w0 base g bv ns ν n (.slice (some ⟨b, 0, none⟩) ns.length c) W ∧ Upw ns k i r) := ⟨h, hr⟩
  clear h hr
  go_enter Try.func54, Try.ntmps54
  go_wp2
  go_loopg [1] k (fun q a wr => ∃ (x : Nat) (ns' : List Nd), a = .int .i64 (x : Int) ∧ Hid (∃ q', q' ≤ q ∧ Upw ns' q' x r ∧ Same8 ns ns' ∧ GAt w0 base g bv ns' ν n (.slice (some ⟨b, 0, none⟩) ns.length c) wr ∧ Wrote b W wr))
  case atStart => exact ⟨i, ns, rfl, k, Nat.le_refl _, H0.out.2, Same8.refl _, H0.out.1, Wrote.refl _ _⟩
  case round =>
    obtain ⟨x, ns', rfl, q', hq, hu, hs, hg, hw⟩ := hrel
    have hln : ns'.length = ns.length := hs.1
    have hx : x < ns'.length := hu.lt
    rw [← hln] at hg
    obtain ⟨b', c', e, hb, hc⟩ := hg.field hx
    cases e
    have x4 := hc 4 _ rfl
    have g0 : wr.cell? ⟨g, 0, none⟩ = some (.slice (some ⟨b, 0, none⟩) ns'.length c) := by simp [World.cell?, hg.box]
    rw [hln] at g0
    have j0 : (0 : Int) ≤ (x : Int) := Int.natCast_nonneg x
    have j1 : (x : Int) < (ns.length : Int) := by omega
    clear hc
    cases hu with
    | here _ _ hup =>
      rw [hup] at x4
      have j2 : ((r : Int) != (r : Int)) = false := by rw [bne_eq_false_iff_eq]
      rw [hln] at hg
      have HE : Hid (Same8 ns ns' ∧ GAt w0 base g bv ns' ν n (.slice (some ⟨b, 0, none⟩) ns.length c) wr ∧ Wrote b W wr) := ⟨hs, hg, hw⟩
      clear hs hg hw hup
      go_wp2
      go_ret
      exact ⟨rfl, ns', HE.out⟩
    | step q2 _ j _ _ hup hne h2 =>
      have hj : j < ns'.length := h2.lt
      rw [hup] at x4
      obtain ⟨b', c', e, _, hc⟩ := hg.field hj
      cases e
      have y4 := hc 4 _ rfl
      obtain ⟨z, q4, hz, lz, hzr⟩ := up_next h2
      rw [hz] at y4
      have j2 : ((j : Int) != (x : Int)) = true := by rw [bne_iff_ne]; omega
      have j3 : (0 : Int) ≤ (j : Int) := Int.natCast_nonneg j
      have j4 : (j : Int) < (ns.length : Int) := by omega
      have fz := hg.row.frozenAt (x * 8 + 4)
      have hgb : g ≠ b := fun e => hg.own.1 (by rw [e]; rfl)
      have hn := hg.write hx (j := 4) (by omega) (nd_up ns'[x] (z : Int)) (hg.args ns'[x] (List.getElem_mem hx))
      have hsm := half hx hup hne h2 hj
      rw [hz] at hsm
      obtain ⟨q3, lq, h3⟩ := hsm.2.2 q4 z r hzr
      rw [hln] at hn
      have hcell : ((wr.setCell ⟨b, x * 8 + 4, none⟩ (.int .i64 (z : Int))).drew).cell? ⟨b, x * 8 + 4, none⟩ = some (.int .i64 (z : Int)) := by
        show (wr.setCell ⟨b, x * 8 + 4, none⟩ (.int .i64 (z : Int))).cell? ⟨b, x * 8 + 4, none⟩ = _
        exact World.cell?_setCell_same _ _ _ x4
      have hgc : ((wr.setCell ⟨b, x * 8 + 4, none⟩ (.int .i64 (z : Int))).drew).cell? ⟨g, 0, none⟩ = some (.slice (some ⟨b, 0, none⟩) ns.length c) := by
        show (wr.setCell ⟨b, x * 8 + 4, none⟩ (.int .i64 (z : Int))).cell? ⟨g, 0, none⟩ = _
        exact (World.cell?_of_block (a := ⟨g, 0, none⟩) (Below.heap_setCell _ _ _ g hgb)).trans g0
      clear hc
      go_wp2
      go_region
      have HE : Hid (∃ q', q' ≤ q2 ∧ Upw (ns'.set x { ns'[x] with up := (z : Int) }) q' z r ∧ Same8 ns (ns'.set x { ns'[x] with up := (z : Int) }) ∧ GAt w0 base g bv (ns'.set x { ns'[x] with up := (z : Int) }) ν n (.slice (some ⟨b, 0, none⟩) ns.length c) ((wr.setCell ⟨b, x * 8 + 4, none⟩ (.int .i64 (z : Int))).drew) ∧ Wrote b W ((wr.setCell ⟨b, x * 8 + 4, none⟩ (.int .i64 (z : Int))).drew)) := ⟨q3, by omega, h3, hs.trans hsm, ⟨hn.box, hn.row, hn.map.same rfl, hn.args, hn.ne, hn.own⟩, hw.set _ _⟩
      have HQ : Hid (q2 < gk) := by show q2 < gk; omega
      clear hs hg hw hup h2 hz hzr hn hsm h3 lq lz hne hq
      go_wp2
      go_roundg q2
      case measure => exact HQ.out
      case rel => exact ⟨z, _, rfl, HE.out⟩

end Go.Proofs.Ytblfbmdnkgebdaa
