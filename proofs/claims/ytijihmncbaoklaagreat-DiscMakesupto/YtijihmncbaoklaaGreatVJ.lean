import Derived.Test.YtijihmncbaoklaaGreatVE
import Derived.Test.YtijihmncbaoklaaGreatShelfC

/-
  The sort of no hits; the sort at every length.
-/
namespace Go.Proofs.YtijihmncbaoklaaGreat
open Go.RowKit Go.Maps Go.Sort Go.Lib

set_option maxRecDepth 100000 in
set_option maxHeartbeats 4000000 in
theorem insertH_nil (w : World) : Calls Tryz.prog 92 #[.slice none 0 0, .int .i64 0, .int .i64 0, .func (.func 38) #[] #[]] w fun e w' => e = .returned (.tuple #[]) ∧ Below w.heap.size w w' := by
  go_enter Tryz.func92, Tryz.ntmps92
  go_wp2
  go_loopw [8] (fun vi wr => vi = .int .i64 1 ∧ Below w.heap.size w wr) (fun _ _ => 0)
  case atStart => exact ⟨rfl, Below.refl _ _⟩
  case round =>
    obtain ⟨rfl, hb⟩ := hrel
    go_wp2
    (try simp only [Exit.inBlock, Exit.then])
    refine bodyPost_end (results_none rfl _ _ _) rfl ?_
    exact ⟨rfl, hb⟩

set_option maxRecDepth 100000 in
set_option maxHeartbeats 4000000 in
theorem pdqH_nil (q : Int) (w : World) : Calls Tryz.prog 63 #[.slice none 0 0, .int .i64 0, .int .i64 0, .int .i64 q, .func (.func 38) #[] #[]] w fun e w' => e = .returned (.tuple #[]) ∧ Below w.heap.size w w' := by
  have hi := insertH_nil w
  go_enter Tryz.func63, Tryz.ntmps63
  go_wp2
  go_loopw [1, 2] (fun v1 v2 wr => v1 = .int .i64 0 ∧ v2 = .int .i64 0 ∧ wr = w) (fun _ _ _ => 0)
  case atStart => exact ⟨rfl, rfl, rfl⟩
  case round =>
    obtain ⟨rfl, rfl, rfl⟩ := hrel
    go_wp2_with (first | (go_at_call 92; refine hi.mono ?_; rintro e w2 ⟨rfl, hb2⟩))
    (try simp only [Exit.inBlock, Exit.then])
    refine bodyPost_ret (results_none rfl _ _ _) rfl ?_
    exact ⟨rfl, hb2⟩

set_option maxHeartbeats 4000000 in
theorem sortH_nil (w : World) : Calls Tryz.prog 37 #[.slice none 0 0, .func (.func 38) #[] #[]] w fun e w' => e = .returned (.tuple #[]) ∧ Below w.heap.size w w' := by
  have hp := fun q => pdqH_nil q w
  go_enter Tryz.func37, Tryz.ntmps37
  go_wp2_with (first | (go_at_call 64; refine (Tryz.bits_Len _ _ (by omega) (by omega)).mono ?_; rintro e w' ⟨rfl, rfl⟩) | (go_at_call 63; refine (hp _).mono ?_; rintro e w2 ⟨rfl, hb2⟩))
  (try simp only [Exit.inBlock, Exit.then])
  refine bodyPost_end (results_none rfl _ _ _) rfl ?_
  exact ⟨rfl, hb2⟩

theorem sort_ok : SortOk := by
  intro l v base W h hl
  by_cases h0 : 0 < l.length
  · exact sortH_own l v base W h hl h0
  · have e : l = [] := List.eq_nil_of_length_eq_zero (by omega)
    subst e
    rcases h.2 with ⟨rfl, _⟩ | ⟨g, cap, cur, rfl, hb, hg, hn, hm, hsz, ht⟩
    · refine (sortH_nil W).mono ?_
      rintro e W' ⟨rfl, hb⟩
      exact ⟨rfl, [], List.Perm.refl _, fun i j hj => absurd hj (by simp), World.ownsRow_nil _ _ _ _, ⟨hb.os, hb.tape, hb.output, hb.size, fun k hk _ => hb.block k hk⟩⟩
    · haveI : Inhabited HE := ⟨(0, none, 0, 0)⟩
      obtain ⟨hH, hlt⟩ := rowH_holds (d := #[]) h
      have hcon := AnyQ.slices_SortFunc Tryz.sortL 2 Tryz.isAgg57 Tryz.sizeOf57 encH (fun _ => rfl) encH_one cmpH swoH 38 #[] g 0 cap #[] W eg24 (cmpLaysH g 0 _ W) hH hlt (by simp)
      refine Calls.mono (P := Tryz.prog) hcon fun e W' ⟨he, d', m, os, hp, hso, hw⟩ => ?_
      subst hw
      obtain ⟨hr1, hr2⟩ := sortH_row (d := #[]) h hp.1 m os
      have hd : d' = #[] := Array.eq_empty_of_size_eq_zero hp.1
      subst hd
      exact ⟨he, [], List.Perm.refl _, fun i j hj => absurd hj (by simp), hr1, hr2⟩

end Go.Proofs.YtijihmncbaoklaaGreat

/-
  The chapter's example: plain mathematics.
-/
namespace Go.Proofs.YtijihmncbaoklaaGreat
open Go.RowKit Go.Maps

/-- It is told once. -/
theorem MRun.one {l : List (T × T)} {τ : Ta} {a b : Option Ta} (h : MRun l τ a) : MRun l τ b → a = b := by
  induction h with
  | nil τ => intro h2; cases h2; rfl
  | varOk p t r τ res hp hτ h ih =>
    intro h2
    rcases mrun_inv h2 with ⟨_, _, h3⟩ | ⟨_, _, h3⟩ | ⟨_, ⟨t', h4, h5⟩, _⟩ | ⟨h3, _⟩ | ⟨h3, _⟩
    · exact ih h3
    · exact ih h3
    · rcases hτ with e | e
      · rw [e] at h4; cases h4
      · rw [e] at h4; cases h4; exact absurd rfl h5
    · rw [hp] at h3; cases h3
    · rw [hp] at h3; cases h3
  | varNo p t t' r τ hp hτ hne =>
    intro h2
    rcases mrun_inv h2 with ⟨_, h4, h3⟩ | ⟨_, h4, h3⟩ | ⟨_, _, h3⟩ | ⟨h3, _⟩ | ⟨h3, _⟩
    · rw [hτ] at h4; cases h4
    · rw [hτ] at h4; cases h4; exact absurd rfl hne
    · exact h3.symm
    · rw [hp] at h3; cases h3
    · rw [hp] at h3; cases h3
  | fnOk p t r τ res hp hf hl h ih =>
    intro h2
    rcases mrun_inv h2 with ⟨h3, _⟩ | ⟨h3, _⟩ | ⟨h3, _⟩ | ⟨_, _, _, h3⟩ | ⟨_, h3, _⟩
    · rw [hp] at h3; cases h3
    · rw [hp] at h3; cases h3
    · rw [hp] at h3; cases h3
    · exact ih h3
    · rcases h3 with h3 | h3
      · exact absurd hf h3
      · exact absurd hl h3.2
  | fnNo p t r τ hp hf =>
    intro h2
    rcases mrun_inv h2 with ⟨h3, _⟩ | ⟨h3, _⟩ | ⟨h3, _⟩ | ⟨_, h3, h4, _⟩ | ⟨_, _, h3⟩
    · rw [hp] at h3; cases h3
    · rw [hp] at h3; cases h3
    · rw [hp] at h3; cases h3
    · rcases hf with hf | hf
      · exact absurd h3 hf
      · exact absurd h4 hf
    · exact h3.symm

theorem mres_of {p t : T} {r : Option Ta} (h : MRun [(p, t)] (fun _ => none) r) : mres p t = r := (mres_run p t).one h

def tv : T := .mk 0 ⟨#[]⟩ []
def tb : T := .mk 0 ⟨#[98]⟩ []
def tq : T := .mk 0 ⟨#[97]⟩ []
def tf (s t : T) : T := .mk 0 ⟨#[102]⟩ [s, t]
def τ1 : Ta := (Ta.put (fun _ => none) 0 tb).put 0 tb
def τ2 : Ta := Ta.put (fun _ => none) 0 tb

theorem mres1 : mres (tf tv tv) (tf tb tb) = some τ1 := by
  refine mres_of (MRun.fnOk _ _ _ _ _ (by decide) rfl rfl ?_)
  refine MRun.varOk tv tb [(tv, tb)] _ _ (by decide) (.inl rfl) ?_
  exact MRun.varOk tv tb [] _ _ (by decide) (.inr rfl) (MRun.nil _)
theorem mres2 : mres (tf tv tb) (tf tb tb) = some τ2 := by
  refine mres_of (MRun.fnOk _ _ _ _ _ (by decide) rfl rfl ?_)
  refine MRun.fnOk tb tb [(tv, tb)] _ _ (by decide) rfl rfl ?_
  exact MRun.varOk tv tb [] _ _ (by decide) (.inl rfl) (MRun.nil _)
theorem mres3 : mres tq (tf tb tb) = none := mres_of (MRun.fnNo _ _ _ _ (by decide) (.inl (by decide)))

theorem tau1 (x : Int) : τ1 x ≠ none ↔ x = 0 := by
  unfold τ1 Ta.put
  by_cases h : x = 0 <;> simp [h]

theorem list1 {ks : List Int} (h : RiseT τ1 ks) : (listB τ1 ks).length = 1 := by
  have h0 : (0 : Int) ∈ ks := (h.2 0).2 ((tau1 0).2 rfl)
  have h1 : ∀ x ∈ ks, x = 0 := fun x hx => (tau1 x).1 ((h.2 x).1 hx)
  have h2 : ks = [0] := by
    cases ks with
    | nil => cases h0
    | cons a r =>
      cases r with
      | nil => rw [h1 a (by simp)]
      | cons b r =>
        have := List.rel_of_pairwise_cons h.1 (a' := b) (by simp)
        rw [h1 a (by simp), h1 b (by simp)] at this
        omega
  subst h2
  rfl

theorem rgt1 : (tf tv tv).rightW = 0 ∧ (tf tv tv).size ≤ 1048576 := by decide +kernel
theorem rgt2 : (tf tv tb).rightW = 0 ∧ (tf tv tb).size ≤ 1048576 := by decide +kernel
theorem rgt3 : tq.rightW = 0 ∧ tq.size ≤ 1048576 := by decide +kernel
theorem rgt4 : (tf tb tb).rightW = 0 ∧ (tf tb tb).size ≤ 1048576 := by decide +kernel

def sf : Sym := (⟨#[102]⟩, 2)
def sb : Sym := (⟨#[98]⟩, 0)
def sq : Sym := (⟨#[97]⟩, 0)
theorem path1 : (tf tv tv).path = [sf, star, star] := rfl
theorem path2 : (tf tv tb).path = [sf, star, sb] := rfl
theorem path3 : tq.path = [sq] := rfl

/-- The paths of the example's tree. -/
def PQ6 : List Path := [[], [sf], [sf, star], [sf, star, star], [sf, star, sb], [sq]]
theorem pq6_nodup : PQ6.Nodup := by decide
theorem pq6_mem (q : Path) : q ∈ PQ6 ↔ (q <+: [sf, star, star] ∨ q <+: [sf, star, sb] ∨ q <+: [sq]) := by
  constructor
  · intro h
    simp only [PQ6, List.mem_cons, List.not_mem_nil, or_false] at h
    rcases h with rfl | rfl | rfl | rfl | rfl | rfl <;> decide
  · intro h
    rcases h with h | h | h
    · obtain ⟨r, hr⟩ := h
      rcases q with _ | ⟨a, _ | ⟨b, _ | ⟨c, _ | ⟨d, q⟩⟩⟩⟩
      · simp [PQ6]
      · simp at hr; simp [PQ6, hr.1]
      · simp at hr; simp [PQ6, hr.1, hr.2.1]
      · simp at hr; simp [PQ6, hr.1, hr.2.1, hr.2.2.1]
      · simp at hr
    · obtain ⟨r, hr⟩ := h
      rcases q with _ | ⟨a, _ | ⟨b, _ | ⟨c, _ | ⟨d, q⟩⟩⟩⟩
      · simp [PQ6]
      · simp at hr; simp [PQ6, hr.1]
      · simp at hr; simp [PQ6, hr.1, hr.2.1]
      · simp at hr; simp [PQ6, hr.1, hr.2.1, hr.2.2.1]
      · simp at hr
    · obtain ⟨r, hr⟩ := h
      rcases q with _ | ⟨a, _ | ⟨b, q⟩⟩
      · simp [PQ6]
      · simp at hr; simp [PQ6, hr.1]
      · simp at hr

open Classical in
theorem nodup_lenP : ∀ (l m : List Path), l.Nodup → (∀ x ∈ l, x ∈ m) → l.length ≤ m.length
  | [], m, _, _ => Nat.zero_le _
  | a :: r, m, h, hs => by
    rw [List.nodup_cons] at h
    have ha := hs a (by simp)
    have h1 := nodup_lenP r (m.filter fun x => decide (x ≠ a)) h.2 (fun x hx => List.mem_filter.2 ⟨hs x (by simp [hx]), by simpa using (fun (e : x = a) => h.1 (e ▸ hx))⟩)
    have h2 : (m.filter fun x => decide (x ≠ a)).length < m.length := List.length_filter_lt_length_iff_exists.2 ⟨a, ha, by simp⟩
    simp only [List.length_cons]
    omega

theorem len6 {P : List Path} (hn : P.Nodup) (hm : ∀ q, q ∈ P ↔ q ∈ PQ6) : P.length = 6 := by
  have h1 := nodup_lenP P PQ6 hn (fun x hx => (hm x).1 hx)
  have h2 := nodup_lenP PQ6 P pq6_nodup (fun x hx => (hm x).2 hx)
  have : PQ6.length = 6 := rfl
  omega

theorem ends6 {P : List Path} (hm : ∀ q, q ∈ P ↔ q ∈ PQ6) : [sf, star, star] ∈ ends (· ∈ P) [] [tf tb tb] ∧ [sf, star, sb] ∈ ends (· ∈ P) [] [tf tb tb] := by
  have p0 : ([] : Path) ∈ P := (hm _).2 (by simp [PQ6])
  have p1 : [sf] ∈ P := (hm _).2 (by simp [PQ6])
  have p2 : [sf, star] ∈ P := (hm _).2 (by simp [PQ6])
  have p3 : [sf, star, star] ∈ P := (hm _).2 (by simp [PQ6])
  have p4 : [sf, star, sb] ∈ P := (hm _).2 (by simp [PQ6])
  have hb : tb.sym ≠ star := by decide
  have e0 : ends (· ∈ P) [] [tf tb tb] = ends (· ∈ P) [star] [] ++ ends (· ∈ P) [sf] [tb, tb] := ends_fn (P := (· ∈ P)) p0 (t := tf tb tb) (by decide) []
  have e1 : ends (· ∈ P) [sf] [tb, tb] = ends (· ∈ P) [sf, star] [tb] ++ ends (· ∈ P) [sf, sb] [tb] := ends_fn (P := (· ∈ P)) p1 hb [tb]
  have e2 : ends (· ∈ P) [sf, star] [tb] = ends (· ∈ P) [sf, star, star] [] ++ ends (· ∈ P) [sf, star, sb] [] := ends_fn (P := (· ∈ P)) p2 hb []
  have e3 : ends (· ∈ P) [sf, star, star] [] = [[sf, star, star]] := ends_nil_yes (P := (· ∈ P)) p3
  have e4 : ends (· ∈ P) [sf, star, sb] [] = [[sf, star, sb]] := ends_nil_yes (P := (· ∈ P)) p4
  rw [e0, e1, e2, e3, e4]
  simp

theorem hits2 {hs : List HE} (hn : (hs.map (·.1)).Nodup) (hm : ∀ z, z ∈ hs.map (·.1) ↔ z = 1 ∨ z = 2) (ho : SortedH hs) : ∃ a b, hs = [a, b] ∧ a.1 = 1 ∧ b.1 = 2 := by
  have h1 := nodup_len (hs.map (·.1)) [1, 2] hn (fun x hx => by have := (hm x).1 hx; simpa using this)
  have h2 := nodup_len [1, 2] (hs.map (·.1)) (by decide) (fun x hx => (hm x).2 (by simpa using hx))
  simp only [List.length_map, List.length_cons, List.length_nil] at h1 h2
  rcases hs with _ | ⟨a, _ | ⟨b, _ | ⟨c, r⟩⟩⟩
  · simp at h2
  · simp at h2
  · refine ⟨a, b, rfl, ?_⟩
    have o1 : a.1 ≤ b.1 := ho 0 1 (by simp) (by omega)
    have n1 : a.1 ≠ b.1 := by simpa using hn
    have ma := (hm a.1).1 (by simp)
    have mb := (hm b.1).1 (by simp)
    omega
  · simp at h1

end Go.Proofs.YtijihmncbaoklaaGreat

/-
  The example's f.
-/
namespace Go.Proofs.YtijihmncbaoklaaGreat
open Go.RowKit Go.Maps

theorem args2 {W : World} {g : Nat} {s t : T} {ss st : Value} (hg : W.heap[g]? = some (.cells #[.int .i64 s.v, .string s.fn, ss, .int .i64 t.v, .string t.fn, st] 32 (0, 0))) (hs : ArgsAt W ss s.args) (ht : ArgsAt W st t.args) : ArgsAt W (.slice (some ⟨g, 0, none⟩) 2 2) [s, t] := by
  have cl : ∀ (k : Nat) (v : Value), [Value.int .i64 s.v, .string s.fn, ss, .int .i64 t.v, .string t.fn, st][k]? = some v → W.cell? ⟨g, k, none⟩ = some v := fun k v h => cell_store (vs := [_, _, _, _, _, _]) hg h
  refine ArgsAt.mk (some ⟨g, 0, none⟩) 2 [s, t] (fun i => if i = 0 then ss else st) (Nat.le_refl _) (by decide) (fun _ => ⟨g, 0, (Array.getElem?_eq_some_iff.1 hg).1, rfl, fun i hi => ?_⟩) (fun i hi => ?_)
  · rcases i with _ | _ | i
    · exact ⟨cl 0 _ rfl, cl 1 _ rfl, cl 2 _ rfl⟩
    · exact ⟨cl 3 _ rfl, cl 4 _ rfl, cl 5 _ rfl⟩
    · simp at hi; omega
  · rcases i with _ | _ | i
    · exact hs
    · exact ht
    · simp at hi; omega

set_option maxRecDepth 100000 in
set_option maxHeartbeats 2000000 in
theorem f14_any (s t : T) (sa ta : Option Addr) (sn sc tn tc : Nat) (w : World) (hs : ArgsAt w (.slice sa sn sc) s.args) (ht : ArgsAt w (.slice ta tn tc) t.args) :
    Calls Tryz.prog 24 #[tval s (.slice sa sn sc), tval t (.slice ta tn tc)] w fun e w' => ∃ g, e = .returned (tval (tf s t) (.slice (some ⟨g, 0, none⟩) 2 2)) ∧ ArgsAt w' (.slice (some ⟨g, 0, none⟩) 2 2) (tf s t).args ∧ Below w.heap.size w w' ∧ w.heap.size < w'.heap.size := by
  obtain ⟨W3, hW3⟩ : ∃ X, ((w.alloc (tbox s (.slice sa sn sc))).alloc (tbox t (.slice ta tn tc))).alloc (.cells #[.int .i64 0, .string ⟨#[]⟩, .slice none 0 0] 32) = X := ⟨_, rfl⟩
  have b3 : Below w.heap.size w W3 := by rw [← hW3]; exact (below_box2 w _ _).alloc (by simp; omega) _
  have s3 : W3.heap.size = w.heap.size + 1 + 1 + 1 := by rw [← hW3]; simp
  have z0 : W3.heap[w.heap.size]? = some (.cells #[.int .i64 s.v, .string s.fn, .slice sa sn sc] 32 (0, 0)) := by
    rw [← hW3, Below.heap_alloc _ _ _ (by simp; omega), Below.heap_alloc _ _ _ (by simp)]
    exact (MapKept.heap_alloc _ _).1
  have z1 : W3.heap[w.heap.size + 1]? = some (.cells #[.int .i64 t.v, .string t.fn, .slice ta tn tc] 32 (0, 0)) := by
    rw [← hW3, Below.heap_alloc _ _ _ (by simp)]
    have := (MapKept.heap_alloc (w.alloc (tbox s (.slice sa sn sc))) (tbox t (.slice ta tn tc))).1
    rwa [World.size_alloc] at this
  have z2 : W3.heap[w.heap.size + 1 + 1]? = some (.cells [Value.int .i64 0, .string ⟨#[]⟩, .slice none 0 0].toArray 32 (0, 0)) := by
    have := (MapKept.heap_alloc ((w.alloc (tbox s (.slice sa sn sc))).alloc (tbox t (.slice ta tn tc))) (.cells #[.int .i64 0, .string ⟨#[]⟩, .slice none 0 0] 32)).1
    rw [World.size_alloc, World.size_alloc] at this
    rw [← hW3]; exact this
  obtain ⟨c0, c1, c2⟩ : W3.cell? ⟨w.heap.size, 0, none⟩ = some (.int .i64 s.v) ∧ W3.cell? ⟨w.heap.size, 1, none⟩ = some (.string s.fn) ∧ W3.cell? ⟨w.heap.size, 2, none⟩ = some (.slice sa sn sc) := ⟨cell_store (vs := [_, _, _]) z0 rfl, cell_store (vs := [_, _, _]) z0 rfl, cell_store (vs := [_, _, _]) z0 rfl⟩
  obtain ⟨d0, d1, d2⟩ : W3.cell? ⟨w.heap.size + 1, 0, none⟩ = some (.int .i64 t.v) ∧ W3.cell? ⟨w.heap.size + 1, 1, none⟩ = some (.string t.fn) ∧ W3.cell? ⟨w.heap.size + 1, 2, none⟩ = some (.slice ta tn tc) := ⟨cell_store (vs := [_, _, _]) z1 rfl, cell_store (vs := [_, _, _]) z1 rfl, cell_store (vs := [_, _, _]) z1 rfl⟩
  obtain ⟨W4, hW4⟩ : ∃ X, W3.alloc (.cells #[.int .i64 s.v, .string s.fn, .slice sa sn sc, .int .i64 t.v, .string t.fn, .slice ta tn tc] 32) = X := ⟨_, rfl⟩
  have b4 : Below W3.heap.size W3 W4 := by rw [← hW4]; exact below_box _ _
  have s4 : W4.heap.size = w.heap.size + 1 + 1 + 1 + 1 := by rw [← hW4]; simp [s3]
  have e4 : W4.heap[w.heap.size + 1 + 1 + 1]? = some (.cells #[.int .i64 s.v, .string s.fn, .slice sa sn sc, .int .i64 t.v, .string t.fn, .slice ta tn tc] 32 (0, 0)) := by
    have := (MapKept.heap_alloc W3 (.cells #[.int .i64 s.v, .string s.fn, .slice sa sn sc, .int .i64 t.v, .string t.fn, .slice ta tn tc] 32)).1
    rw [s3] at this
    rw [← hW4]; exact this
  have e2 := (b4.block _ (by omega)).trans z2
  obtain ⟨n, hn⟩ : ∃ n, w.heap.size + 1 + 1 = n := ⟨_, rfl⟩
  obtain ⟨k, hk⟩ : ∃ k, w.heap.size + 1 + 1 + 1 = k := ⟨_, rfl⟩
  rw [hk] at e4
  obtain rfl : k = n + 1 := by omega
  rw [hn] at e2
  have h1 := set_any (i := 0) (v := .int .i64 0) e2
  have h2 := set_any (i := 1) (v := .string ⟨#[102]⟩) h1
  have h3 := set_any (i := 2) (v := .slice (some ⟨n + 1, 0, none⟩) 2 2) h2
  simp only [List.set_cons_zero, List.set_cons_succ] at h1 h2 h3
  have HF : Hid (∀ W5, W5.heap.size = W4.heap.size → (∀ j, j ≠ n → W5.heap[j]? = W4.heap[j]?) → W5.os = W4.os → W5.tape = W4.tape → W5.output = W4.output → ArgsAt W5 (.slice (some ⟨n + 1, 0, none⟩) 2 2) (tf s t).args ∧ Below w.heap.size w W5 ∧ w.heap.size < W5.heap.size) := fun W5 q1 q2 q3 q4 q5 => by
    have b45 : Below w.heap.size W4 W5 := ⟨q3, q4, q5, by omega, fun j hj => q2 j (by omega)⟩
    have bw : Below w.heap.size w W5 := (b3.trans (b4.mono (by omega))).trans b45
    exact ⟨args2 ((q2 (n + 1) (by omega)).trans e4) (ArgsAt.keep bw (Nat.le_refl _) hs) (ArgsAt.keep bw (Nat.le_refl _) ht), bw, by omega⟩
  have hsz3 : W3.heap.size = n + 1 := by omega
  obtain ⟨g0, g1, g2⟩ : W4.cell? ⟨n, 0, none⟩ = some (.int .i64 0) ∧ W4.cell? ⟨n, 1, none⟩ = some (.string ⟨#[]⟩) ∧ W4.cell? ⟨n, 2, none⟩ = some (.slice none 0 0) := ⟨cell_store (vs := [_, _, _]) e2 rfl, cell_store (vs := [_, _, _]) e2 rfl, cell_store (vs := [_, _, _]) e2 rfl⟩
  have f4 : ∀ o, W4.frozen? ⟨n, o, none⟩ = false := fun o => frozen_cells e2
  have HE3 := hid h3
  clear hs ht b3 z0 z1 z2 b4 e4 s4 e2 h1 h2 h3
  go_enter Tryz.func24, Tryz.ntmps24
  go_upto_region 1 with fail
  try rw [hW3]
  try simp only [hn]
  go_wp2
  obtain ⟨W5, hW5⟩ : ∃ X, ((W4.setCell ⟨n, 0, none⟩ (.int .i64 0)).setCell ⟨n, 1, none⟩ (.string ⟨#[102]⟩)).setCell ⟨n, 2, none⟩ (.slice (some ⟨n + 1, 0, none⟩) 2 2) = X := ⟨_, rfl⟩
  have hz5 := HE3.out
  rw [hW5] at hz5
  have q2 : ∀ j, j ≠ n → W5.heap[j]? = W4.heap[j]? := fun j hj => by
    rw [← hW5, Below.heap_setCell _ ⟨n, 2, none⟩ _ j hj, Below.heap_setCell _ ⟨n, 1, none⟩ _ j hj, Below.heap_setCell _ ⟨n, 0, none⟩ _ j hj]
  have q1 : W5.heap.size = W4.heap.size := by rw [← hW5]; simp
  have q3 : W5.os = W4.os := by rw [← hW5]; rfl
  have q4 : W5.tape = W4.tape := by rw [← hW5]; rfl
  have q5 : W5.output = W4.output := by rw [← hW5]; rfl
  obtain ⟨a1, a2, a3⟩ := HF.out W5 q1 q2 q3 q4 q5
  rw [hW5]
  have r0 : W5.cell? ⟨n, 0, none⟩ = some (.int .i64 0) := cell_store (vs := [_, _, _]) hz5 rfl
  have r1 : W5.cell? ⟨n, 1, none⟩ = some (.string ⟨#[102]⟩) := cell_store (vs := [_, _, _]) hz5 rfl
  have r2 : W5.cell? ⟨n, 2, none⟩ = some (.slice (some ⟨n + 1, 0, none⟩) 2 2) := cell_store (vs := [_, _, _]) hz5 rfl
  clear hW5 q1 q2 q3 q4 q5 hz5 HE3 HF g0 g1 g2 f4 hW4 hW3
  refine bodyPost_ret (v := tval (tf s t) (.slice (some ⟨n + 1, 0, none⟩) 2 2)) (by simp [results, Tryz.results24, go_sem, r0, r1, r2, tf, T.v, T.fn]) rfl ?_
  exact ⟨_, rfl, a1, a2, a3⟩

end Go.Proofs.YtijihmncbaoklaaGreat

/-
  The chapter's example: alive.
-/
namespace Go.Proofs.YtijihmncbaoklaaGreat
open Go.RowKit Go.Maps

theorem only_below {K : List Nat} {n : Nat} {w W W' : World} (h : Below n w W) (hn : n ≤ W.heap.size) (ho : Only K W W') (hK : ∀ r ∈ K, n ≤ r) : Below n w W' :=
  h.trans ⟨ho.os, ho.tape, ho.output, ho.size, fun k hk => ho.block k (by omega) (fun hm => by have := hK k hm; omega)⟩

abbrev bbox : Obj := .cells #[.int .i64 0, .string ⟨#[98]⟩, .slice none 0 0] 32 (0, 0)

/-- The example's tree, while it is filled: ts is kept. -/
def Al (w : World) (X bb : Nat) (ts : List (Int × T)) (W : World) : Prop :=
  ∃ es P y B M, es.map (fun e => (e.1, e.2.1)) = ts ∧ Dsc W X es P y B M ∧ (∀ r ∈ M :: B, bb < r) ∧ W.heap[bb]? = some bbox ∧ Below w.heap.size w W ∧ w.heap.size ≤ X ∧ X < bb

theorem Al.keep {w : World} {X bb : Nat} {ts : List (Int × T)} {W W' : World} (h : Al w X bb ts W) (hb : Below W.heap.size W W') : Al w X bb ts W' := by
  obtain ⟨es, P, y, B, M, h1, h2, h3, h4, h5, h6, h7⟩ := h
  have hbb := (Array.getElem?_eq_some_iff.1 h4).1
  exact ⟨es, P, y, B, M, h1, h2.keep hb, h3, (hb.block bb hbb).trans h4, h5.trans (hb.mono h5.size), h6, h7⟩

theorem Al.cells {w : World} {X bb : Nat} {ts : List (Int × T)} {W : World} (h : Al w X bb ts W) : W.cell? ⟨bb, 0, none⟩ = some (.int .i64 0) ∧ W.cell? ⟨bb, 1, none⟩ = some (.string ⟨#[98]⟩) ∧ W.cell? ⟨bb, 2, none⟩ = some (.slice none 0 0) := by
  obtain ⟨es, P, y, B, M, h1, h2, h3, h4, _⟩ := h
  exact ⟨cell_store (vs := [_, _, _]) h4 rfl, cell_store (vs := [_, _, _]) h4 rfl, cell_store (vs := [_, _, _]) h4 rfl⟩

theorem Al.first {w W : World} {X bb : Nat} (hE : Emp W X) (hbx : W.heap[bb]? = some bbox) (hb : Below w.heap.size w W) (h1 : w.heap.size ≤ X) (h2 : X < bb) (t : T) (sl : Value) (id : Int) (ha : ArgsAt W sl t.args) (hr : t.rightW = 0 ∧ t.size ≤ 1048576) (hfit : Fit64 id) :
    Calls Tryz.prog 9 #[.pointer (some ⟨X, 0, none⟩), .int .i64 id, tval t sl] W fun e W' => e = .returned (.int .i64 0) ∧ Al w X bb [(id, t)] W' := by
  have hbb := (Array.getElem?_eq_some_iff.1 hbx).1
  refine (insert_emp hE t sl id ha hr.1 hr.2 hfit).mono ?_
  rintro e W' ⟨rfl, s, P, y, B, M, hD, hO, hK, _⟩
  refine ⟨rfl, _, P, y, B, M, rfl, hD, fun r hr => ?_, (hO.block bb hbb (by simp; omega)).trans hbx, only_below hb hb.size hO (by simp; omega), h1, h2⟩
  rcases hK r hr with h | h
  · cases h
  · omega

theorem Al.next {w W : World} {X bb : Nat} {ts : List (Int × T)} (h : Al w X bb ts W) (hl : ts.length ≤ 200) (t : T) (sl : Value) (id : Int) (ha : ArgsAt W sl t.args) (hr : t.rightW = 0 ∧ t.size ≤ 1048576) (hfit : Fit64 id) (hno : ∀ e ∈ ts, e.1 ≠ id) :
    Calls Tryz.prog 9 #[.pointer (some ⟨X, 0, none⟩), .int .i64 id, tval t sl] W fun e W' => e = .returned (.int .i64 0) ∧ Al w X bb (ts ++ [(id, t)]) W' := by
  obtain ⟨es, P, y, B, M, h1, h2, h3, h4, h5, h6, h7⟩ := h
  have hbb := (Array.getElem?_eq_some_iff.1 h4).1
  have hes : es.length ≤ 200 := by rw [← h1] at hl; simpa using hl
  refine (insert_dsc h2 hes t sl id ha hr.1 hr.2 hfit (fun e he => hno (e.1, e.2.1) (by rw [← h1]; exact List.mem_map.2 ⟨e, he, rfl⟩))).mono ?_
  rintro e W' ⟨rfl, s, P', y', B', M', hD, hO, hK, _⟩
  refine ⟨rfl, _, P', y', B', M', by rw [List.map_append, h1]; rfl, hD, fun r hr => ?_, (hO.block bb hbb (fun hm => ?_)).trans h4, only_below h5 h5.size hO (fun r hr => ?_), h6, h7⟩
  · rcases hK r hr with h | h
    · exact h3 r h
    · omega
  · rcases List.mem_cons.1 hm with rfl | hm
    · omega
    · have := h3 bb hm; omega
  · rcases List.mem_cons.1 hr with rfl | hr
    · exact h6
    · have := h3 r hr; omega

/-- What the example asks of what is told. -/
theorem Al.told {w W : World} {X bb : Nat} (h : Al w X bb [(1, tf tv tv), (2, tf tv tb), (3, tq)] W) (sl : Value) (ha : ArgsAt W sl (tf tb tb).args) :
    Calls Tryz.prog 17 #[.pointer (some ⟨X, 0, none⟩), tval (tf tb tb) sl] W fun e W' => ∃ g cap a c, e = .returned (.slice (some ⟨g, 0, none⟩) 2 cap) ∧ 2 ≤ cap ∧ cap ≤ maxLen ∧ W'.cell? ⟨g, 0, none⟩ = some (.int .i64 1) ∧ W'.cell? ⟨g, 1, none⟩ = some (.slice a 1 c) ∧ W'.cell? ⟨g, 2, none⟩ = some (.int .i64 2) ∧ Below w.heap.size w W' ∧
      (Calls Tryz.prog 13 #[.pointer (some ⟨X, 0, none⟩)] W' fun e W'' => e = .returned (.int .i64 3) ∧ W'' = W') ∧ (Calls Tryz.prog 14 #[.pointer (some ⟨X, 0, none⟩)] W' fun e W'' => e = .returned (.int .i64 6) ∧ W'' = W') := by
  obtain ⟨es, P, y, B, M, h1, h2, h3, h4, h5, h6, h7⟩ := h
  have hlen : es.length = 3 := by have := congrArg List.length h1; simpa using this
  rcases es with _ | ⟨e1, _ | ⟨e2, _ | ⟨e3, _ | ⟨e4, r⟩⟩⟩⟩
  · simp at hlen
  · simp at hlen
  · simp at hlen
  · simp only [List.map_cons, List.map_nil, List.cons.injEq, Prod.mk.injEq, and_true] at h1
    obtain ⟨⟨a1, a2⟩, ⟨a3, a4⟩, ⟨a5, a6⟩⟩ := h1
    have hmem : ∀ q, q ∈ P ↔ q ∈ PQ6 := fun q => by
      rw [h2.mem, pq6_mem]
      simp only [List.mem_cons, List.not_mem_nil, or_false, exists_eq_or_imp, exists_eq_left]
      rw [a2, a4, a6, path1, path2, path3]
    obtain ⟨n1, n2⟩ := ends6 hmem
    refine (generals_any h2 (by simp) (by simp) (tf tb tb) sl ha rgt4.1 rgt4.2 sort_ok).mono ?_
    rintro e W' ⟨v, hs, rfl, hrow, hsort, hb, hhit, hids, hnd⟩
    obtain ⟨x, z, rfl, hx, hz⟩ := hits2 hnd (fun z => by
      rw [hids]
      simp only [List.mem_cons, List.not_mem_nil, or_false, exists_eq_or_imp, exists_eq_left]
      rw [a2, a4, a6, path1, path2, path3, mres1, mres2, mres3, a1, a3]
      simp only [n1, n2, ne_eq, reduceCtorEq, not_false_eq_true, and_true, not_true_eq_false, and_false, or_false]
      constructor
      · rintro (h | h)
        · exact .inl h.symm
        · exact .inr h.symm
      · rintro (h | h)
        · exact .inl h.symm
        · exact .inr h.symm) hsort
    obtain ⟨ex, hex, hx1, τ, ks, hτ, hri, hB⟩ := hhit x (by simp)
    have hexe : ex = e1 := by
      simp only [List.mem_cons, List.not_mem_nil, or_false] at hex
      rcases hex with rfl | rfl | rfl
      · rfl
      · rw [a3, hx] at hx1; omega
      · rw [a5, hx] at hx1; omega
    subst hexe
    rw [a2, mres1] at hτ
    cases hτ
    obtain ⟨xa, xc, hxv, _⟩ := hB
    rw [list1 hri] at hxv
    obtain ⟨xi, x2, x3, x4⟩ := x
    obtain ⟨zi, z2, z3, z4⟩ := z
    simp only [HE.val, Value.slice.injEq] at hxv
    obtain ⟨rfl, rfl, rfl⟩ := hxv
    simp only at hx hz
    subst hx
    subst hz
    rcases hrow.2 with ⟨_, h0⟩ | ⟨g, cap, cur, rfl, hg1, hg2, hg3, hg4, hg5, hg6⟩
    · simp at h0
    · have cl : ∀ k u, (flH [((1 : Int), x2, 1, x4), ((2 : Int), z2, z3, z4)])[k]? = some u → W'.cell? ⟨g, k, none⟩ = some u := fun k u hk => by
        have := hrow.cells rfl k u hk
        rwa [Addr.add_mid, Nat.zero_add] at this
      have hD' := h2.keep (hb.mono (Nat.le_refl _))
      refine ⟨g, cap, x2, x4, rfl, hg3, hg4, cl 0 _ rfl, cl 1 _ rfl, cl 2 _ rfl, h5.trans (hb.mono h5.size), ?_, ?_⟩
      · have := len_dsc hD'
        exact this
      · have := nodes_dsc hD'
        rw [len6 hD'.tre.tri.nod hmem] at this
        exact this
  · simp at hlen

end Go.Proofs.YtijihmncbaoklaaGreat

/-
  alive; the law of a nil tree.
-/
namespace Go.Proofs.YtijihmncbaoklaaGreat
open Go.RowKit Go.Maps

theorem args0 (W : World) : ArgsAt W (.slice none 0 0) ([] : List T) := (ArgsP.nil (fun _ => True) W).args

set_option maxRecDepth 100000 in
set_option maxHeartbeats 4000000 in
theorem alive_any (w : World) : Calls Tryz.prog 6 #[] w fun e w' => e = .returned (.bool true) ∧ Below w.heap.size w w' := by
  have hnew := new_any w
  go_enter Tryz.func6, Tryz.ntmps6
  go_wp2_with fail
  refine hnew.mono ?_
  rintro e W1 ⟨rfl, hE1, hb1, hs1⟩
  clear hnew
  go_upto_region 3 with fail
  obtain ⟨X, hX⟩ : ∃ X, w.heap.size = X := ⟨_, rfl⟩
  obtain ⟨bb, hbb⟩ : ∃ b, W1.heap.size = b := ⟨_, rfl⟩
  obtain ⟨W2, hW2⟩ : ∃ Y, W1.alloc (.cells #[.int .i64 0, .string ⟨#[98]⟩, .slice none 0 0] 32) = Y := ⟨_, rfl⟩
  have b12 : Below W1.heap.size W1 W2 := by rw [← hW2]; exact below_box _ _
  have z2 : W2.heap[bb]? = some bbox := by rw [← hW2, ← hbb]; exact (MapKept.heap_alloc _ _).1
  have hE2 : Emp W2 X := by rw [hX] at hE1; exact (b12.block X (by omega)).trans hE1
  have bw2 : Below w.heap.size w W2 := hb1.trans (b12.mono hb1.size)
  have H2 : Hid (Emp W2 X ∧ W2.heap[bb]? = some bbox ∧ Below w.heap.size w W2 ∧ w.heap.size ≤ X ∧ X < bb) := ⟨hE2, z2, bw2, by omega, by omega⟩
  rw [hX, hbb, hW2]
  clear hE1 hb1 hs1 hX b12 z2 hE2 bw2
  clear hW2 hbb
  go_wp2_with fail
  refine (f14_any tv tv none none 0 0 0 0 W2 (args0 W2) (args0 W2)).mono ?_
  rintro e W3 ⟨g3, rfl, hA3, hb3, _⟩
  go_wp2_with fail
  have h3 := H2.out
  refine (Al.first (w := w) (W := W3) (X := X) (bb := bb) ((hb3.block X (by have := (Array.getElem?_eq_some_iff.1 h3.2.1).1; omega)).trans h3.1) ((hb3.block bb ((Array.getElem?_eq_some_iff.1 h3.2.1).1)).trans h3.2.1) (h3.2.2.1.trans (hb3.mono h3.2.2.1.size)) h3.2.2.2.1 h3.2.2.2.2 (tf tv tv) _ 1 hA3 rgt1 (by unfold Fit64; omega)).mono ?_
  rintro e W4 ⟨rfl, hL4⟩
  clear hA3 hb3 h3 H2
  obtain ⟨c0, c1, c2⟩ := hL4.cells
  go_wp2_with fail
  refine (f14_any tv tb none none 0 0 0 0 W4 (args0 W4) (args0 W4)).mono ?_
  rintro e W5 ⟨g5, rfl, hA5, hb5, _⟩
  clear c0 c1 c2
  go_wp2_with fail
  refine ((hL4.keep hb5).next (by simp) (tf tv tb) _ 2 hA5 rgt2 (by unfold Fit64; omega) (by simp)).mono ?_
  rintro e W6 ⟨rfl, hL6⟩
  clear hL4 hA5 hb5
  go_wp2_with fail
  refine (hL6.next (by simp) tq (.slice none 0 0) 3 (args0 W6) rgt3 (by unfold Fit64; omega) (by simp)).mono ?_
  rintro e W7 ⟨rfl, hL7⟩
  clear hL6
  obtain ⟨c0, c1, c2⟩ := hL7.cells
  go_wp2_with fail
  refine (f14_any tb tb none none 0 0 0 0 W7 (args0 W7) (args0 W7)).mono ?_
  rintro e W8 ⟨g8, rfl, hA8, hb8, _⟩
  clear c0 c1 c2
  go_wp2_with fail
  refine ((hL7.keep hb8).told _ hA8).mono ?_
  rintro e W9 ⟨g, cap, a, c, rfl, hc1, hc2, k0, k1, k2, hb9, hln, hnd⟩
  clear hL7 hA8 hb8
  go_wp2_with fail
  refine hln.mono ?_
  rintro e W10 ⟨rfl, hw⟩
  rw [hw]
  clear hw hln
  go_wp2_with fail
  refine hnd.mono ?_
  rintro e W11 ⟨rfl, hw⟩
  rw [hw]
  clear hw hnd
  go_wp2
  go_ret
  exact ⟨rfl, hb9⟩

end Go.Proofs.YtijihmncbaoklaaGreat
