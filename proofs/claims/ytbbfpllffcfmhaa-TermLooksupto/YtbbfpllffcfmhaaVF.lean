/-
  TermLooks' walk.
-/
import Derived.Test.YtbbfpllffcfmhaaVC
import Derived.Test.YtbbfpllffcfmhaaVE
import Derived.Test.YtbbfpllffcfmhaaZK
namespace Go.Proofs.Ytbbfpllffcfmhaa
open Go.RowKit Go.Maps

/-- A term in a box. -/
structure One (w : World) (x : T) (sx : Value) (X : World) : Prop where
  a0 : X.cell? ⟨w.heap.size, 0, none⟩ = some (.int .i64 x.v)
  a1 : X.cell? ⟨w.heap.size, 1, none⟩ = some (.string x.fn)
  a2 : X.cell? ⟨w.heap.size, 2, none⟩ = some sx
  ax : ArgsAt X sx x.args
  bel : Below w.heap.size w X
  sz : w.heap.size + 1 ≤ X.heap.size

theorem One.keep {w : World} {x : T} {sx : Value} {X X' : World} (h : One w x sx X) (hb : Below X.heap.size X X') : One w x sx X' := by
  have hs := h.sz
  exact ⟨kc hb (by omega) h.a0, kc hb (by omega) h.a1, kc hb (by omega) h.a2, ArgsAt.keep hb (Nat.le_refl _) h.ax, h.bel.trans (hb.mono h.bel.size), Nat.le_trans hs hb.size⟩

theorem One.serves {w : World} {x : T} {sx : Value} {f : Nat} {args : Array Value} {r : Value} (h : ∀ X, One w x sx X → Calls Try.prog f args X fun e X' => e = .returned r ∧ Below X.heap.size X X') : Serves (One w x sx) f args r :=
  fun X hX => (h X hX).mono fun _ _ ⟨he, hb⟩ => ⟨he, hX.keep hb⟩

set_option maxRecDepth 100000 in
set_option maxHeartbeats 4000000 in
theorem looks_any (t : T) (a : Option Addr) (c : Nat) (w : World) (ha : ArgsAt w (.slice a t.args.length c) t.args) (hS : Short t) (hbig : (t.parts []).length ≤ 1048576) :
    Calls Try.prog 3 #[tval t (.slice a t.args.length c)] w fun e w' => e = .returned (.bool true) ∧ Below w.heap.size w w' := by
  have hb0 := below_box w (tbox t (.slice a t.args.length c))
  obtain ⟨t0, t1, t2⟩ := tbox_cells w t (.slice a t.args.length c)
  have hS0 : One w t (.slice a t.args.length c) (w.alloc (tbox t (.slice a t.args.length c))) := ⟨t0, t1, t2, ArgsAt.keep hb0 (Nat.le_refl _) ha, hb0, by simp⟩
  have hdep : t.depthW = t.depth := by
    refine depthW_small t ?_
    have := (dm_ge (t.parts [])).2 hS
    rw [dm_parts t] at this
    omega
  have hvl : t.vs.length ≤ 1048576 := by
    have := pvs_len (t.parts [])
    rw [vs_parts t []] at this
    omega
  have hkl : (t.vs.foldl wth []).length ≤ 1048576 := by
    have := wths_len t.vs []
    simp only [List.length_nil] at this
    omega
  have h8 : Serves (One w t (.slice a t.args.length c)) 8 #[tval t (.slice a t.args.length c)] (.int .i64 t.rightW) := One.serves fun X hX => tright_any t _ X hX.ax hS
  have h9 : Serves (One w t (.slice a t.args.length c)) 9 #[tval t (.slice a t.args.length c)] (.int .i64 t.rightW) := One.serves fun X hX => rright_any t _ X hX.ax
  have h10 : Serves (One w t (.slice a t.args.length c)) 10 #[tval t (.slice a t.args.length c)] (.int .i64 (wrap64 t.size)) := One.serves fun X hX => tsize_any t _ X hX.ax hS
  have h11 : Serves (One w t (.slice a t.args.length c)) 11 #[tval t (.slice a t.args.length c)] (.int .i64 (wrap64 t.size)) := One.serves fun X hX => rsize_any t _ X hX.ax
  have h12 : Serves (One w t (.slice a t.args.length c)) 12 #[tval t (.slice a t.args.length c)] (.int .i64 t.depth) := One.serves fun X hX => tdepth_any t _ X hX.ax hS
  have h13 : Serves (One w t (.slice a t.args.length c)) 13 #[tval t (.slice a t.args.length c)] (.int .i64 t.depth) := One.serves fun X hX => by rw [← hdep]; exact rdepth_any t _ X hX.ax
  have h17 : Serves (One w t (.slice a t.args.length c)) 17 #[] (.bool true) := One.serves fun X _ => alive_any X
  obtain ⟨k, hk⟩ : ∃ k, (t.vs.foldl wth []).length = k := ⟨_, rfl⟩
  obtain ⟨vals, hvals⟩ : ∃ vals, (t.vs.foldl wth []).map (Value.int .i64) = vals := ⟨_, rfl⟩
  have hlenv : ∀ (X : World) b v n, X.ownsRow b 3 1 v n vals → ∃ p d, v = .slice p k d ∧ n = k := by
    intro X b v n h
    have : n = k := by
      have := h.1
      rw [← hvals, List.length_map, hk] at this
      omega
    subst this
    obtain ⟨p, d, rfl⟩ := row_form h
    exact ⟨p, d, rfl, rfl⟩
  have h15 : ∀ X, One w t (.slice a t.args.length c) X → Calls Try.prog 15 #[tval t (.slice a t.args.length c)] X fun e X' => ∃ p d, e = .returned (.slice p k d) ∧ X'.ownsRow 0 3 1 (.slice p k d) k vals ∧ One w t (.slice a t.args.length c) X' := fun X hX => (tvars_any t _ X hX.ax hS hbig).mono fun e X' ⟨v, n, he, hr, hb⟩ => by
    rw [hvals] at hr
    obtain ⟨p, d, rfl, rfl⟩ := hlenv _ _ _ _ hr
    exact ⟨p, d, he, row_low hr (Nat.zero_le _), hX.keep hb⟩
  have h16 : ∀ X, One w t (.slice a t.args.length c) X → ∀ v, X.ownsRow 0 3 1 v k vals → Calls Try.prog 16 #[tval t (.slice a t.args.length c)] X fun e X' => ∃ p d, e = .returned (.slice p k d) ∧ X'.ownsRow 0 3 1 (.slice p k d) k vals ∧ X'.ownsRow 0 3 1 v k vals ∧ One w t (.slice a t.args.length c) X' := fun X hX u hu => (rvars_any t _ X hX.ax hvl).mono fun e X' ⟨v, n, he, hr, hb⟩ => by
    rw [hvals] at hr
    obtain ⟨p, d, rfl, rfl⟩ := hlenv _ _ _ _ hr
    exact ⟨p, d, he, row_low hr (Nat.zero_le _), row_below hu hb, hX.keep hb⟩
  have h14 : ∀ X, One w t (.slice a t.args.length c) X → ∀ u v, X.ownsRow 0 3 1 u k vals → X.ownsRow 0 3 1 v k vals → Calls Try.prog 14 #[u, v] X fun e X' => e = .returned (.bool true) ∧ One w t (.slice a t.args.length c) X' := fun X hX u v hu hv => by
    rw [← hvals] at hu hv
    exact (ints_any 0 0 u v k _ X hu hv (by omega)).mono fun e X' ⟨he, hb⟩ => ⟨he, hX.keep hb⟩
  have hC : ∀ X, One w t (.slice a t.args.length c) X → X.cell? ⟨w.heap.size, 0, none⟩ = some (.int .i64 t.v) ∧ X.cell? ⟨w.heap.size, 1, none⟩ = some (.string t.fn) ∧ X.cell? ⟨w.heap.size, 2, none⟩ = some (.slice a t.args.length c) := fun X h => ⟨h.a0, h.a1, h.a2⟩
  have hdr : ∀ X, One w t (.slice a t.args.length c) X → One w t (.slice a t.args.length c) X.drew := fun X h => h.keep (Below.refl _ X).drew
  have hbl : ∀ X, One w t (.slice a t.args.length c) X → Below w.heap.size w X := fun X h => h.bel
  clear ha hb0 t0 t1 t2 hS hbig hdep hvl hkl hlenv hvals hk
  obtain ⟨S, hS⟩ : ∃ S, One w t (.slice a t.args.length c) = S := ⟨_, rfl⟩
  rw [hS] at hS0 h8 h9 h10 h11 h12 h13 h17 h15 h16 h14 hC hdr hbl
  clear hS
  obtain ⟨rw0, hrw0⟩ : ∃ r, t.rightW = r := ⟨_, rfl⟩
  rw [hrw0] at h8 h9
  obtain ⟨sz0, hsz0⟩ : ∃ r, wrap64 t.size = r := ⟨_, rfl⟩
  rw [hsz0] at h10 h11
  obtain ⟨dp0, hdp0⟩ : ∃ r, t.depth = r := ⟨_, rfl⟩
  rw [hdp0] at h12 h13
  clear hrw0 hsz0 hdp0
  have hSd := hdr _ hS0
  obtain ⟨n0, n1, n2⟩ := hC _ hSd
  clear hdr hS0
  go_enter Try.func3, Try.ntmps3
  go_wp2
  go_region_held3 (fun X => X.cell? ⟨w.heap.size, 0, none⟩ = some (.int .i64 t.v) ∧ X.cell? ⟨w.heap.size, 1, none⟩ = some (.string t.fn) ∧ X.cell? ⟨w.heap.size, 2, none⟩ = some (.slice a t.args.length c)) (first | exact ⟨n0, n1, n2⟩ | exact K3 | exact K4 | exact K5 | exact K6 | exact K7 | exact K8 | exact K9 | exact K10 | exact K11 | exact K12) (first
    | (go_at_call 8; refine (h8 _ hSd).mono ?_; rintro e W3 ⟨rfl, HW3⟩; have K3 := hC _ HW3)
    | (go_at_call 9; refine (h9 _ HW3).mono ?_; rintro e W4 ⟨rfl, HW4⟩; have K4 := hC _ HW4)
    | (go_at_call 10; refine (h10 _ HW4).mono ?_; rintro e W5 ⟨rfl, HW5⟩; have K5 := hC _ HW5)
    | (go_at_call 11; refine (h11 _ HW5).mono ?_; rintro e W6 ⟨rfl, HW6⟩; have K6 := hC _ HW6)
    | (go_at_call 12; refine (h12 _ HW6).mono ?_; rintro e W7 ⟨rfl, HW7⟩; have K7 := hC _ HW7)
    | (go_at_call 13; refine (h13 _ HW7).mono ?_; rintro e W8 ⟨rfl, HW8⟩; have K8 := hC _ HW8)
    | (go_at_call 15; refine (h15 _ HW8).mono ?_; rintro e W9 ⟨p1, d1, rfl, R9, HW9⟩; have K9 := hC _ HW9)
    | (go_at_call 16; refine (h16 _ HW9 _ R9).mono ?_; rintro e W10 ⟨p2, d2, rfl, R10, R11, HW10⟩; have K10 := hC _ HW10)
    | (go_at_call 14; refine (h14 _ HW10 _ _ R11 R10).mono ?_; rintro e W11 ⟨rfl, HW11⟩; have K11 := hC _ HW11)
    | (go_at_call 17; refine (h17 _ HW11).mono ?_; rintro e W12 ⟨rfl, HW12⟩; have K12 := hC _ HW12))
  go_wp2
  go_ret
  exact ⟨rfl, hbl _ HW12⟩

end Go.Proofs.Ytbbfpllffcfmhaa
