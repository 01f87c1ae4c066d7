/-
  subst.replaced.
-/
import Derived.Test.YtblfbmdnkgebdaaSA
import Derived.Test.YtblfbmdnkgebdaaQF
import Derived.RangeFuncBox
import Derived.OwnWalk
namespace Go.Proofs.Ytblfbmdnkgebdaa
open Go.RowKit

/-- A slice of terms in blocks from n on. -/
inductive ArgsFr (n : Nat) (W : World) : Value → List T → Prop
  | mk (a : Option Addr) (c : Nat) (l : List T) (s : Nat → Value) (hc : l.length ≤ c) (hm : c ≤ 9223372036854775807)
      (at0 : 0 < l.length → ∃ b o, n ≤ b ∧ b < W.heap.size ∧ a = some ⟨b, o, none⟩ ∧ ∀ i (h : i < l.length), W.cell? ⟨b, o + i * 3, none⟩ = some (.int .i64 l[i].v) ∧ W.cell? ⟨b, o + i * 3 + 1, none⟩ = some (.string l[i].fn) ∧ W.cell? ⟨b, o + i * 3 + 2, none⟩ = some (s i))
      (sub : ∀ i (h : i < l.length), ArgsFr n W (s i) l[i].args) : ArgsFr n W (.slice a l.length c) l

theorem ArgsFr.args {n : Nat} {W : World} {sl : Value} {l : List T} (h : ArgsFr n W sl l) : ArgsAt W sl l := by
  induction h with
  | mk a c l s hc hm at0 sub ih =>
    refine .mk a c l s hc hm (fun h0 => ?_) ih
    obtain ⟨b, o, _, hlt, rfl, hcell⟩ := at0 h0
    exact ⟨b, o, hlt, rfl, hcell⟩

theorem ArgsFr.keep {n : Nat} {W W' : World} {sl : Value} {l : List T} (h : ArgsFr n W sl l) (hs : W.heap.size ≤ W'.heap.size) (hk : ∀ k, n ≤ k → k < W.heap.size → W'.heap[k]? = W.heap[k]?) : ArgsFr n W' sl l := by
  induction h with
  | mk a c l s hc hm at0 sub ih =>
    refine .mk a c l s hc hm (fun h0 => ?_) ih
    obtain ⟨b, o, hn, hlt, rfl, hcell⟩ := at0 h0
    refine ⟨b, o, hn, Nat.lt_of_lt_of_le hlt hs, rfl, fun i hi => ?_⟩
    obtain ⟨h1, h2, h3⟩ := hcell i hi
    have e := hk b hn hlt
    exact ⟨(World.cell?_of_block (a := ⟨b, _, none⟩) e).trans h1, (World.cell?_of_block (a := ⟨b, _, none⟩) e).trans h2, (World.cell?_of_block (a := ⟨b, _, none⟩) e).trans h3⟩

theorem ArgsFr.low {n n' : Nat} {W : World} {sl : Value} {l : List T} (h : ArgsFr n W sl l) (hn : n' ≤ n) : ArgsFr n' W sl l := by
  induction h with
  | mk a c l s hc hm at0 sub ih =>
    refine .mk a c l s hc hm (fun h0 => ?_) ih
    obtain ⟨b, o, hb, hlt, rfl, hcell⟩ := at0 h0
    exact ⟨b, o, Nat.le_trans hn hb, hlt, rfl, hcell⟩

theorem ArgsFr.nil (n : Nat) (W : World) : ArgsFr n W (.slice none 0 0) [] :=
  .mk none 0 [] (fun _ => .slice none 0 0) (Nat.le_refl _) (by decide) (fun h => absurd h (by simp)) (fun i h => absurd h (by simp))

theorem ArgsFr.slice {n : Nat} {W : World} {sl : Value} {l : List T} (h : ArgsFr n W sl l) : ∃ a c, sl = .slice a l.length c := by
  cases h with
  | mk a c l s hc hm at0 sub => exact ⟨a, c, rfl⟩

/-- The term with what σ tells in place of each variable. -/
def T.app (σ : Int → T) : T → T
  | .mk v fn args => if fn.size = 0 then σ v else .mk 0 fn (apps args)
where apps : List T → List T
  | [] => []
  | a :: r => T.app σ a :: apps r

theorem T.app_eq (σ : Int → T) (t : T) : t.app σ = if t.fn.size = 0 then σ t.v else .mk 0 t.fn (t.args.map (T.app σ)) := by
  have h : ∀ l : List T, T.app.apps σ l = l.map (T.app σ) := by
    intro l
    induction l with
    | nil => rfl
    | cons a r ih => simp [T.app.apps, ih]
  cases t with
  | mk v fn args => simp [T.app, T.v, T.fn, T.args, h]

/-- A function that tells, in new memory, what stands for a variable. -/
def StandAt (W0 : World) (g : Nat) (lb : Array Value) (σ : Int → T) : Prop :=
  ∀ (n : Int) (W : World), Below W0.heap.size W0 W → Calls Try.prog g (#[.int .i64 n] ++ lb) W fun e W' => ∃ sl, e = .returned (tval (σ n) sl) ∧ ArgsFr W.heap.size W' sl (σ n).args ∧ Below W.heap.size W W'

theorem box_facts {X : World} {n : Nat} {u v s : Value} (h : X.heap[n]? = some (.cells #[u, v, s] 24 (0, 0))) : (X.cell? ⟨n, 0, none⟩ = some u ∧ X.cell? ⟨n, 1, none⟩ = some v ∧ X.cell? ⟨n, 2, none⟩ = some s) ∧ (X.frozen? ⟨n, 0, none⟩ = false ∧ X.frozen? ⟨n, 1, none⟩ = false ∧ X.frozen? ⟨n, 2, none⟩ = false) := by
  refine ⟨⟨?_, ?_, ?_⟩, ⟨?_, ?_, ?_⟩⟩ <;> simp [World.cell?, World.frozen?, h]

/-- Three cells of one block are written. -/
abbrev set3 (W : World) (b o : Nat) (u v s : Value) : World := ((W.setCell ⟨b, o, none⟩ u).setCell ⟨b, o + 1, none⟩ v).setCell ⟨b, o + 2, none⟩ s

theorem set3_other (W : World) (b o : Nat) (u v s : Value) (k : Nat) (h : k ≠ b) : (set3 W b o u v s).heap[k]? = W.heap[k]? := by
  rw [Below.heap_setCell _ _ _ k h, Below.heap_setCell _ _ _ k h, Below.heap_setCell _ _ _ k h]

theorem set3_size (W : World) (b o : Nat) (u v s : Value) : (set3 W b o u v s).heap.size = W.heap.size := by simp

theorem set3_below {n : Nat} {w W : World} (h : Below n w W) (b o : Nat) (u v s : Value) (hb : n ≤ b) : Below n w (set3 W b o u v s) :=
  ((h.setCell (p := ⟨b, o, none⟩) hb _).setCell (p := ⟨b, o + 1, none⟩) hb _).setCell (p := ⟨b, o + 2, none⟩) hb _

set_option maxRecDepth 100000 in
set_option maxHeartbeats 2000000 in
/-- At a variable. -/
theorem rep_var (W0 : World) (g : Nat) (lb : Array Value) (σ : Int → T) (eg : ∀ args w, (callFunc g args).run Try.prog w = .ok (.enter g args) w) (hst : StandAt W0 g lb σ) (t : T) (a : Option Addr) (m c : Nat) (w : World) (hw : Below W0.heap.size W0 w) (h0 : t.fn.size = 0) :
    Calls Try.prog 45 #[tval t (.slice a m c), .func (.func g) #[] lb] w fun e W' => ∃ sl, e = .returned (tval (t.app σ) sl) ∧ ArgsFr w.heap.size W' sl (t.app σ).args ∧ Below w.heap.size w W' := by
  have hap : t.app σ = σ t.v := by rw [T.app_eq, if_pos h0]
  rw [hap]
  have hdd : t.fn.toList.isEmpty = true := by rw [ba_isEmpty]; exact decide_eq_true h0
  obtain ⟨W2, hW2⟩ : ∃ W2, (w.alloc (tbox t (.slice a m c))).alloc (.cells #[.int .i64 0, .string ⟨#[]⟩, .slice none 0 0] 24) = W2 := ⟨_, rfl⟩
  have hb2 : Below w.heap.size w W2 := by rw [← hW2]; exact below_box2 w _ _
  have hz : W2.heap[w.heap.size + 1]? = some (.cells #[.int .i64 0, .string ⟨#[]⟩, .slice none 0 0] 24 (0, 0)) := by
    have := (MapKept.heap_alloc (w.alloc (tbox t (.slice a m c))) (.cells #[.int .i64 0, .string ⟨#[]⟩, .slice none 0 0] 24)).1
    rw [World.size_alloc] at this
    rw [← hW2]
    exact this
  have hsz : W2.heap.size = w.heap.size + 2 := by rw [← hW2]; simp
  have hc := hst t.v W2 (hw.trans (hb2.mono hw.size))
  obtain ⟨t0, t1, t2⟩ := tbox_cells w t (.slice a m c)
  have hbb := below_box (w.alloc (tbox t (.slice a m c))) (.cells #[.int .i64 0, .string ⟨#[]⟩, .slice none 0 0] 24)
  have t0' := kc hbb (by simp) t0
  have t1' := kc hbb (by simp) t1
  clear t0 t1 t2 hbb hap h0
  subst hW2
  go_enter Try.func45, Try.ntmps45
  go_wp2_with (first | (go_at_fn g; refine hc.mono ?_; rintro e w3 ⟨sl, rfl, hfr, hb3⟩; obtain ⟨pa, pc, rfl⟩ := hfr.slice; have hz3 := (hb3.block (w.heap.size + 1) (by simp)).trans hz; obtain ⟨⟨z0, z1, z2⟩, y0, y1, y2⟩ := box_facts hz3; have HF : Hid (ArgsFr ((w.alloc (tbox t (.slice a m c))).alloc (.cells #[.int .i64 0, .string ⟨#[]⟩, .slice none 0 0] 24)).heap.size w3 (.slice pa (σ t.v).args.length pc) (σ t.v).args ∧ Below ((w.alloc (tbox t (.slice a m c))).alloc (.cells #[.int .i64 0, .string ⟨#[]⟩, .slice none 0 0] 24)).heap.size ((w.alloc (tbox t (.slice a m c))).alloc (.cells #[.int .i64 0, .string ⟨#[]⟩, .slice none 0 0] 24)) w3) := ⟨hfr, hb3⟩; clear hfr hb3 hz3))
  refine bodyPost_ret (v := tval (σ t.v) (.slice pa (σ t.v).args.length pc)) (by simp [results, Try.results45, go_sem, *]) rfl ⟨_, rfl, ?_, ?_⟩
  · refine (HF.out.1.keep (W' := set3 w3 (w.heap.size + 1) 0 _ _ _) (by simp) (fun k hk _ => set3_other _ _ _ _ _ _ k (by simp at hk; omega))).low (by simp; omega)
  · exact set3_below (hb2.trans (HF.out.2.mono (by simp; omega))) _ 0 _ _ _ (Nat.le_succ _)

end Go.Proofs.Ytblfbmdnkgebdaa
