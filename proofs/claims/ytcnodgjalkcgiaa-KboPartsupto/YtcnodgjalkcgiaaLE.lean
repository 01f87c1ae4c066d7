/-
  A term in a place: the document's Put.
-/
import Derived.Test.YtcnodgjalkcgiaaLD
import Derived.Test.YtcnodgjalkcgiaaNE
namespace Go.Proofs.Ytcnodgjalkcgiaa
open Go.RowKit Go.Maps

/-- What comes out where a part is put anew. -/
def T.rep : List Int → T → T → Option T
  | [], s, _ => some s
  | i :: p, s, t => if h : 0 ≤ i ∧ i < (t.args.length : Int) then (T.rep p s (t.args[i.toNat]'(by omega))).map (fun x => .mk 0 t.fn (t.args.set i.toNat x)) else none

/-- What Put answers. -/
def PutAns (p : List Int) (s t : T) (w0 w w' : World) (r : T) (sr : Value) (b : Bool) : Prop :=
  ArgsP (fun b => b < w0.heap.size ∨ w.heap.size ≤ b) w' sr r.args ∧ Below w.heap.size w w' ∧ ((b = true ∧ T.rep p s t = some r) ∨ (b = false ∧ T.rep p s t = none))

theorem below_box3 (w : World) (a b c : Obj) : Below w.heap.size w (((w.alloc a).alloc b).alloc c) := (below_box2 w a b).trans ((below_box _ c).mono (by simp; omega))

/-- What a round of Put leaves. -/
structure QI (V : World) (P : Nat → Prop) (fn : ByteArray) (l : List T) (k : Nat) (v : Value) (ps : List (T × Value)) (W : World) : Prop where
  args : ps.map (·.1) = l.take k
  ok : ∀ p ∈ ps, ArgsP P V p.2 p.1.args
  row : W.ownsRow (V.heap.size + 1) 28 3 v k (flatT ps)
  out : W.heap[V.heap.size]? = some (.cells #[.int .i64 0, .string fn, v] 28 (0, 0))
  bel : Below V.heap.size V W
  siz : V.heap.size + 1 ≤ W.heap.size

theorem QI.start (V : World) (P : Nat → Prop) (fn : ByteArray) (l : List T) : QI V P fn l 0 (.slice none 0 0) [] (V.alloc (.cells #[.int .i64 0, .string fn, .slice none 0 0] 28)) :=
  ⟨rfl, fun p hp => absurd hp (by simp), World.ownsRow_nil _ _ _ _, (MapKept.heap_alloc V _).1, below_box V _, by simp⟩

theorem QI.push {V : World} {P : Nat → Prop} {fn : ByteArray} {l : List T} {k : Nat} {v : Value} {ps : List (T × Value)} {wr : World} (h : QI V P fn l k v ps wr) (hlt : k < l.length) (u : T) (hu : l[k] = u) (s5 : Value) (hA : ArgsP P V s5 u.args) (X w6 : World) (hX : Below wr.heap.size wr X) (v' : Value)
    (hown : w6.ownsRow (V.heap.size + 1) 28 3 v' (k + 1) (flatT ps ++ [.int .i64 u.v, .string u.fn, s5])) (hg : X.grownBy w6 v.ownBlock) :
    QI V P fn l (k + 1) v' (ps ++ [(u, s5)]) (w6.setCell ⟨V.heap.size, 2, none⟩ v') := by
  have hsz := h.siz
  have hXs := hX.size
  have hgs := hg.size
  have hn : ∀ j, j < V.heap.size + 1 → v.ownBlock ≠ some j := fun j hj e => by have := (h.row.lt j e).1; omega
  have hv'l : ∀ g, v'.ownBlock = some g → V.heap.size + 1 ≤ g := fun g e => (hown.lt g e).1
  have hout : w6.heap[V.heap.size]? = some (.cells #[.int .i64 0, .string fn, v] 28 (0, 0)) := by
    rw [hg.block _ (by omega) (fun e => hn _ (by omega) e.symm), hX.block _ (by omega)]
    exact h.out
  refine ⟨?_, fun p hp => ?_, ?_, ?_, ?_, ?_⟩
  · rw [List.map_append, h.args, List.take_succ_eq_append_getElem hlt]
    simp [hu]
  · rcases List.mem_append.1 hp with hp | hp
    · exact h.ok p hp
    · simp at hp
      subst hp
      exact hA
  · rw [flatT_snoc]
    exact row_keep hown (fun g hg => Below.heap_setCell _ _ _ g (by have := hv'l g hg; intro e; have : g = V.heap.size := e; omega))
  · have := heap_setCell_same w6 V.heap.size 2 _ 28 v' hout
    simpa using this
  · exact h.bel.trans ⟨by rw [show (w6.setCell ⟨V.heap.size, 2, none⟩ v').os = w6.os from rfl, hg.os, hX.os], by rw [show (w6.setCell ⟨V.heap.size, 2, none⟩ v').tape = w6.tape from rfl, hg.tape, hX.tape], by rw [show (w6.setCell ⟨V.heap.size, 2, none⟩ v').output = w6.output from rfl, hg.output, hX.output], by simp; omega, fun j hj => by
      rw [Below.heap_setCell _ _ _ j (by show j ≠ V.heap.size; omega), hg.block j (by omega) (fun e => hn j (by omega) e.symm), hX.block j (by omega)]⟩
  · simp; omega

theorem QI.last {V : World} {P : Nat → Prop} {fn : ByteArray} {l : List T} {v : Value} {ps : List (T × Value)} {wr : World} (h : QI V P fn l l.length v ps wr) (R : Nat) (hR : R < V.heap.size) (hP : ∀ b, V.heap.size + 1 ≤ b → P b) (hPR : ∀ b, P b → b ≠ R) :
    ArgsP P (set3 wr R 0 (.int .i64 0) (.string fn) v) v l :=
  argsP_of_row (row_keep h.row fun g hg => set3_other _ _ _ _ _ _ g (by have := (h.row.lt g hg).1; omega)) rfl (by rw [h.args, List.take_length]) hP (fun p hp => (h.ok p hp).keep (by rw [set3_size]; exact h.bel.size) (fun b hb hlt => ⟨hb, (set3_other _ _ _ _ _ _ b (hPR b hb)).trans (h.bel.block b hlt)⟩))

theorem set3_same {X : World} {b : Nat} {u v s u' v' s' : Value} (h : X.heap[b]? = some (.cells #[u, v, s] 28 (0, 0))) : (set3 X b 0 u' v' s').heap[b]? = some (.cells #[u', v', s'] 28 (0, 0)) := by
  have h1 := heap_setCell_same X b 0 _ 28 u' h
  have h2 := heap_setCell_same (X.setCell ⟨b, 0, none⟩ u') b 1 _ 28 v' h1
  have h3 := heap_setCell_same ((X.setCell ⟨b, 0, none⟩ u').setCell ⟨b, 1, none⟩ v') b 2 _ 28 s' h2
  simpa using h3

set_option maxRecDepth 100000 in
set_option maxHeartbeats 4000000 in
theorem rput_any (w0 : World) (s : T) (ss : Value) (hs0 : ArgsAt w0 ss s.args) : ∀ (p : List Int) (t : T) (sl pv : Value) (w : World), Below w0.heap.size w0 w → RowAt (.int .i64) w pv p → ArgsAt w0 sl t.args → t.shape = true →
    Calls Try.prog 23 #[tval t sl, pv, tval s ss] w fun e w' => ∃ r pa pc b, e = .returned (.tuple #[tval r (.slice pa r.args.length pc), .bool b]) ∧ Hid (PutAns p s t w0 w w' r (.slice pa r.args.length pc) b) := by
  obtain ⟨sa0, sc0, rfl, _, _⟩ := hs0.slice
  have HS0 : Hid (ArgsAt w0 (.slice sa0 s.args.length sc0) s.args) := hs0
  clear hs0
  intro p
  induction p with
  | nil =>
    intro t sl pv w hb0 hp ha hsh
    obtain ⟨pa, pc, rfl, _, _⟩ := hp.slice
    obtain ⟨a, c, rfl, _, _⟩ := ha.slice
    obtain ⟨W1, hW1⟩ : ∃ W1, ((w.alloc (tbox t (.slice a t.args.length c))).alloc (tbox s (.slice sa0 s.args.length sc0))).alloc (.cells #[.int .i64 0, .string ⟨#[]⟩, .slice none 0 0] 28) = W1 := ⟨_, rfl⟩
    have hb2 : Below w.heap.size w W1 := by rw [← hW1]; exact below_box3 w _ _ _
    have hz : W1.heap[w.heap.size + 1 + 1]? = some (.cells #[.int .i64 0, .string ⟨#[]⟩, .slice none 0 0] 28 (0, 0)) := by
      have := (MapKept.heap_alloc ((w.alloc (tbox t (.slice a t.args.length c))).alloc (tbox s (.slice sa0 s.args.length sc0))) (.cells #[.int .i64 0, .string ⟨#[]⟩, .slice none 0 0] 28)).1
      rw [World.size_alloc, World.size_alloc, hW1] at this
      exact this
    obtain ⟨⟨z0, z1, z2⟩, y0, y1, y2⟩ := box_facts hz
    obtain ⟨t0, t1, t2⟩ := tbox_cells (w.alloc (tbox t (.slice a t.args.length c))) s (.slice sa0 s.args.length sc0)
    have hbb := below_box ((w.alloc (tbox t (.slice a t.args.length c))).alloc (tbox s (.slice sa0 s.args.length sc0))) (.cells #[.int .i64 0, .string ⟨#[]⟩, .slice none 0 0] 28)
    rw [hW1] at hbb
    rw [World.size_alloc] at t0 t1 t2
    have t0' := kc hbb (by simp) t0
    have t1' := kc hbb (by simp) t1
    have t2' := kc hbb (by simp) t2
    have H0 : Hid (Below w0.heap.size w0 w ∧ Below w.heap.size w W1) := ⟨hb0, hb2⟩
    clear hz hb2 hbb t0 t1 t2 ha hp hb0
    simp only [List.length_nil]
    go_enter Try.func23, Try.ntmps23
    try rw [hW1]
    go_wp2
    refine bodyPost_ret (v := .tuple #[tval s (.slice sa0 s.args.length sc0), .bool true]) (by simp [results, Try.results23, go_sem, *]) rfl ⟨s, _, _, true, rfl, ?_⟩
    have hfw := set3_below H0.out.2 (w.heap.size + 1 + 1) 0 (.int .i64 s.v) (.string s.fn) (.slice sa0 s.args.length sc0) (by omega)
    have hfin := H0.out.1.trans (hfw.mono H0.out.1.size)
    exact ⟨HS0.out.belowP.keep hfin.size (fun k hk _ => ⟨.inl hk, hfin.block k hk⟩), hfw, .inl ⟨rfl, rfl⟩⟩
  | cons i p ih =>
    intro t sl pv w hb0 hp ha hsh
    obtain ⟨pa, pc, rfl, hpl, hpm⟩ := hp.slice
    obtain ⟨pb, po, rfl, hpb, hcell⟩ := hp.nth (i := 0) (by simp)
    obtain ⟨a, c, rfl, _, _⟩ := ha.slice
    have hcell0 : w.cell? ⟨pb, po, none⟩ = some (.int .i64 i) := hcell
    obtain ⟨W1, hW1⟩ : ∃ W1, ((w.alloc (tbox t (.slice a t.args.length c))).alloc (tbox s (.slice sa0 s.args.length sc0))).alloc (.cells #[.int .i64 0, .string ⟨#[]⟩, .slice none 0 0] 28) = W1 := ⟨_, rfl⟩
    have hb2 : Below w.heap.size w W1 := by rw [← hW1]; exact below_box3 w _ _ _
    have hz : W1.heap[w.heap.size + 1 + 1]? = some (.cells #[.int .i64 0, .string ⟨#[]⟩, .slice none 0 0] 28 (0, 0)) := by
      have := (MapKept.heap_alloc ((w.alloc (tbox t (.slice a t.args.length c))).alloc (tbox s (.slice sa0 s.args.length sc0))) (.cells #[.int .i64 0, .string ⟨#[]⟩, .slice none 0 0] 28)).1
      rw [World.size_alloc, World.size_alloc, hW1] at this
      exact this
    obtain ⟨s0, s1, s2⟩ := tbox_cells (w.alloc (tbox t (.slice a t.args.length c))) s (.slice sa0 s.args.length sc0)
    have hbb := below_box ((w.alloc (tbox t (.slice a t.args.length c))).alloc (tbox s (.slice sa0 s.args.length sc0))) (.cells #[.int .i64 0, .string ⟨#[]⟩, .slice none 0 0] 28)
    rw [hW1] at hbb
    rw [World.size_alloc] at s0 s1 s2
    replace s0 := kc hbb (by simp) s0
    replace s1 := kc hbb (by simp) s1
    replace s2 := kc hbb (by simp) s2
    obtain ⟨t0, t1, t2⟩ := tbox_cells w t (.slice a t.args.length c)
    have hb12' := below_box2 (w.alloc (tbox t (.slice a t.args.length c))) (tbox s (.slice sa0 s.args.length sc0)) (.cells #[.int .i64 0, .string ⟨#[]⟩, .slice none 0 0] 28)
    rw [hW1] at hb12'
    replace t0 := kc hb12' (by simp) t0
    replace t1 := kc hb12' (by simp) t1
    replace t2 := kc hb12' (by simp) t2
    have hsz : W1.heap.size = w.heap.size + 3 := by rw [← hW1]; simp
    have hcw := kc hb2 hpb hcell0
    have hF0 : ∀ q : Far, (far W1 q).cell? ⟨w.heap.size, 2, none⟩ = some (.slice a t.args.length c) := fun q => cell_far (by omega) t2 q
    have hF1 : ∀ q : Far, (far W1 q).cell? ⟨pb, po, none⟩ = some (.int .i64 i) := fun q => cell_far (by omega) hcw q
    have HP : Hid (RowAt (.int .i64) w (.slice (some ⟨pb, po, none⟩) (i :: p).length pc) (i :: p) ∧ ArgsAt w0 (.slice a t.args.length c) t.args ∧ Below w.heap.size w W1 ∧ W1.heap.size = w.heap.size + 3) := ⟨hp, ha, hb2, hsz⟩
    have H0 : Hid (Below w0.heap.size w0 w) := hb0
    have HZ : Hid (W1.heap[w.heap.size + 1 + 1]? = some (.cells #[.int .i64 0, .string ⟨#[]⟩, .slice none 0 0] 28 (0, 0))) := hz
    clear hb0 hz
    have hl1 : ((i :: p).length : Int) = (p.length : Int) + 1 := by simp
    have hne : (((i :: p).length : Int) == 0) = false := by rw [beq_eq_false_iff_ne]; omega
    have HE : Hid (T.rep (i :: p) s t = if h : 0 ≤ i ∧ i < (t.args.length : Int) then (T.rep p s (t.args[i.toNat]'(by omega))).map (fun x => .mk 0 t.fn (t.args.set i.toNat x)) else none) := rfl
    obtain ⟨n, hn⟩ : ∃ n, (i :: p).length = n := ⟨_, rfl⟩
    rw [hn] at hne hpl HP hl1
    have hn0 : (0 : Int) < (n : Int) := by omega
    have hn1 : (1 : Int) ≤ (n : Int) := by omega
    have hpl' : (n : Int) ≤ (pc : Int) := by omega
    rw [hn]
    have HL : Hid (n = p.length + 1) := by show _ = _; rw [← hn]; simp
    clear hl1 hn
    clear hp ha hcell hcell0 hbb hb12'
    by_cases hbad : i < 0 ∨ (t.args.length : Int) ≤ i
    · have HN : Hid (T.rep (i :: p) s t = none) := by show _ = _; rw [HE.out, dif_neg (by omega)]
      have hgu : (decide (i < 0) = true) ∨ (decide (i < 0) = false ∧ decide ((t.args.length : Int) ≤ i) = true) := by
        by_cases h : i < 0
        · exact .inl (decide_eq_true h)
        · exact .inr ⟨decide_eq_false h, decide_eq_true (by omega)⟩
      clear HE hbad s0 s1 s2 t0 t1 t2
      rcases hgu with h1 | ⟨h1, h2⟩
      all_goals (
        go_enter Try.func23, Try.ntmps23
        try rw [hW1]
        go_wp2
        refine wp_region_far (by kernel_rfl) ?_
        repeat (first | go_big_quiet_step (fail) | quiet_step (fail))
        refine wpQuiet_nil ?_
        intro _ hw'
        obtain ⟨pf, rfl⟩ := hw'
        have hzf := ((below_far W1 pf).block (w.heap.size + 1 + 1) (by have := HP.out.2.2.2; omega)).trans HZ.out
        obtain ⟨⟨z0, z1, z2⟩, y0, y1, y2⟩ := box_facts hzf
        clear hzf
        go_wp2
        refine bodyPost_ret (v := .tuple #[tval zt (.slice none 0 0), .bool false]) (by simp [results, Try.results23, go_sem, *, zt, T.v, T.fn]) rfl ⟨zt, none, 0, false, rfl, ?_⟩
        exact ⟨ArgsP.nil _ _, set3_below (HP.out.2.2.1.trans ((below_far W1 pf).mono HP.out.2.2.1.size)) _ 0 _ _ _ (by omega), .inr ⟨rfl, HN.out⟩⟩)
    · have hi0 : 0 ≤ i := by omega
      obtain ⟨k, rfl⟩ := Int.eq_ofNat_of_zero_le hi0
      have hk : k < t.args.length := by omega
      have HN : Hid (T.rep ((k : Int) :: p) s t = (T.rep p s t.args[k]).map (fun x => .mk 0 t.fn (t.args.set k x))) := by show _ = _; rw [HE.out, dif_pos (by omega)]; rfl
      have h1 : decide ((k : Int) < 0) = false := decide_eq_false (by omega)
      have h2 : decide ((t.args.length : Int) ≤ (k : Int)) = false := decide_eq_false (by omega)
      have h3 : ¬ t.args.length ≤ k := by omega
      have hsh' := hsh
      rw [T.shape_eq] at hsh'
      have hshk : t.args.length ≤ 16 ∧ t.args[k].shape = true := by
        rcases shape_cases hsh with ⟨_, _, _, h⟩ | ⟨_, _, _, h4, h5⟩
        · rw [h] at hk; simp at hk
        · exact ⟨h4, h5 _ (List.getElem_mem hk)⟩
      have HSH : Hid (t.args.length ≤ 16) := hshk.1
      have hshk2 := hshk.2
      clear HE hbad hsh' hshk
      go_enter Try.func23, Try.ntmps23
      try rw [hW1]
      go_wp2
      refine wp_region_far (by kernel_rfl) ?_
      repeat (first | go_big_quiet_step (fail) | quiet_step (fail))
      refine wpQuiet_nil ?_
      intro _ hw'
      obtain ⟨pf, rfl⟩ := hw'
      obtain ⟨W2, hW2⟩ : ∃ W2, far W1 pf = W2 := ⟨_, rfl⟩
      have hb12 : Below W1.heap.size W1 W2 := by rw [← hW2]; exact below_far W1 pf
      rw [hW2]
      have hdr : Below W2.heap.size W2 W2.drew := (Below.refl _ W2).drew
      have hbw2 : Below w.heap.size w W2.drew := (HP.out.2.2.1.trans (hb12.mono HP.out.2.2.1.size)).trans (hdr.mono (by have := hb12.size; have := HP.out.2.2.2; omega))
      obtain ⟨ba, oa, s', rfl, hba, a0, a1, a2, hs⟩ := HP.out.2.1.nth hk
      obtain ⟨sa, sca, rfl, _⟩ := hs.slice
      have hba' := Nat.lt_of_lt_of_le hba H0.out.size
      replace a0 := kc H0.out hba a0
      replace a1 := kc H0.out hba a1
      replace a2 := kc H0.out hba a2
      have hb12d : Below W1.heap.size W1 W2.drew := hb12.trans (hdr.mono hb12.size)
      have HW2 : Hid (w.heap.size + 3 ≤ W2.drew.heap.size) := by have := hb12d.size; rw [hsz] at this; exact this
      have hC : ∀ X, Below W2.drew.heap.size W2.drew X → (X.cell? ⟨w.heap.size, 2, none⟩ = some (.slice (some ⟨ba, oa, none⟩) t.args.length c) ∧ X.cell? ⟨pb, po, none⟩ = some (.int .i64 (k : Int))) ∧ (X.cell? ⟨ba, oa + k * 3, none⟩ = some (.int .i64 t.args[k].v) ∧ X.cell? ⟨ba, oa + k * 3 + 1, none⟩ = some (.string t.args[k].fn) ∧ X.cell? ⟨ba, oa + k * 3 + 2, none⟩ = some (.slice sa t.args[k].args.length sca)) ∧ (X.cell? ⟨w.heap.size + 1, 0, none⟩ = some (.int .i64 s.v) ∧ X.cell? ⟨w.heap.size + 1, 1, none⟩ = some (.string s.fn) ∧ X.cell? ⟨w.heap.size + 1, 2, none⟩ = some (.slice sa0 s.args.length sc0)) := fun X hX => by
        have hbX := hbw2.trans (hX.mono hbw2.size)
        have hb1X := hb12d.trans (hX.mono hb12d.size)
        have hs2 := HP.out.2.2.2
        exact ⟨⟨kc hb1X (by omega) t2, kc hb1X (by omega) hcw⟩, ⟨kc hbX hba' a0, kc hbX hba' a1, kc hbX hba' a2⟩, kc hb1X (by omega) s0, kc hb1X (by omega) s1, kc hb1X (by omega) s2⟩
      have HRb : Hid (∀ X, Below W2.drew.heap.size W2.drew X → X.heap[w.heap.size + 1 + 1]? = some (.cells #[.int .i64 0, .string ⟨#[]⟩, .slice none 0 0] 28 (0, 0))) := fun X hX => by
        have hb1X := hb12d.trans (hX.mono hb12d.size)
        exact (hb1X.block (w.heap.size + 1 + 1) (by have := HP.out.2.2.2; omega)).trans HZ.out
      have HTb : Hid (∀ X, Below W2.drew.heap.size W2.drew X → X.cell? ⟨w.heap.size, 1, none⟩ = some (.string t.fn)) := fun X hX => by
        have hb1X := hb12d.trans (hX.mono hb12d.size)
        exact kc hb1X (by have := HP.out.2.2.2; omega) t1
      have K0 := hC _ (Below.refl _ _)
      have hplen : p.length = n - 1 := by have := HL.out; omega
      have hcall : ∀ qv, RowAt (.int .i64) w qv p → ∀ X, Below W2.drew.heap.size W2.drew X → Calls Try.prog 23 #[.agg #[.int .i64 t.args[k].v, .string t.args[k].fn, .slice sa t.args[k].args.length sca], qv, .agg #[.int .i64 s.v, .string s.fn, .slice sa0 s.args.length sc0]] X fun e X' => ∃ r pa pc b, e = .returned (.tuple #[.agg #[.int .i64 r.v, .string r.fn, .slice pa r.args.length pc], .bool b]) ∧ Hid (PutAns p s t.args[k] w0 X X' r (.slice pa r.args.length pc) b) := fun qv hq X hX => ih t.args[k] _ qv X ((H0.out.trans (hbw2.mono H0.out.size)).trans (hX.mono (Nat.le_trans H0.out.size hbw2.size))) ((hq.keep hbw2 (Nat.le_refl _)).keep hX (Nat.le_refl _)) hs hshk2
      have HO : Hid (∀ X, Below W2.drew.heap.size W2.drew X → Below w.heap.size w X) := fun X hX => hbw2.trans (hX.mono hbw2.size)
      obtain ⟨u, hu⟩ : ∃ u, t.args[k] = u := ⟨_, rfl⟩
      rw [hu] at K0 hcall HN
      simp only [hu] at hC
      have hk1 : (0 : Int) ≤ (k : Int) := by omega
      have hk2 : (k : Int) < (t.args.length : Int) := by omega
      clear hu hs a0 a1 a2 hF0 hF1 t0 t1 t2 s0 s1 s2 hcw hb12 hb12d hdr ih hW2 hshk2
      have hn2 : 0 < n := by omega
      have hal : Below W2.drew.heap.size W2.drew (W2.alloc (.cells #[.int .i64 0, .string ⟨#[]⟩, .slice none 0 0] 28)).drew := below_box W2.drew _
      have K1 := hC _ hal
      by_cases hc1 : pc = 1
      · have oP := HP.out.1.tail1 hc1
        rw [hplen] at oP
        have hcall' := hcall _ oP
        clear hcall oP
        go_wp2
        go_region_held3 (fun X => (X.cell? ⟨w.heap.size, 2, none⟩ = some (.slice (some ⟨ba, oa, none⟩) t.args.length c) ∧ X.cell? ⟨pb, po, none⟩ = some (.int .i64 (k : Int))) ∧ (X.cell? ⟨ba, oa + k * 3, none⟩ = some (.int .i64 u.v) ∧ X.cell? ⟨ba, oa + k * 3 + 1, none⟩ = some (.string u.fn) ∧ X.cell? ⟨ba, oa + k * 3 + 2, none⟩ = some (.slice sa u.args.length sca)) ∧ (X.cell? ⟨w.heap.size + 1, 0, none⟩ = some (.int .i64 s.v) ∧ X.cell? ⟨w.heap.size + 1, 1, none⟩ = some (.string s.fn) ∧ X.cell? ⟨w.heap.size + 1, 2, none⟩ = some (.slice sa0 s.args.length sc0))) (first | exact K0 | exact K1 | exact K3 | exact hC _ (hB3.trans ((below_box _ _).mono hB3.size)) | exact hC _ (set3_below hB3 W2.heap.size 0 _ _ _ (Nat.le_refl _)) | exact hC _ (hB3.trans ((set3_below (below_box W3 _) W3.heap.size 0 _ _ _ (Nat.le_refl _)).mono hB3.size))) (first
          | (go_at_call 23; refine (hcall' _ (Below.refl _ _)).mono ?_; rintro e W3 ⟨r, ra, rc, b3, rfl, H3⟩; have hB3 := H3.out.2.1; have K3 := hC _ hB3)
          | (go_at_call 23; refine (hcall' _ hal).mono ?_; rintro e W3 ⟨r, ra, rc, b3, rfl, H3⟩; have hB3 : Below W2.drew.heap.size W2.drew W3 := hal.trans (H3.out.2.1.mono hal.size); have K3 := hC _ hB3; have hxz : W3.heap[W2.heap.size]? = some (.cells #[.int .i64 0, .string ⟨#[]⟩, .slice none 0 0] 28 (0, 0)) := (H3.out.2.1.block W2.heap.size (by show W2.heap.size < (W2.alloc _).heap.size; simp)).trans (MapKept.heap_alloc W2 _).1; obtain ⟨⟨z0, z1, z2⟩, y0, y1, y2⟩ := box_facts hxz))
        · rename_i hHeld
          have HC : Hid _ := hC
          clear K0 hcall' K1 K3 hHeld hC hal hbw2 hplen
          obtain ⟨V, hV⟩ : ∃ V, W3.alloc (.cells #[.int .i64 r.v, .string r.fn, .slice ra r.args.length rc] 28) = V := ⟨_, rfl⟩
          have HV : Hid (V.heap[W3.heap.size]? = some (.cells #[.int .i64 r.v, .string r.fn, .slice ra r.args.length rc] 28 (0, 0)) ∧ Below W2.drew.heap.size W2.drew V ∧ ArgsP (fun b => b < w0.heap.size ∨ w.heap.size + 3 ≤ b) V (.slice ra r.args.length rc) r.args ∧ ((b3 = true ∧ T.rep p s u = some r) ∨ (b3 = false ∧ T.rep p s u = none))) := by
            rw [← hV]
            exact ⟨(MapKept.heap_alloc W3 _).1, hB3.trans ((below_box W3 _).mono hB3.size), H3.out.1.keep (below_box W3 _).size (fun b hb hlt => ⟨by have := HW2.out; rcases hb with hb | hb; exact .inl hb; exact .inr (by omega), (below_box W3 _).block b hlt⟩), H3.out.2.2⟩
          rw [hV]
          clear hV
          cases b3
          · have HF : Hid (T.rep ((k : Int) :: p) s t = none) := by
              show _ = _
              rw [HN.out]
              rcases HV.out.2.2.2 with ⟨h, _⟩ | ⟨_, h⟩
              · cases h
              · rw [h]; rfl
            obtain ⟨⟨z0, z1, z2⟩, y0, y1, y2⟩ := box_facts (HRb.out V HV.out.2.1)
            go_wp2
            refine bodyPost_ret (v := .tuple #[tval zt (.slice none 0 0), .bool false]) (by simp [results, Try.results23, go_sem, *, zt, T.v, T.fn]) rfl ⟨zt, none, 0, .inl ⟨rfl, ?_⟩⟩
            exact ⟨ArgsP.nil _ _, set3_below (HO.out _ HV.out.2.1) _ 0 _ _ _ (by omega), .inr ⟨rfl, HF.out⟩⟩
          · have HF : Hid (T.rep ((k : Int) :: p) s t = some (.mk 0 t.fn (t.args.set k r))) := by
              show _ = _
              rw [HN.out]
              rcases HV.out.2.2.2 with ⟨_, h⟩ | ⟨h, _⟩
              · rw [h]; rfl
              · cases h
            have hfn := HTb.out V HV.out.2.1
            go_wp2
            go_loopw [11] (fun i wr => ∃ j : Nat, j ≤ t.args.length ∧ i = .int .i64 j ∧ Hid (∃ vv ps, QI V (fun b => b < w0.heap.size ∨ w.heap.size + 3 ≤ b) t.fn (t.args.set k r) j vv ps wr)) (fun i _ => t.args.length - (intOf i).toNat)
            case atStart =>
              refine ⟨0, Nat.zero_le _, rfl, .slice none 0 0, [], ?_⟩
              exact QI.start V _ t.fn (t.args.set k r)
            case round =>
              obtain ⟨j, hj, rfl, vv, ps, HI⟩ := hrel
              have HQ : Hid (QI V (fun b => b < w0.heap.size ∨ w.heap.size + 3 ≤ b) t.fn (t.args.set k r) j vv ps wr) := HI
              have hB2 : Below W2.drew.heap.size W2.drew wr := HV.out.2.1.trans (HI.bel.mono HV.out.2.1.size)
              obtain ⟨⟨g0, g1⟩, _, _⟩ := HC.out wr hB2
              obtain ⟨⟨o0, o1, o2⟩, x0, x1, x2⟩ := box_facts HI.out
              have HV0 : Hid (vv.ownBlock ≠ some V.heap.size) := fun e => by have := (HI.row.lt _ e).1; omega
              clear HI
              obtain ⟨i0, hi0', hz0, hz1, hz2⟩ := info_parts Try.info28
              by_cases hlt : j < t.args.length
              · have hji : ((j : Int) < (t.args.length : Int)) := by omega
                have hj0 : (0 : Int) ≤ (j : Int) := by omega
                have HR : Hid (∀ o, (wr.alloc o).ownsRow (V.heap.size + 1) 28 3 vv j (flatT ps)) := fun o => row_below HQ.out.row (below_box wr o)
                have HX : Hid (∀ o, (wr.alloc o).heap[V.heap.size]? = some (.cells #[.int .i64 0, .string t.fn, vv] 28 (0, 0))) := fun o => ((below_box wr o).block _ (by have := HQ.out.siz; omega)).trans HQ.out.out
                have h16 := HSH.out
                by_cases hjk : j = k
                · subst hjk
                  have hxb := (HQ.out.bel.block W3.heap.size (Array.getElem?_eq_some_iff.1 HV.out.1).1).trans HV.out.1
                  obtain ⟨⟨q0, q1, q2⟩, _, _, _⟩ := box_facts hxb
                  clear hxb
                  go_wp2_with (first
                    | (at_builtin; refine wpList_append_own_at _ rfl _ _ 26 rfl (V.heap.size + 1) 28 i0 _ 3 48 Try.underlying26 hi0' hz0 hz1 hz2 rfl (by decide) _ _ _ rfl (HR.out (.cells #[.int .i64 r.v, .string r.fn, .slice ra r.args.length rc] 28)) ⟨wr.heap.size, 0, none⟩ 1 1 [.int .i64 r.v, .string r.fn, .slice ra r.args.length rc] rfl rfl (fun j x hj => by { rw [Addr.add_mid, Nat.zero_add, cell_of_row _ _ _ _ 28 (0, 0) (MapKept.heap_alloc wr _).1]; simpa using hj }) (by { intro x hx; simp only [List.mem_cons, List.not_mem_nil, or_false] at hx; rcases hx with rfl | rfl | rfl <;> rfl }) (by unfold maxLen; omega) (by omega) (by { have := HQ.out.siz; simp; omega }) ?_; intro v6 w6 hrow6 hg6 _ _; obtain ⟨a6, c6, rfl⟩ := row_slice hrow6; have hb66 := (hg6.block V.heap.size (Array.getElem?_eq_some_iff.1 (HX.out _)).1 (fun h => HV0.out h.symm)).trans (HX.out _); have hc6 : w6.cell? ⟨V.heap.size, 2, none⟩ = some vv := by { rw [cell_of_row _ _ _ #[Value.int .i64 0, .string t.fn, vv] 28 (0, 0) hb66]; rfl }; have hf6 : w6.frozen? ⟨V.heap.size, 2, none⟩ = false := by { simp [World.frozen?, hb66] }))
                  have HE2 : Hid (QI V (fun b => b < w0.heap.size ∨ w.heap.size + 3 ≤ b) t.fn (t.args.set j r) (j + 1) (.slice a6 (j + 1) c6) (ps ++ [(r, .slice ra r.args.length rc)]) (w6.setCell ⟨V.heap.size, 2, none⟩ (.slice a6 (j + 1) c6))) := HQ.out.push (by simpa using hlt) r (by simp) _ HV.out.2.2.1 _ w6 (below_box wr _) _ hrow6 hg6
                  go_roundw
                  case rel => exact ⟨j + 1, by omega, by go_num, _, _, HE2.out⟩
                  case measure => simp [intOf]; omega
                · have ejk : ((j : Int) == (k : Int)) = false := by rw [beq_eq_false_iff_ne]; omega
                  obtain ⟨b5, o5, s5, e5, hbl, c0, c1, c2, hs5⟩ := HP.out.2.1.nth hlt
                  cases e5
                  obtain ⟨a5, c5, rfl, _⟩ := hs5.slice
                  have hBw0 : Below w0.heap.size w0 wr := H0.out.trans ((HO.out wr hB2).mono H0.out.size)
                  replace c0 := kc hBw0 hbl c0
                  replace c1 := kc hBw0 hbl c1
                  replace c2 := kc hBw0 hbl c2
                  have hA5 : ArgsP (fun b => b < w0.heap.size ∨ w.heap.size + 3 ≤ b) V (.slice a5 t.args[j].args.length c5) t.args[j].args := by
                    have hb := H0.out.trans ((HO.out V HV.out.2.1).mono H0.out.size)
                    exact hs5.belowP.keep hb.size (fun b hb' _ => ⟨.inl hb', hb.block b hb'⟩)
                  have hset : (t.args.set k r)[j]'(by simpa using hlt) = t.args[j] := by rw [List.getElem_set_ne (by omega)]
                  have HS5 : Hid (ArgsP (fun b => b < w0.heap.size ∨ w.heap.size + 3 ≤ b) V (.slice a5 t.args[j].args.length c5) t.args[j].args ∧ (t.args.set k r)[j]'(by simpa using hlt) = t.args[j]) := ⟨hA5, hset⟩
                  obtain ⟨q, hq⟩ : ∃ q, t.args[j] = q := ⟨_, rfl⟩
                  rw [hq] at c0 c1 c2 HS5
                  have o2d : wr.drew.cell? ⟨V.heap.size, 2, none⟩ = some vv := o2
                  have o2a : ∀ o, (wr.alloc o).drew.cell? ⟨V.heap.size, 2, none⟩ = some vv := fun o => kc (below_box wr o) (World.block_lt_of_cell? wr _ o2) o2
                  have HRd : Hid (∀ o, (wr.alloc o).drew.ownsRow (V.heap.size + 1) 28 3 vv j (flatT ps)) := fun o => row_below (row_below HQ.out.row (below_box wr o)) (Below.refl _ _).drew
                  have HXd : Hid (∀ o, (wr.alloc o).drew.heap[V.heap.size]? = some (.cells #[.int .i64 0, .string t.fn, vv] 28 (0, 0))) := fun o => ((below_box wr o).block _ (by have := HQ.out.siz; omega)).trans HQ.out.out
                  have g0d : wr.drew.cell? ⟨w.heap.size, 2, none⟩ = _ := g0
                  have c0d : wr.drew.cell? _ = _ := c0
                  have c1d : wr.drew.cell? _ = _ := c1
                  have c2d : wr.drew.cell? _ = _ := c2
                  clear hq hs5 hA5 hset hBw0
                  go_wp2
                  clear o2 g1 o0 o1 x0 x1 hfn g0 c0 c1 c2
                  go_region_law (first
                    | (refine step_append_own _ rfl (.tmp 69) (.tmp 75) 26 rfl (V.heap.size + 1) 28 i0 _ 3 48 Try.underlying26 hi0' hz0 hz1 hz2 rfl (by decide) vv j (flatT ps) rfl (HRd.out _) ⟨wr.heap.size, 0, none⟩ 1 1 [.int .i64 q.v, .string q.fn, .slice a5 q.args.length c5] rfl rfl (fun j x hj => by { show (wr.alloc _).cell? _ = _; rw [Addr.add_mid, Nat.zero_add, cell_of_row _ _ _ _ 28 (0, 0) (MapKept.heap_alloc wr _).1]; simpa using hj }) (by { intro x hx; simp only [List.mem_cons, List.not_mem_nil, or_false] at hx; rcases hx with rfl | rfl | rfl <;> rfl }) (by unfold maxLen; omega) (by omega) (by { have := HQ.out.siz; simp; omega }) ?_; intro v6 w6 hrow6 hg6 _; obtain ⟨a6, c6, rfl⟩ := row_slice hrow6; have hb66 := (hg6.block V.heap.size (Array.getElem?_eq_some_iff.1 (HXd.out _)).1 (fun h => HV0.out h.symm)).trans (HXd.out _); have hc6 : w6.cell? ⟨V.heap.size, 2, none⟩ = some vv := by { rw [cell_of_row _ _ _ #[Value.int .i64 0, .string t.fn, vv] 28 (0, 0) hb66]; rfl }; have hf6 : w6.frozen? ⟨V.heap.size, 2, none⟩ = false := by { simp [World.frozen?, hb66] })
                    | go_simp)
                  all_goals (
                    have HE2 : Hid (QI V (fun b => b < w0.heap.size ∨ w.heap.size + 3 ≤ b) t.fn (t.args.set k r) (j + 1) (.slice a6 (j + 1) c6) (ps ++ [(q, .slice a5 q.args.length c5)]) (w6.setCell ⟨V.heap.size, 2, none⟩ (.slice a6 (j + 1) c6))) := HQ.out.push (by simpa using hlt) q HS5.out.2 _ HS5.out.1 _ w6 (below_box wr _).drew _ hrow6 hg6
                    go_wp2
                    go_roundw
                    case rel => exact ⟨j + 1, by omega, by go_num, _, _, HE2.out⟩
                    case measure => simp [intOf]; omega)
              · have hje : j = t.args.length := by omega
                subst hje
                obtain ⟨av, cv, rfl⟩ := row_slice HQ.out.row
                have hRw := HRb.out wr hB2
                obtain ⟨⟨d0, d1, d2⟩, u0, u1, u2⟩ := box_facts hRw
                have hVs : w.heap.size + 3 ≤ V.heap.size := Nat.le_trans HW2.out HV.out.2.1.size
                have HA : Hid (ArgsP (fun b => b < w0.heap.size ∨ w.heap.size + 3 ≤ b) (set3 wr (w.heap.size + 1 + 1) 0 (.int .i64 0) (.string t.fn) (.slice av t.args.length cv)) (.slice av t.args.length cv) (t.args.set k r)) := by
                  have hl : (t.args.set k r).length = t.args.length := by simp
                  have hq := HQ.out
                  rw [← hl] at hq
                  have := hq.last (w.heap.size + 1 + 1) (by omega) (fun b hb => .inr (by omega)) (fun b hb => by have := H0.out.size; rcases hb with hb | hb <;> omega)
                  rw [hl] at this
                  exact this
                have HBl : Hid (Below w.heap.size w wr) := HO.out wr hB2
                clear hRw
                go_wp2
                refine bodyPost_ret (v := .tuple #[tval (.mk 0 t.fn (t.args.set k r)) (.slice av t.args.length cv), .bool true]) (by simp [results, Try.results23, go_sem, *, T.v, T.fn]) rfl ⟨.mk 0 t.fn (t.args.set k r), av, cv, true, by simp [T.args, T.fn], ?_⟩
                refine ⟨?_, set3_below HBl.out _ 0 _ _ _ (by omega), .inl ⟨rfl, HF.out⟩⟩
                simp only [T.args, List.length_set]
                exact HA.out.keep (Nat.le_refl _) (fun b hb _ => ⟨by rcases hb with hb | hb; exact .inl hb; exact .inr (by omega), rfl⟩)
        · rename_i hHeld
          have HC : Hid _ := hC
          clear K0 hcall' K1 K3 hHeld hC hal hbw2 hplen
          obtain ⟨V, hV⟩ : ∃ V, ((W3.setCell ⟨W2.heap.size, 0, none⟩ (.int .i64 r.v)).setCell ⟨W2.heap.size, 1, none⟩ (.string r.fn)).setCell ⟨W2.heap.size, 2, none⟩ (.slice ra r.args.length rc) = V := ⟨_, rfl⟩
          have HV : Hid (V.heap[W2.heap.size]? = some (.cells #[.int .i64 r.v, .string r.fn, .slice ra r.args.length rc] 28 (0, 0)) ∧ Below W2.drew.heap.size W2.drew V ∧ ArgsP (fun b => b < w0.heap.size ∨ w.heap.size + 3 ≤ b) V (.slice ra r.args.length rc) r.args ∧ ((b3 = true ∧ T.rep p s u = some r) ∨ (b3 = false ∧ T.rep p s u = none))) := by
            rw [← hV]
            exact ⟨set3_same hxz, set3_below hB3 W2.heap.size 0 _ _ _ (Nat.le_refl _), H3.out.1.keep (by rw [set3_size]; exact Nat.le_refl _) (fun b hb hlt => by { have h9 := HW2.out; have h8 : b < w0.heap.size ∨ W2.heap.size + 1 ≤ b := (by rcases hb with hb | hb; exact .inl hb; exact .inr (by have : (W2.alloc (.cells #[.int .i64 0, .string ⟨#[]⟩, .slice none 0 0] 28)).heap.size ≤ b := hb; simpa using this)); have h7 := H0.out.size; have h6 : w.heap.size + 3 ≤ W2.heap.size := h9; exact ⟨by rcases h8 with h | h; exact .inl h; exact .inr (by omega), set3_other _ _ _ _ _ _ b (by rcases h8 with h | h <;> omega)⟩ }), H3.out.2.2⟩
          rw [hV]
          clear hV
          cases b3
          · have HF : Hid (T.rep ((k : Int) :: p) s t = none) := by
              show _ = _
              rw [HN.out]
              rcases HV.out.2.2.2 with ⟨h, _⟩ | ⟨_, h⟩
              · cases h
              · rw [h]; rfl
            obtain ⟨⟨z0, z1, z2⟩, y0, y1, y2⟩ := box_facts (HRb.out V HV.out.2.1)
            go_wp2
            refine bodyPost_ret (v := .tuple #[tval zt (.slice none 0 0), .bool false]) (by simp [results, Try.results23, go_sem, *, zt, T.v, T.fn]) rfl ⟨zt, none, 0, .inl ⟨rfl, ?_⟩⟩
            exact ⟨ArgsP.nil _ _, set3_below (HO.out _ HV.out.2.1) _ 0 _ _ _ (by omega), .inr ⟨rfl, HF.out⟩⟩
          · have HF : Hid (T.rep ((k : Int) :: p) s t = some (.mk 0 t.fn (t.args.set k r))) := by
              show _ = _
              rw [HN.out]
              rcases HV.out.2.2.2 with ⟨_, h⟩ | ⟨h, _⟩
              · rw [h]; rfl
              · cases h
            have hfn := HTb.out V HV.out.2.1
            go_wp2
            go_loopw [11] (fun i wr => ∃ j : Nat, j ≤ t.args.length ∧ i = .int .i64 j ∧ Hid (∃ vv ps, QI V (fun b => b < w0.heap.size ∨ w.heap.size + 3 ≤ b) t.fn (t.args.set k r) j vv ps wr)) (fun i _ => t.args.length - (intOf i).toNat)
            case atStart =>
              refine ⟨0, Nat.zero_le _, rfl, .slice none 0 0, [], ?_⟩
              exact QI.start V _ t.fn (t.args.set k r)
            case round =>
              obtain ⟨j, hj, rfl, vv, ps, HI⟩ := hrel
              have HQ : Hid (QI V (fun b => b < w0.heap.size ∨ w.heap.size + 3 ≤ b) t.fn (t.args.set k r) j vv ps wr) := HI
              have hB2 : Below W2.drew.heap.size W2.drew wr := HV.out.2.1.trans (HI.bel.mono HV.out.2.1.size)
              obtain ⟨⟨g0, g1⟩, _, _⟩ := HC.out wr hB2
              obtain ⟨⟨o0, o1, o2⟩, x0, x1, x2⟩ := box_facts HI.out
              have HV0 : Hid (vv.ownBlock ≠ some V.heap.size) := fun e => by have := (HI.row.lt _ e).1; omega
              clear HI
              obtain ⟨i0, hi0', hz0, hz1, hz2⟩ := info_parts Try.info28
              by_cases hlt : j < t.args.length
              · have hji : ((j : Int) < (t.args.length : Int)) := by omega
                have hj0 : (0 : Int) ≤ (j : Int) := by omega
                have HR : Hid (∀ o, (wr.alloc o).ownsRow (V.heap.size + 1) 28 3 vv j (flatT ps)) := fun o => row_below HQ.out.row (below_box wr o)
                have HX : Hid (∀ o, (wr.alloc o).heap[V.heap.size]? = some (.cells #[.int .i64 0, .string t.fn, vv] 28 (0, 0))) := fun o => ((below_box wr o).block _ (by have := HQ.out.siz; omega)).trans HQ.out.out
                have h16 := HSH.out
                by_cases hjk : j = k
                · subst hjk
                  have hxb := (HQ.out.bel.block W2.heap.size (Array.getElem?_eq_some_iff.1 HV.out.1).1).trans HV.out.1
                  obtain ⟨⟨q0, q1, q2⟩, _, _, _⟩ := box_facts hxb
                  clear hxb
                  go_wp2_with (first
                    | (at_builtin; refine wpList_append_own_at _ rfl _ _ 26 rfl (V.heap.size + 1) 28 i0 _ 3 48 Try.underlying26 hi0' hz0 hz1 hz2 rfl (by decide) _ _ _ rfl (HR.out (.cells #[.int .i64 r.v, .string r.fn, .slice ra r.args.length rc] 28)) ⟨wr.heap.size, 0, none⟩ 1 1 [.int .i64 r.v, .string r.fn, .slice ra r.args.length rc] rfl rfl (fun j x hj => by { rw [Addr.add_mid, Nat.zero_add, cell_of_row _ _ _ _ 28 (0, 0) (MapKept.heap_alloc wr _).1]; simpa using hj }) (by { intro x hx; simp only [List.mem_cons, List.not_mem_nil, or_false] at hx; rcases hx with rfl | rfl | rfl <;> rfl }) (by unfold maxLen; omega) (by omega) (by { have := HQ.out.siz; simp; omega }) ?_; intro v6 w6 hrow6 hg6 _ _; obtain ⟨a6, c6, rfl⟩ := row_slice hrow6; have hb66 := (hg6.block V.heap.size (Array.getElem?_eq_some_iff.1 (HX.out _)).1 (fun h => HV0.out h.symm)).trans (HX.out _); have hc6 : w6.cell? ⟨V.heap.size, 2, none⟩ = some vv := by { rw [cell_of_row _ _ _ #[Value.int .i64 0, .string t.fn, vv] 28 (0, 0) hb66]; rfl }; have hf6 : w6.frozen? ⟨V.heap.size, 2, none⟩ = false := by { simp [World.frozen?, hb66] }))
                  have HE2 : Hid (QI V (fun b => b < w0.heap.size ∨ w.heap.size + 3 ≤ b) t.fn (t.args.set j r) (j + 1) (.slice a6 (j + 1) c6) (ps ++ [(r, .slice ra r.args.length rc)]) (w6.setCell ⟨V.heap.size, 2, none⟩ (.slice a6 (j + 1) c6))) := HQ.out.push (by simpa using hlt) r (by simp) _ HV.out.2.2.1 _ w6 (below_box wr _) _ hrow6 hg6
                  go_roundw
                  case rel => exact ⟨j + 1, by omega, by go_num, _, _, HE2.out⟩
                  case measure => simp [intOf]; omega
                · have ejk : ((j : Int) == (k : Int)) = false := by rw [beq_eq_false_iff_ne]; omega
                  obtain ⟨b5, o5, s5, e5, hbl, c0, c1, c2, hs5⟩ := HP.out.2.1.nth hlt
                  cases e5
                  obtain ⟨a5, c5, rfl, _⟩ := hs5.slice
                  have hBw0 : Below w0.heap.size w0 wr := H0.out.trans ((HO.out wr hB2).mono H0.out.size)
                  replace c0 := kc hBw0 hbl c0
                  replace c1 := kc hBw0 hbl c1
                  replace c2 := kc hBw0 hbl c2
                  have hA5 : ArgsP (fun b => b < w0.heap.size ∨ w.heap.size + 3 ≤ b) V (.slice a5 t.args[j].args.length c5) t.args[j].args := by
                    have hb := H0.out.trans ((HO.out V HV.out.2.1).mono H0.out.size)
                    exact hs5.belowP.keep hb.size (fun b hb' _ => ⟨.inl hb', hb.block b hb'⟩)
                  have hset : (t.args.set k r)[j]'(by simpa using hlt) = t.args[j] := by rw [List.getElem_set_ne (by omega)]
                  have HS5 : Hid (ArgsP (fun b => b < w0.heap.size ∨ w.heap.size + 3 ≤ b) V (.slice a5 t.args[j].args.length c5) t.args[j].args ∧ (t.args.set k r)[j]'(by simpa using hlt) = t.args[j]) := ⟨hA5, hset⟩
                  obtain ⟨q, hq⟩ : ∃ q, t.args[j] = q := ⟨_, rfl⟩
                  rw [hq] at c0 c1 c2 HS5
                  have o2d : wr.drew.cell? ⟨V.heap.size, 2, none⟩ = some vv := o2
                  have o2a : ∀ o, (wr.alloc o).drew.cell? ⟨V.heap.size, 2, none⟩ = some vv := fun o => kc (below_box wr o) (World.block_lt_of_cell? wr _ o2) o2
                  have HRd : Hid (∀ o, (wr.alloc o).drew.ownsRow (V.heap.size + 1) 28 3 vv j (flatT ps)) := fun o => row_below (row_below HQ.out.row (below_box wr o)) (Below.refl _ _).drew
                  have HXd : Hid (∀ o, (wr.alloc o).drew.heap[V.heap.size]? = some (.cells #[.int .i64 0, .string t.fn, vv] 28 (0, 0))) := fun o => ((below_box wr o).block _ (by have := HQ.out.siz; omega)).trans HQ.out.out
                  have g0d : wr.drew.cell? ⟨w.heap.size, 2, none⟩ = _ := g0
                  have c0d : wr.drew.cell? _ = _ := c0
                  have c1d : wr.drew.cell? _ = _ := c1
                  have c2d : wr.drew.cell? _ = _ := c2
                  clear hq hs5 hA5 hset hBw0
                  go_wp2
                  clear o2 g1 o0 o1 x0 x1 hfn g0 c0 c1 c2
                  go_region_law (first
                    | (refine step_append_own _ rfl (.tmp 69) (.tmp 75) 26 rfl (V.heap.size + 1) 28 i0 _ 3 48 Try.underlying26 hi0' hz0 hz1 hz2 rfl (by decide) vv j (flatT ps) rfl (HRd.out _) ⟨wr.heap.size, 0, none⟩ 1 1 [.int .i64 q.v, .string q.fn, .slice a5 q.args.length c5] rfl rfl (fun j x hj => by { show (wr.alloc _).cell? _ = _; rw [Addr.add_mid, Nat.zero_add, cell_of_row _ _ _ _ 28 (0, 0) (MapKept.heap_alloc wr _).1]; simpa using hj }) (by { intro x hx; simp only [List.mem_cons, List.not_mem_nil, or_false] at hx; rcases hx with rfl | rfl | rfl <;> rfl }) (by unfold maxLen; omega) (by omega) (by { have := HQ.out.siz; simp; omega }) ?_; intro v6 w6 hrow6 hg6 _; obtain ⟨a6, c6, rfl⟩ := row_slice hrow6; have hb66 := (hg6.block V.heap.size (Array.getElem?_eq_some_iff.1 (HXd.out _)).1 (fun h => HV0.out h.symm)).trans (HXd.out _); have hc6 : w6.cell? ⟨V.heap.size, 2, none⟩ = some vv := by { rw [cell_of_row _ _ _ #[Value.int .i64 0, .string t.fn, vv] 28 (0, 0) hb66]; rfl }; have hf6 : w6.frozen? ⟨V.heap.size, 2, none⟩ = false := by { simp [World.frozen?, hb66] })
                    | go_simp)
                  all_goals (
                    have HE2 : Hid (QI V (fun b => b < w0.heap.size ∨ w.heap.size + 3 ≤ b) t.fn (t.args.set k r) (j + 1) (.slice a6 (j + 1) c6) (ps ++ [(q, .slice a5 q.args.length c5)]) (w6.setCell ⟨V.heap.size, 2, none⟩ (.slice a6 (j + 1) c6))) := HQ.out.push (by simpa using hlt) q HS5.out.2 _ HS5.out.1 _ w6 (below_box wr _).drew _ hrow6 hg6
                    go_wp2
                    go_roundw
                    case rel => exact ⟨j + 1, by omega, by go_num, _, _, HE2.out⟩
                    case measure => simp [intOf]; omega)
              · have hje : j = t.args.length := by omega
                subst hje
                obtain ⟨av, cv, rfl⟩ := row_slice HQ.out.row
                have hRw := HRb.out wr hB2
                obtain ⟨⟨d0, d1, d2⟩, u0, u1, u2⟩ := box_facts hRw
                have hVs : w.heap.size + 3 ≤ V.heap.size := Nat.le_trans HW2.out HV.out.2.1.size
                have HA : Hid (ArgsP (fun b => b < w0.heap.size ∨ w.heap.size + 3 ≤ b) (set3 wr (w.heap.size + 1 + 1) 0 (.int .i64 0) (.string t.fn) (.slice av t.args.length cv)) (.slice av t.args.length cv) (t.args.set k r)) := by
                  have hl : (t.args.set k r).length = t.args.length := by simp
                  have hq := HQ.out
                  rw [← hl] at hq
                  have := hq.last (w.heap.size + 1 + 1) (by omega) (fun b hb => .inr (by omega)) (fun b hb => by have := H0.out.size; rcases hb with hb | hb <;> omega)
                  rw [hl] at this
                  exact this
                have HBl : Hid (Below w.heap.size w wr) := HO.out wr hB2
                clear hRw
                go_wp2
                refine bodyPost_ret (v := .tuple #[tval (.mk 0 t.fn (t.args.set k r)) (.slice av t.args.length cv), .bool true]) (by simp [results, Try.results23, go_sem, *, T.v, T.fn]) rfl ⟨.mk 0 t.fn (t.args.set k r), av, cv, true, by simp [T.args, T.fn], ?_⟩
                refine ⟨?_, set3_below HBl.out _ 0 _ _ _ (by omega), .inl ⟨rfl, HF.out⟩⟩
                simp only [T.args, List.length_set]
                exact HA.out.keep (Nat.le_refl _) (fun b hb _ => ⟨by rcases hb with hb | hb; exact .inl hb; exact .inr (by omega), rfl⟩)
      · have oP := HP.out.1.tail
        simp only [Option.map_some, addr_add] at oP
        rw [hplen] at oP
        have hcall' := hcall _ oP
        clear hcall oP
        go_wp2
        go_region_held3 (fun X => (X.cell? ⟨w.heap.size, 2, none⟩ = some (.slice (some ⟨ba, oa, none⟩) t.args.length c) ∧ X.cell? ⟨pb, po, none⟩ = some (.int .i64 (k : Int))) ∧ (X.cell? ⟨ba, oa + k * 3, none⟩ = some (.int .i64 u.v) ∧ X.cell? ⟨ba, oa + k * 3 + 1, none⟩ = some (.string u.fn) ∧ X.cell? ⟨ba, oa + k * 3 + 2, none⟩ = some (.slice sa u.args.length sca)) ∧ (X.cell? ⟨w.heap.size + 1, 0, none⟩ = some (.int .i64 s.v) ∧ X.cell? ⟨w.heap.size + 1, 1, none⟩ = some (.string s.fn) ∧ X.cell? ⟨w.heap.size + 1, 2, none⟩ = some (.slice sa0 s.args.length sc0))) (first | exact K0 | exact K1 | exact K3 | exact hC _ (hB3.trans ((below_box _ _).mono hB3.size)) | exact hC _ (set3_below hB3 W2.heap.size 0 _ _ _ (Nat.le_refl _)) | exact hC _ (hB3.trans ((set3_below (below_box W3 _) W3.heap.size 0 _ _ _ (Nat.le_refl _)).mono hB3.size))) (first
          | (go_at_call 23; refine (hcall' _ (Below.refl _ _)).mono ?_; rintro e W3 ⟨r, ra, rc, b3, rfl, H3⟩; have hB3 := H3.out.2.1; have K3 := hC _ hB3)
          | (go_at_call 23; refine (hcall' _ hal).mono ?_; rintro e W3 ⟨r, ra, rc, b3, rfl, H3⟩; have hB3 : Below W2.drew.heap.size W2.drew W3 := hal.trans (H3.out.2.1.mono hal.size); have K3 := hC _ hB3; have hxz : W3.heap[W2.heap.size]? = some (.cells #[.int .i64 0, .string ⟨#[]⟩, .slice none 0 0] 28 (0, 0)) := (H3.out.2.1.block W2.heap.size (by show W2.heap.size < (W2.alloc _).heap.size; simp)).trans (MapKept.heap_alloc W2 _).1; obtain ⟨⟨z0, z1, z2⟩, y0, y1, y2⟩ := box_facts hxz))
        · rename_i hHeld
          have HC : Hid _ := hC
          clear K0 hcall' K1 K3 hHeld hC hal hbw2 hplen
          obtain ⟨V, hV⟩ : ∃ V, W3.alloc (.cells #[.int .i64 r.v, .string r.fn, .slice ra r.args.length rc] 28) = V := ⟨_, rfl⟩
          have HV : Hid (V.heap[W3.heap.size]? = some (.cells #[.int .i64 r.v, .string r.fn, .slice ra r.args.length rc] 28 (0, 0)) ∧ Below W2.drew.heap.size W2.drew V ∧ ArgsP (fun b => b < w0.heap.size ∨ w.heap.size + 3 ≤ b) V (.slice ra r.args.length rc) r.args ∧ ((b3 = true ∧ T.rep p s u = some r) ∨ (b3 = false ∧ T.rep p s u = none))) := by
            rw [← hV]
            exact ⟨(MapKept.heap_alloc W3 _).1, hB3.trans ((below_box W3 _).mono hB3.size), H3.out.1.keep (below_box W3 _).size (fun b hb hlt => ⟨by have := HW2.out; rcases hb with hb | hb; exact .inl hb; exact .inr (by omega), (below_box W3 _).block b hlt⟩), H3.out.2.2⟩
          rw [hV]
          clear hV
          cases b3
          · have HF : Hid (T.rep ((k : Int) :: p) s t = none) := by
              show _ = _
              rw [HN.out]
              rcases HV.out.2.2.2 with ⟨h, _⟩ | ⟨_, h⟩
              · cases h
              · rw [h]; rfl
            obtain ⟨⟨z0, z1, z2⟩, y0, y1, y2⟩ := box_facts (HRb.out V HV.out.2.1)
            go_wp2
            refine bodyPost_ret (v := .tuple #[tval zt (.slice none 0 0), .bool false]) (by simp [results, Try.results23, go_sem, *, zt, T.v, T.fn]) rfl ⟨zt, none, 0, .inl ⟨rfl, ?_⟩⟩
            exact ⟨ArgsP.nil _ _, set3_below (HO.out _ HV.out.2.1) _ 0 _ _ _ (by omega), .inr ⟨rfl, HF.out⟩⟩
          · have HF : Hid (T.rep ((k : Int) :: p) s t = some (.mk 0 t.fn (t.args.set k r))) := by
              show _ = _
              rw [HN.out]
              rcases HV.out.2.2.2 with ⟨_, h⟩ | ⟨h, _⟩
              · rw [h]; rfl
              · cases h
            have hfn := HTb.out V HV.out.2.1
            go_wp2
            go_loopw [11] (fun i wr => ∃ j : Nat, j ≤ t.args.length ∧ i = .int .i64 j ∧ Hid (∃ vv ps, QI V (fun b => b < w0.heap.size ∨ w.heap.size + 3 ≤ b) t.fn (t.args.set k r) j vv ps wr)) (fun i _ => t.args.length - (intOf i).toNat)
            case atStart =>
              refine ⟨0, Nat.zero_le _, rfl, .slice none 0 0, [], ?_⟩
              exact QI.start V _ t.fn (t.args.set k r)
            case round =>
              obtain ⟨j, hj, rfl, vv, ps, HI⟩ := hrel
              have HQ : Hid (QI V (fun b => b < w0.heap.size ∨ w.heap.size + 3 ≤ b) t.fn (t.args.set k r) j vv ps wr) := HI
              have hB2 : Below W2.drew.heap.size W2.drew wr := HV.out.2.1.trans (HI.bel.mono HV.out.2.1.size)
              obtain ⟨⟨g0, g1⟩, _, _⟩ := HC.out wr hB2
              obtain ⟨⟨o0, o1, o2⟩, x0, x1, x2⟩ := box_facts HI.out
              have HV0 : Hid (vv.ownBlock ≠ some V.heap.size) := fun e => by have := (HI.row.lt _ e).1; omega
              clear HI
              obtain ⟨i0, hi0', hz0, hz1, hz2⟩ := info_parts Try.info28
              by_cases hlt : j < t.args.length
              · have hji : ((j : Int) < (t.args.length : Int)) := by omega
                have hj0 : (0 : Int) ≤ (j : Int) := by omega
                have HR : Hid (∀ o, (wr.alloc o).ownsRow (V.heap.size + 1) 28 3 vv j (flatT ps)) := fun o => row_below HQ.out.row (below_box wr o)
                have HX : Hid (∀ o, (wr.alloc o).heap[V.heap.size]? = some (.cells #[.int .i64 0, .string t.fn, vv] 28 (0, 0))) := fun o => ((below_box wr o).block _ (by have := HQ.out.siz; omega)).trans HQ.out.out
                have h16 := HSH.out
                by_cases hjk : j = k
                · subst hjk
                  have hxb := (HQ.out.bel.block W3.heap.size (Array.getElem?_eq_some_iff.1 HV.out.1).1).trans HV.out.1
                  obtain ⟨⟨q0, q1, q2⟩, _, _, _⟩ := box_facts hxb
                  clear hxb
                  go_wp2_with (first
                    | (at_builtin; refine wpList_append_own_at _ rfl _ _ 26 rfl (V.heap.size + 1) 28 i0 _ 3 48 Try.underlying26 hi0' hz0 hz1 hz2 rfl (by decide) _ _ _ rfl (HR.out (.cells #[.int .i64 r.v, .string r.fn, .slice ra r.args.length rc] 28)) ⟨wr.heap.size, 0, none⟩ 1 1 [.int .i64 r.v, .string r.fn, .slice ra r.args.length rc] rfl rfl (fun j x hj => by { rw [Addr.add_mid, Nat.zero_add, cell_of_row _ _ _ _ 28 (0, 0) (MapKept.heap_alloc wr _).1]; simpa using hj }) (by { intro x hx; simp only [List.mem_cons, List.not_mem_nil, or_false] at hx; rcases hx with rfl | rfl | rfl <;> rfl }) (by unfold maxLen; omega) (by omega) (by { have := HQ.out.siz; simp; omega }) ?_; intro v6 w6 hrow6 hg6 _ _; obtain ⟨a6, c6, rfl⟩ := row_slice hrow6; have hb66 := (hg6.block V.heap.size (Array.getElem?_eq_some_iff.1 (HX.out _)).1 (fun h => HV0.out h.symm)).trans (HX.out _); have hc6 : w6.cell? ⟨V.heap.size, 2, none⟩ = some vv := by { rw [cell_of_row _ _ _ #[Value.int .i64 0, .string t.fn, vv] 28 (0, 0) hb66]; rfl }; have hf6 : w6.frozen? ⟨V.heap.size, 2, none⟩ = false := by { simp [World.frozen?, hb66] }))
                  have HE2 : Hid (QI V (fun b => b < w0.heap.size ∨ w.heap.size + 3 ≤ b) t.fn (t.args.set j r) (j + 1) (.slice a6 (j + 1) c6) (ps ++ [(r, .slice ra r.args.length rc)]) (w6.setCell ⟨V.heap.size, 2, none⟩ (.slice a6 (j + 1) c6))) := HQ.out.push (by simpa using hlt) r (by simp) _ HV.out.2.2.1 _ w6 (below_box wr _) _ hrow6 hg6
                  go_roundw
                  case rel => exact ⟨j + 1, by omega, by go_num, _, _, HE2.out⟩
                  case measure => simp [intOf]; omega
                · have ejk : ((j : Int) == (k : Int)) = false := by rw [beq_eq_false_iff_ne]; omega
                  obtain ⟨b5, o5, s5, e5, hbl, c0, c1, c2, hs5⟩ := HP.out.2.1.nth hlt
                  cases e5
                  obtain ⟨a5, c5, rfl, _⟩ := hs5.slice
                  have hBw0 : Below w0.heap.size w0 wr := H0.out.trans ((HO.out wr hB2).mono H0.out.size)
                  replace c0 := kc hBw0 hbl c0
                  replace c1 := kc hBw0 hbl c1
                  replace c2 := kc hBw0 hbl c2
                  have hA5 : ArgsP (fun b => b < w0.heap.size ∨ w.heap.size + 3 ≤ b) V (.slice a5 t.args[j].args.length c5) t.args[j].args := by
                    have hb := H0.out.trans ((HO.out V HV.out.2.1).mono H0.out.size)
                    exact hs5.belowP.keep hb.size (fun b hb' _ => ⟨.inl hb', hb.block b hb'⟩)
                  have hset : (t.args.set k r)[j]'(by simpa using hlt) = t.args[j] := by rw [List.getElem_set_ne (by omega)]
                  have HS5 : Hid (ArgsP (fun b => b < w0.heap.size ∨ w.heap.size + 3 ≤ b) V (.slice a5 t.args[j].args.length c5) t.args[j].args ∧ (t.args.set k r)[j]'(by simpa using hlt) = t.args[j]) := ⟨hA5, hset⟩
                  obtain ⟨q, hq⟩ : ∃ q, t.args[j] = q := ⟨_, rfl⟩
                  rw [hq] at c0 c1 c2 HS5
                  have o2d : wr.drew.cell? ⟨V.heap.size, 2, none⟩ = some vv := o2
                  have o2a : ∀ o, (wr.alloc o).drew.cell? ⟨V.heap.size, 2, none⟩ = some vv := fun o => kc (below_box wr o) (World.block_lt_of_cell? wr _ o2) o2
                  have HRd : Hid (∀ o, (wr.alloc o).drew.ownsRow (V.heap.size + 1) 28 3 vv j (flatT ps)) := fun o => row_below (row_below HQ.out.row (below_box wr o)) (Below.refl _ _).drew
                  have HXd : Hid (∀ o, (wr.alloc o).drew.heap[V.heap.size]? = some (.cells #[.int .i64 0, .string t.fn, vv] 28 (0, 0))) := fun o => ((below_box wr o).block _ (by have := HQ.out.siz; omega)).trans HQ.out.out
                  have g0d : wr.drew.cell? ⟨w.heap.size, 2, none⟩ = _ := g0
                  have c0d : wr.drew.cell? _ = _ := c0
                  have c1d : wr.drew.cell? _ = _ := c1
                  have c2d : wr.drew.cell? _ = _ := c2
                  clear hq hs5 hA5 hset hBw0
                  go_wp2
                  clear o2 g1 o0 o1 x0 x1 hfn g0 c0 c1 c2
                  go_region_law (first
                    | (refine step_append_own _ rfl (.tmp 69) (.tmp 75) 26 rfl (V.heap.size + 1) 28 i0 _ 3 48 Try.underlying26 hi0' hz0 hz1 hz2 rfl (by decide) vv j (flatT ps) rfl (HRd.out _) ⟨wr.heap.size, 0, none⟩ 1 1 [.int .i64 q.v, .string q.fn, .slice a5 q.args.length c5] rfl rfl (fun j x hj => by { show (wr.alloc _).cell? _ = _; rw [Addr.add_mid, Nat.zero_add, cell_of_row _ _ _ _ 28 (0, 0) (MapKept.heap_alloc wr _).1]; simpa using hj }) (by { intro x hx; simp only [List.mem_cons, List.not_mem_nil, or_false] at hx; rcases hx with rfl | rfl | rfl <;> rfl }) (by unfold maxLen; omega) (by omega) (by { have := HQ.out.siz; simp; omega }) ?_; intro v6 w6 hrow6 hg6 _; obtain ⟨a6, c6, rfl⟩ := row_slice hrow6; have hb66 := (hg6.block V.heap.size (Array.getElem?_eq_some_iff.1 (HXd.out _)).1 (fun h => HV0.out h.symm)).trans (HXd.out _); have hc6 : w6.cell? ⟨V.heap.size, 2, none⟩ = some vv := by { rw [cell_of_row _ _ _ #[Value.int .i64 0, .string t.fn, vv] 28 (0, 0) hb66]; rfl }; have hf6 : w6.frozen? ⟨V.heap.size, 2, none⟩ = false := by { simp [World.frozen?, hb66] })
                    | go_simp)
                  all_goals (
                    have HE2 : Hid (QI V (fun b => b < w0.heap.size ∨ w.heap.size + 3 ≤ b) t.fn (t.args.set k r) (j + 1) (.slice a6 (j + 1) c6) (ps ++ [(q, .slice a5 q.args.length c5)]) (w6.setCell ⟨V.heap.size, 2, none⟩ (.slice a6 (j + 1) c6))) := HQ.out.push (by simpa using hlt) q HS5.out.2 _ HS5.out.1 _ w6 (below_box wr _).drew _ hrow6 hg6
                    go_wp2
                    go_roundw
                    case rel => exact ⟨j + 1, by omega, by go_num, _, _, HE2.out⟩
                    case measure => simp [intOf]; omega)
              · have hje : j = t.args.length := by omega
                subst hje
                obtain ⟨av, cv, rfl⟩ := row_slice HQ.out.row
                have hRw := HRb.out wr hB2
                obtain ⟨⟨d0, d1, d2⟩, u0, u1, u2⟩ := box_facts hRw
                have hVs : w.heap.size + 3 ≤ V.heap.size := Nat.le_trans HW2.out HV.out.2.1.size
                have HA : Hid (ArgsP (fun b => b < w0.heap.size ∨ w.heap.size + 3 ≤ b) (set3 wr (w.heap.size + 1 + 1) 0 (.int .i64 0) (.string t.fn) (.slice av t.args.length cv)) (.slice av t.args.length cv) (t.args.set k r)) := by
                  have hl : (t.args.set k r).length = t.args.length := by simp
                  have hq := HQ.out
                  rw [← hl] at hq
                  have := hq.last (w.heap.size + 1 + 1) (by omega) (fun b hb => .inr (by omega)) (fun b hb => by have := H0.out.size; rcases hb with hb | hb <;> omega)
                  rw [hl] at this
                  exact this
                have HBl : Hid (Below w.heap.size w wr) := HO.out wr hB2
                clear hRw
                go_wp2
                refine bodyPost_ret (v := .tuple #[tval (.mk 0 t.fn (t.args.set k r)) (.slice av t.args.length cv), .bool true]) (by simp [results, Try.results23, go_sem, *, T.v, T.fn]) rfl ⟨.mk 0 t.fn (t.args.set k r), av, cv, true, by simp [T.args, T.fn], ?_⟩
                refine ⟨?_, set3_below HBl.out _ 0 _ _ _ (by omega), .inl ⟨rfl, HF.out⟩⟩
                simp only [T.args, List.length_set]
                exact HA.out.keep (Nat.le_refl _) (fun b hb _ => ⟨by rcases hb with hb | hb; exact .inl hb; exact .inr (by omega), rfl⟩)
        · rename_i hHeld
          have HC : Hid _ := hC
          clear K0 hcall' K1 K3 hHeld hC hal hbw2 hplen
          obtain ⟨V, hV⟩ : ∃ V, ((W3.setCell ⟨W2.heap.size, 0, none⟩ (.int .i64 r.v)).setCell ⟨W2.heap.size, 1, none⟩ (.string r.fn)).setCell ⟨W2.heap.size, 2, none⟩ (.slice ra r.args.length rc) = V := ⟨_, rfl⟩
          have HV : Hid (V.heap[W2.heap.size]? = some (.cells #[.int .i64 r.v, .string r.fn, .slice ra r.args.length rc] 28 (0, 0)) ∧ Below W2.drew.heap.size W2.drew V ∧ ArgsP (fun b => b < w0.heap.size ∨ w.heap.size + 3 ≤ b) V (.slice ra r.args.length rc) r.args ∧ ((b3 = true ∧ T.rep p s u = some r) ∨ (b3 = false ∧ T.rep p s u = none))) := by
            rw [← hV]
            exact ⟨set3_same hxz, set3_below hB3 W2.heap.size 0 _ _ _ (Nat.le_refl _), H3.out.1.keep (by rw [set3_size]; exact Nat.le_refl _) (fun b hb hlt => by { have h9 := HW2.out; have h8 : b < w0.heap.size ∨ W2.heap.size + 1 ≤ b := (by rcases hb with hb | hb; exact .inl hb; exact .inr (by have : (W2.alloc (.cells #[.int .i64 0, .string ⟨#[]⟩, .slice none 0 0] 28)).heap.size ≤ b := hb; simpa using this)); have h7 := H0.out.size; have h6 : w.heap.size + 3 ≤ W2.heap.size := h9; exact ⟨by rcases h8 with h | h; exact .inl h; exact .inr (by omega), set3_other _ _ _ _ _ _ b (by rcases h8 with h | h <;> omega)⟩ }), H3.out.2.2⟩
          rw [hV]
          clear hV
          cases b3
          · have HF : Hid (T.rep ((k : Int) :: p) s t = none) := by
              show _ = _
              rw [HN.out]
              rcases HV.out.2.2.2 with ⟨h, _⟩ | ⟨_, h⟩
              · cases h
              · rw [h]; rfl
            obtain ⟨⟨z0, z1, z2⟩, y0, y1, y2⟩ := box_facts (HRb.out V HV.out.2.1)
            go_wp2
            refine bodyPost_ret (v := .tuple #[tval zt (.slice none 0 0), .bool false]) (by simp [results, Try.results23, go_sem, *, zt, T.v, T.fn]) rfl ⟨zt, none, 0, .inl ⟨rfl, ?_⟩⟩
            exact ⟨ArgsP.nil _ _, set3_below (HO.out _ HV.out.2.1) _ 0 _ _ _ (by omega), .inr ⟨rfl, HF.out⟩⟩
          · have HF : Hid (T.rep ((k : Int) :: p) s t = some (.mk 0 t.fn (t.args.set k r))) := by
              show _ = _
              rw [HN.out]
              rcases HV.out.2.2.2 with ⟨_, h⟩ | ⟨h, _⟩
              · rw [h]; rfl
              · cases h
            have hfn := HTb.out V HV.out.2.1
            go_wp2
            go_loopw [11] (fun i wr => ∃ j : Nat, j ≤ t.args.length ∧ i = .int .i64 j ∧ Hid (∃ vv ps, QI V (fun b => b < w0.heap.size ∨ w.heap.size + 3 ≤ b) t.fn (t.args.set k r) j vv ps wr)) (fun i _ => t.args.length - (intOf i).toNat)
            case atStart =>
              refine ⟨0, Nat.zero_le _, rfl, .slice none 0 0, [], ?_⟩
              exact QI.start V _ t.fn (t.args.set k r)
            case round =>
              obtain ⟨j, hj, rfl, vv, ps, HI⟩ := hrel
              have HQ : Hid (QI V (fun b => b < w0.heap.size ∨ w.heap.size + 3 ≤ b) t.fn (t.args.set k r) j vv ps wr) := HI
              have hB2 : Below W2.drew.heap.size W2.drew wr := HV.out.2.1.trans (HI.bel.mono HV.out.2.1.size)
              obtain ⟨⟨g0, g1⟩, _, _⟩ := HC.out wr hB2
              obtain ⟨⟨o0, o1, o2⟩, x0, x1, x2⟩ := box_facts HI.out
              have HV0 : Hid (vv.ownBlock ≠ some V.heap.size) := fun e => by have := (HI.row.lt _ e).1; omega
              clear HI
              obtain ⟨i0, hi0', hz0, hz1, hz2⟩ := info_parts Try.info28
              by_cases hlt : j < t.args.length
              · have hji : ((j : Int) < (t.args.length : Int)) := by omega
                have hj0 : (0 : Int) ≤ (j : Int) := by omega
                have HR : Hid (∀ o, (wr.alloc o).ownsRow (V.heap.size + 1) 28 3 vv j (flatT ps)) := fun o => row_below HQ.out.row (below_box wr o)
                have HX : Hid (∀ o, (wr.alloc o).heap[V.heap.size]? = some (.cells #[.int .i64 0, .string t.fn, vv] 28 (0, 0))) := fun o => ((below_box wr o).block _ (by have := HQ.out.siz; omega)).trans HQ.out.out
                have h16 := HSH.out
                by_cases hjk : j = k
                · subst hjk
                  have hxb := (HQ.out.bel.block W2.heap.size (Array.getElem?_eq_some_iff.1 HV.out.1).1).trans HV.out.1
                  obtain ⟨⟨q0, q1, q2⟩, _, _, _⟩ := box_facts hxb
                  clear hxb
                  go_wp2_with (first
                    | (at_builtin; refine wpList_append_own_at _ rfl _ _ 26 rfl (V.heap.size + 1) 28 i0 _ 3 48 Try.underlying26 hi0' hz0 hz1 hz2 rfl (by decide) _ _ _ rfl (HR.out (.cells #[.int .i64 r.v, .string r.fn, .slice ra r.args.length rc] 28)) ⟨wr.heap.size, 0, none⟩ 1 1 [.int .i64 r.v, .string r.fn, .slice ra r.args.length rc] rfl rfl (fun j x hj => by { rw [Addr.add_mid, Nat.zero_add, cell_of_row _ _ _ _ 28 (0, 0) (MapKept.heap_alloc wr _).1]; simpa using hj }) (by { intro x hx; simp only [List.mem_cons, List.not_mem_nil, or_false] at hx; rcases hx with rfl | rfl | rfl <;> rfl }) (by unfold maxLen; omega) (by omega) (by { have := HQ.out.siz; simp; omega }) ?_; intro v6 w6 hrow6 hg6 _ _; obtain ⟨a6, c6, rfl⟩ := row_slice hrow6; have hb66 := (hg6.block V.heap.size (Array.getElem?_eq_some_iff.1 (HX.out _)).1 (fun h => HV0.out h.symm)).trans (HX.out _); have hc6 : w6.cell? ⟨V.heap.size, 2, none⟩ = some vv := by { rw [cell_of_row _ _ _ #[Value.int .i64 0, .string t.fn, vv] 28 (0, 0) hb66]; rfl }; have hf6 : w6.frozen? ⟨V.heap.size, 2, none⟩ = false := by { simp [World.frozen?, hb66] }))
                  have HE2 : Hid (QI V (fun b => b < w0.heap.size ∨ w.heap.size + 3 ≤ b) t.fn (t.args.set j r) (j + 1) (.slice a6 (j + 1) c6) (ps ++ [(r, .slice ra r.args.length rc)]) (w6.setCell ⟨V.heap.size, 2, none⟩ (.slice a6 (j + 1) c6))) := HQ.out.push (by simpa using hlt) r (by simp) _ HV.out.2.2.1 _ w6 (below_box wr _) _ hrow6 hg6
                  go_roundw
                  case rel => exact ⟨j + 1, by omega, by go_num, _, _, HE2.out⟩
                  case measure => simp [intOf]; omega
                · have ejk : ((j : Int) == (k : Int)) = false := by rw [beq_eq_false_iff_ne]; omega
                  obtain ⟨b5, o5, s5, e5, hbl, c0, c1, c2, hs5⟩ := HP.out.2.1.nth hlt
                  cases e5
                  obtain ⟨a5, c5, rfl, _⟩ := hs5.slice
                  have hBw0 : Below w0.heap.size w0 wr := H0.out.trans ((HO.out wr hB2).mono H0.out.size)
                  replace c0 := kc hBw0 hbl c0
                  replace c1 := kc hBw0 hbl c1
                  replace c2 := kc hBw0 hbl c2
                  have hA5 : ArgsP (fun b => b < w0.heap.size ∨ w.heap.size + 3 ≤ b) V (.slice a5 t.args[j].args.length c5) t.args[j].args := by
                    have hb := H0.out.trans ((HO.out V HV.out.2.1).mono H0.out.size)
                    exact hs5.belowP.keep hb.size (fun b hb' _ => ⟨.inl hb', hb.block b hb'⟩)
                  have hset : (t.args.set k r)[j]'(by simpa using hlt) = t.args[j] := by rw [List.getElem_set_ne (by omega)]
                  have HS5 : Hid (ArgsP (fun b => b < w0.heap.size ∨ w.heap.size + 3 ≤ b) V (.slice a5 t.args[j].args.length c5) t.args[j].args ∧ (t.args.set k r)[j]'(by simpa using hlt) = t.args[j]) := ⟨hA5, hset⟩
                  obtain ⟨q, hq⟩ : ∃ q, t.args[j] = q := ⟨_, rfl⟩
                  rw [hq] at c0 c1 c2 HS5
                  have o2d : wr.drew.cell? ⟨V.heap.size, 2, none⟩ = some vv := o2
                  have o2a : ∀ o, (wr.alloc o).drew.cell? ⟨V.heap.size, 2, none⟩ = some vv := fun o => kc (below_box wr o) (World.block_lt_of_cell? wr _ o2) o2
                  have HRd : Hid (∀ o, (wr.alloc o).drew.ownsRow (V.heap.size + 1) 28 3 vv j (flatT ps)) := fun o => row_below (row_below HQ.out.row (below_box wr o)) (Below.refl _ _).drew
                  have HXd : Hid (∀ o, (wr.alloc o).drew.heap[V.heap.size]? = some (.cells #[.int .i64 0, .string t.fn, vv] 28 (0, 0))) := fun o => ((below_box wr o).block _ (by have := HQ.out.siz; omega)).trans HQ.out.out
                  have g0d : wr.drew.cell? ⟨w.heap.size, 2, none⟩ = _ := g0
                  have c0d : wr.drew.cell? _ = _ := c0
                  have c1d : wr.drew.cell? _ = _ := c1
                  have c2d : wr.drew.cell? _ = _ := c2
                  clear hq hs5 hA5 hset hBw0
                  go_wp2
                  clear o2 g1 o0 o1 x0 x1 hfn g0 c0 c1 c2
                  go_region_law (first
                    | (refine step_append_own _ rfl (.tmp 69) (.tmp 75) 26 rfl (V.heap.size + 1) 28 i0 _ 3 48 Try.underlying26 hi0' hz0 hz1 hz2 rfl (by decide) vv j (flatT ps) rfl (HRd.out _) ⟨wr.heap.size, 0, none⟩ 1 1 [.int .i64 q.v, .string q.fn, .slice a5 q.args.length c5] rfl rfl (fun j x hj => by { show (wr.alloc _).cell? _ = _; rw [Addr.add_mid, Nat.zero_add, cell_of_row _ _ _ _ 28 (0, 0) (MapKept.heap_alloc wr _).1]; simpa using hj }) (by { intro x hx; simp only [List.mem_cons, List.not_mem_nil, or_false] at hx; rcases hx with rfl | rfl | rfl <;> rfl }) (by unfold maxLen; omega) (by omega) (by { have := HQ.out.siz; simp; omega }) ?_; intro v6 w6 hrow6 hg6 _; obtain ⟨a6, c6, rfl⟩ := row_slice hrow6; have hb66 := (hg6.block V.heap.size (Array.getElem?_eq_some_iff.1 (HXd.out _)).1 (fun h => HV0.out h.symm)).trans (HXd.out _); have hc6 : w6.cell? ⟨V.heap.size, 2, none⟩ = some vv := by { rw [cell_of_row _ _ _ #[Value.int .i64 0, .string t.fn, vv] 28 (0, 0) hb66]; rfl }; have hf6 : w6.frozen? ⟨V.heap.size, 2, none⟩ = false := by { simp [World.frozen?, hb66] })
                    | go_simp)
                  all_goals (
                    have HE2 : Hid (QI V (fun b => b < w0.heap.size ∨ w.heap.size + 3 ≤ b) t.fn (t.args.set k r) (j + 1) (.slice a6 (j + 1) c6) (ps ++ [(q, .slice a5 q.args.length c5)]) (w6.setCell ⟨V.heap.size, 2, none⟩ (.slice a6 (j + 1) c6))) := HQ.out.push (by simpa using hlt) q HS5.out.2 _ HS5.out.1 _ w6 (below_box wr _).drew _ hrow6 hg6
                    go_wp2
                    go_roundw
                    case rel => exact ⟨j + 1, by omega, by go_num, _, _, HE2.out⟩
                    case measure => simp [intOf]; omega)
              · have hje : j = t.args.length := by omega
                subst hje
                obtain ⟨av, cv, rfl⟩ := row_slice HQ.out.row
                have hRw := HRb.out wr hB2
                obtain ⟨⟨d0, d1, d2⟩, u0, u1, u2⟩ := box_facts hRw
                have hVs : w.heap.size + 3 ≤ V.heap.size := Nat.le_trans HW2.out HV.out.2.1.size
                have HA : Hid (ArgsP (fun b => b < w0.heap.size ∨ w.heap.size + 3 ≤ b) (set3 wr (w.heap.size + 1 + 1) 0 (.int .i64 0) (.string t.fn) (.slice av t.args.length cv)) (.slice av t.args.length cv) (t.args.set k r)) := by
                  have hl : (t.args.set k r).length = t.args.length := by simp
                  have hq := HQ.out
                  rw [← hl] at hq
                  have := hq.last (w.heap.size + 1 + 1) (by omega) (fun b hb => .inr (by omega)) (fun b hb => by have := H0.out.size; rcases hb with hb | hb <;> omega)
                  rw [hl] at this
                  exact this
                have HBl : Hid (Below w.heap.size w wr) := HO.out wr hB2
                clear hRw
                go_wp2
                refine bodyPost_ret (v := .tuple #[tval (.mk 0 t.fn (t.args.set k r)) (.slice av t.args.length cv), .bool true]) (by simp [results, Try.results23, go_sem, *, T.v, T.fn]) rfl ⟨.mk 0 t.fn (t.args.set k r), av, cv, true, by simp [T.args, T.fn], ?_⟩
                refine ⟨?_, set3_below HBl.out _ 0 _ _ _ (by omega), .inl ⟨rfl, HF.out⟩⟩
                simp only [T.args, List.length_set]
                exact HA.out.keep (Nat.le_refl _) (fun b hb _ => ⟨by rcases hb with hb | hb; exact .inl hb; exact .inr (by omega), rfl⟩)

end Go.Proofs.Ytcnodgjalkcgiaa
