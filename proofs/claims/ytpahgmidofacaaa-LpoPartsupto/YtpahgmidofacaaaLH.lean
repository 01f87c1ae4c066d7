import Derived.Test.YtpahgmidofacaaaTA
import Derived.Test.YtpahgmidofacaaaVH
import Derived.Test.YtpahgmidofacaaaVI
import Derived.Test.YtpahgmidofacaaaKE
import Derived.Test.YtpahgmidofacaaaUB
import Derived.Test.YtpahgmidofacaaaKA
import Derived.Test.YtpahgmidofacaaaR

/-
  What stands at a place: the document's At.
-/
namespace Go.Proofs.Ytpahgmidofacaaa
open Go.RowKit Go.Maps

/-- What stands at a place. -/
def T.at : List Int → T → Option T
  | [], t => some t
  | i :: p, t => if h : 0 ≤ i ∧ i < (t.args.length : Int) then T.at p (t.args[i.toNat]'(by omega)) else none

theorem RowAt.tail {α : Type} {f : α → Value} {W : World} {a : Option Addr} {n c : Nat} {x : α} {l : List α} (h : RowAt f W (.slice a n c) (x :: l)) : RowAt f W (.slice (Option.map (fun x => x.add 1) a) l.length (c - 1)) l := by
  obtain ⟨a', c', h1, h2, h3, h4⟩ := h
  cases h1
  simp only [List.length_cons] at h2
  refine ⟨_, _, rfl, by omega, by omega, fun h0 => ?_⟩
  obtain ⟨b, o, hlt, rfl, hc⟩ := h4 (by simp)
  refine ⟨b, o + 1, hlt, by simp [addr_add], fun i hi => ?_⟩
  have := hc (i + 1) (by simp; omega)
  rw [show o + 1 + i = o + (i + 1) by omega]
  exact this
theorem RowAt.tail1 {α : Type} {f : α → Value} {W : World} {a : Option Addr} {n c : Nat} {x : α} {l : List α} (h : RowAt f W (.slice a n c) (x :: l)) (hc : c = 1) : RowAt f W (.slice a l.length 0) l := by
  obtain ⟨a', c', h1, h2, h3, h4⟩ := h
  cases h1
  simp only [List.length_cons] at h2
  have : l = [] := List.length_eq_zero_iff.1 (by omega)
  subst this
  exact ⟨_, _, rfl, Nat.le_refl _, by decide, fun h => absurd h (by simp)⟩

theorem set3_c {W : World} {k o b o' : Nat} {u v s x : Value} (h : k ≠ b) (hc : W.cell? ⟨k, o, none⟩ = some x) : (set3 W b o' u v s).cell? ⟨k, o, none⟩ = some x :=
  (World.cell?_of_block (a := ⟨k, o, none⟩) (set3_other W b o' u v s k h)).trans hc

/-- What At answers. -/
def AtAns (p : List Int) (t : T) (w0 w w' : World) (r : T) (sr : Value) (b : Bool) : Prop :=
  ArgsAt w0 sr r.args ∧ Below w.heap.size w w' ∧ ((b = true ∧ T.at p t = some r) ∨ (b = false ∧ T.at p t = none))

set_option maxRecDepth 100000 in
set_option maxHeartbeats 4000000 in
theorem tat_any (w0 : World) : ∀ (p : List Int) (t : T) (sl pv : Value) (w : World), Below w0.heap.size w0 w → RowAt (.int .i64) w pv p → ArgsAt w0 sl t.args →
    Calls Try.prog 16 #[tval t sl, pv] w fun e w' => ∃ r pa pc b, e = .returned (.tuple #[tval r (.slice pa r.args.length pc), .bool b]) ∧ Hid (AtAns p t w0 w w' r (.slice pa r.args.length pc) b) := by
  intro p
  induction p with
  | nil =>
    intro t sl pv w hb0 hp ha
    obtain ⟨pa, pc, rfl, _, _⟩ := hp.slice
    obtain ⟨a, c, rfl, _, _⟩ := ha.slice
    have hb2 := below_box2 w (tbox t (.slice a t.args.length c)) (.cells #[.int .i64 0, .string ⟨#[]⟩, .slice none 0 0] 28)
    have hz := (MapKept.heap_alloc (w.alloc (tbox t (.slice a t.args.length c))) (.cells #[.int .i64 0, .string ⟨#[]⟩, .slice none 0 0] 28)).1
    rw [World.size_alloc] at hz
    obtain ⟨⟨z0, z1, z2⟩, y0, y1, y2⟩ := box_facts hz
    obtain ⟨t0, t1, t2⟩ := tbox_cells w t (.slice a t.args.length c)
    have hbb := below_box (w.alloc (tbox t (.slice a t.args.length c))) (.cells #[.int .i64 0, .string ⟨#[]⟩, .slice none 0 0] 28)
    have t0' := kc hbb (by simp) t0
    have t1' := kc hbb (by simp) t1
    have t2' := kc hbb (by simp) t2
    have HA : Hid (ArgsAt w0 (.slice a t.args.length c) t.args) := ha
    clear hz hb2 hbb t0 t1 t2 ha hp hb0
    simp only [List.length_nil]
    go_enter Try.func16, Try.ntmps16
    go_wp2
    refine bodyPost_ret (v := .tuple #[tval t (.slice a t.args.length c), .bool true]) (by simp [results, Try.results16, go_sem, *]) rfl ⟨t, _, _, true, rfl, ?_⟩
    have hbw := below_box2 w (tbox t (.slice a t.args.length c)) (tbox t (.slice a t.args.length c))
    exact ⟨HA.out, hbw, .inl ⟨rfl, rfl⟩⟩
  | cons i p ih =>
    intro t sl pv w hb0 hp ha
    obtain ⟨pa, pc, rfl, hpl, hpm⟩ := hp.slice
    obtain ⟨pb, po, rfl, hpb, hcell⟩ := hp.nth (i := 0) (by simp)
    obtain ⟨a, c, rfl, _, _⟩ := ha.slice
    have hcell0 : w.cell? ⟨pb, po, none⟩ = some (.int .i64 i) := hcell
    obtain ⟨W1, hW1⟩ : ∃ W1, (w.alloc (tbox t (.slice a t.args.length c))).alloc (.cells #[.int .i64 0, .string ⟨#[]⟩, .slice none 0 0] 28) = W1 := ⟨_, rfl⟩
    have hb2 : Below w.heap.size w W1 := by rw [← hW1]; exact below_box2 w _ _
    have hz : W1.heap[w.heap.size + 1]? = some (.cells #[.int .i64 0, .string ⟨#[]⟩, .slice none 0 0] 28 (0, 0)) := by
      have := (MapKept.heap_alloc (w.alloc (tbox t (.slice a t.args.length c))) (.cells #[.int .i64 0, .string ⟨#[]⟩, .slice none 0 0] 28)).1
      rw [World.size_alloc, hW1] at this
      exact this
    obtain ⟨t0, t1, t2⟩ := tbox_cells w t (.slice a t.args.length c)
    have hbb := below_box (w.alloc (tbox t (.slice a t.args.length c))) (.cells #[.int .i64 0, .string ⟨#[]⟩, .slice none 0 0] 28)
    rw [hW1] at hbb
    have t2' := kc hbb (by simp) t2
    have hsz : W1.heap.size = w.heap.size + 2 := by rw [← hW1]; simp
    have hcw := kc hb2 hpb hcell0
    have hF : ∀ q : Far, (far W1 q).cell? ⟨w.heap.size, 2, none⟩ = some (.slice a t.args.length c) ∧ (far W1 q).cell? ⟨pb, po, none⟩ = some (.int .i64 i) := fun q => ⟨cell_far (by omega) t2' q, cell_far (by omega) hcw q⟩
    have hF0 := fun q => (hF q).1
    have hF1 := fun q => (hF q).2
    have HP : Hid (RowAt (.int .i64) w (.slice (some ⟨pb, po, none⟩) (i :: p).length pc) (i :: p) ∧ ArgsAt w0 (.slice a t.args.length c) t.args ∧ Below w.heap.size w W1 ∧ W1.heap.size = w.heap.size + 2) := ⟨hp, ha, hb2, hsz⟩
    have H0 : Hid (Below w0.heap.size w0 w) := hb0
    clear hb0
    have hl1 : ((i :: p).length : Int) = (p.length : Int) + 1 := by simp
    have hne : (((i :: p).length : Int) == 0) = false := by rw [beq_eq_false_iff_ne]; omega
    have HE : Hid (T.at (i :: p) t = if h : 0 ≤ i ∧ i < (t.args.length : Int) then T.at p (t.args[i.toNat]'(by omega)) else none) := rfl
    obtain ⟨n, hn⟩ : ∃ n, (i :: p).length = n := ⟨_, rfl⟩
    rw [hn] at hne hpl HP hl1
    have hn0 : (0 : Int) < (n : Int) := by omega
    have hn1 : (1 : Int) ≤ (n : Int) := by omega
    have hpl' : (n : Int) ≤ (pc : Int) := by omega
    rw [hn]
    have HL : Hid (n = p.length + 1) := by show _ = _; rw [← hn]; simp
    clear hl1 hn
    clear hp ha hcell hcell0 t0 t1 t2 hbb hF
    by_cases hbad : i < 0 ∨ (t.args.length : Int) ≤ i
    · have HN : Hid (T.at (i :: p) t = none) := by show _ = _; rw [HE.out, dif_neg (by omega)]
      have hgu : (decide (i < 0) = true) ∨ (decide (i < 0) = false ∧ decide ((t.args.length : Int) ≤ i) = true) := by
        by_cases h : i < 0
        · exact .inl (decide_eq_true h)
        · exact .inr ⟨decide_eq_false h, decide_eq_true (by omega)⟩
      clear HE hbad
      rcases hgu with h1 | ⟨h1, h2⟩
      all_goals (
        go_enter Try.func16, Try.ntmps16
        try rw [hW1]
        go_wp2
        refine wp_region_far (by kernel_rfl) ?_
        repeat (first | go_big_quiet_step (fail) | quiet_step (fail))
        refine wpQuiet_nil ?_
        intro _ hw'
        obtain ⟨pf, rfl⟩ := hw'
        have hzf := ((below_far W1 pf).block (w.heap.size + 1) (by have := HP.out.2.2.2; omega)).trans hz
        obtain ⟨⟨z0, z1, z2⟩, y0, y1, y2⟩ := box_facts hzf
        clear hzf
        go_wp2
        refine bodyPost_ret (v := .tuple #[tval zt (.slice none 0 0), .bool false]) (by simp [results, Try.results16, go_sem, *, zt, T.v, T.fn]) rfl ⟨zt, none, 0, false, rfl, ?_⟩
        exact ⟨nilArgs _, set3_below (HP.out.2.2.1.trans ((below_far W1 pf).mono HP.out.2.2.1.size)) _ 0 _ _ _ (Nat.le_succ _), .inr ⟨rfl, HN.out⟩⟩)
    · have hi0 : 0 ≤ i := by omega
      obtain ⟨k, rfl⟩ := Int.eq_ofNat_of_zero_le hi0
      have hk : k < t.args.length := by omega
      have HN : Hid (T.at ((k : Int) :: p) t = T.at p t.args[k]) := by show _ = _; rw [HE.out, dif_pos (by omega)]; rfl
      have h1 : decide ((k : Int) < 0) = false := decide_eq_false (by omega)
      have h2 : decide ((t.args.length : Int) ≤ (k : Int)) = false := decide_eq_false (by omega)
      have h3 : ¬ t.args.length ≤ k := by omega
      clear HE hbad
      go_enter Try.func16, Try.ntmps16
      try rw [hW1]
      go_wp2
      refine wp_region_far (by kernel_rfl) ?_
      repeat (first | go_big_quiet_step (fail) | quiet_step (fail))
      refine wpQuiet_nil ?_
      intro _ hw'
      obtain ⟨pf, rfl⟩ := hw'
      obtain ⟨W2, hW2⟩ : ∃ W2, far W1 pf = W2 := ⟨_, rfl⟩
      have hb12 : Below W1.heap.size W1 W2 := by rw [← hW2]; exact below_far W1 pf
      rw [hW2]
      have hdr : Below W2.heap.size W2 W2.drew := (Below.refl _ W2).drew
      have hbw2 : Below w.heap.size w W2.drew := (HP.out.2.2.1.trans (hb12.mono HP.out.2.2.1.size)).trans (hdr.mono (by have := hb12.size; have := HP.out.2.2.2; omega))
      obtain ⟨ba, oa, s, rfl, hba, a0, a1, a2, hs⟩ := HP.out.2.1.nth hk
      obtain ⟨sa, sca, rfl, _⟩ := hs.slice
      have hba' := Nat.lt_of_lt_of_le hba H0.out.size
      replace a0 := kc H0.out hba a0
      replace a1 := kc H0.out hba a1
      replace a2 := kc H0.out hba a2
      have hb12d : Below W1.heap.size W1 W2.drew := hb12.trans (hdr.mono hb12.size)
      have hC : ∀ X, Below W2.drew.heap.size W2.drew X → (X.cell? ⟨w.heap.size, 2, none⟩ = some (.slice (some ⟨ba, oa, none⟩) t.args.length c) ∧ X.cell? ⟨pb, po, none⟩ = some (.int .i64 (k : Int))) ∧ (X.cell? ⟨ba, oa + k * 3, none⟩ = some (.int .i64 t.args[k].v) ∧ X.cell? ⟨ba, oa + k * 3 + 1, none⟩ = some (.string t.args[k].fn) ∧ X.cell? ⟨ba, oa + k * 3 + 2, none⟩ = some (.slice sa t.args[k].args.length sca)) := fun X hX => by
        have hbX := hbw2.trans (hX.mono hbw2.size)
        have hb1X := hb12d.trans (hX.mono hb12d.size)
        have hs2 := HP.out.2.2.2
        exact ⟨⟨kc hb1X (by omega) t2', kc hb1X (by omega) hcw⟩, kc hbX hba' a0, kc hbX hba' a1, kc hbX hba' a2⟩
      have hRb : ∀ X, Below W2.drew.heap.size W2.drew X → (X.cell? ⟨w.heap.size + 1, 0, none⟩ = some (.int .i64 0) ∧ X.cell? ⟨w.heap.size + 1, 1, none⟩ = some (.string ⟨#[]⟩) ∧ X.cell? ⟨w.heap.size + 1, 2, none⟩ = some (.slice none 0 0)) ∧ (X.frozen? ⟨w.heap.size + 1, 0, none⟩ = false ∧ X.frozen? ⟨w.heap.size + 1, 1, none⟩ = false ∧ X.frozen? ⟨w.heap.size + 1, 2, none⟩ = false) := fun X hX => by
        have hb1X := hb12d.trans (hX.mono hb12d.size)
        exact box_facts ((hb1X.block (w.heap.size + 1) (by have := HP.out.2.2.2; omega)).trans hz)
      have K0 := hC _ (Below.refl _ _)
      have hplen : p.length = n - 1 := by have := HL.out; omega
      have hcall : ∀ qv, RowAt (.int .i64) w qv p → Calls Try.prog 16 #[.agg #[.int .i64 t.args[k].v, .string t.args[k].fn, .slice sa t.args[k].args.length sca], qv] W2.drew fun e X' => ∃ r pa pc b, e = .returned (.tuple #[.agg #[.int .i64 r.v, .string r.fn, .slice pa r.args.length pc], .bool b]) ∧ Hid (AtAns p t.args[k] w0 W2.drew X' r (.slice pa r.args.length pc) b) := fun qv hq => ih t.args[k] _ qv W2.drew (H0.out.trans (hbw2.mono H0.out.size)) (hq.keep hbw2 (Nat.le_refl _)) hs
      have HO : Hid (∀ X, Below W2.drew.heap.size W2.drew X → Below w.heap.size w X) := fun X hX => hbw2.trans (hX.mono hbw2.size)
      obtain ⟨u, hu⟩ : ∃ u, t.args[k] = u := ⟨_, rfl⟩
      rw [hu] at K0 hcall HN
      simp only [hu] at hC
      have hk1 : (0 : Int) ≤ (k : Int) := by omega
      have hk2 : (k : Int) < (t.args.length : Int) := by omega
      clear hu hs a0 a1 a2 hF0 hF1 t2' hcw hb12 hb12d hdr ih hW2 hz
      have hn2 : 0 < n := by omega
      have e1 : pb ≠ w.heap.size + 1 := by omega
      have e2 : ba ≠ w.heap.size + 1 := by omega
      have e3 : w.heap.size ≠ w.heap.size + 1 := by omega
      by_cases hc1 : pc = 1
      · have oP := HP.out.1.tail1 hc1
        rw [hplen] at oP
        have hcall' := hcall _ oP
        clear hcall oP
        go_wp2
        go_region_held3 (fun X => (X.cell? ⟨w.heap.size, 2, none⟩ = some (.slice (some ⟨ba, oa, none⟩) t.args.length c) ∧ X.cell? ⟨pb, po, none⟩ = some (.int .i64 (k : Int))) ∧ (X.cell? ⟨ba, oa + k * 3, none⟩ = some (.int .i64 u.v) ∧ X.cell? ⟨ba, oa + k * 3 + 1, none⟩ = some (.string u.fn) ∧ X.cell? ⟨ba, oa + k * 3 + 2, none⟩ = some (.slice sa u.args.length sca))) (first | exact K0 | exact K3 | exact ⟨⟨set3_c e3 K3.1.1, set3_c e1 K3.1.2⟩, set3_c e2 K3.2.1, set3_c e2 K3.2.2.1, set3_c e2 K3.2.2.2⟩) (first
          | (go_at_call 16; refine hcall'.mono ?_; rintro e W3 ⟨r, ra, rc, b3, rfl, H3⟩; have K3 := hC _ H3.out.2.1; obtain ⟨⟨z0, z1, z2⟩, y0, y1, y2⟩ := hRb _ H3.out.2.1))
        clear K0 K3 hC hRb hcall' hk1 hk2 hn0 hn1 hn2
        go_wp2
        refine bodyPost_ret (v := .tuple #[tval r (.slice ra r.args.length rc), .bool b3]) (by simp [results, Try.results16, go_sem, *]) rfl ⟨r, ra, rc, b3, rfl, ?_⟩
        exact ⟨H3.out.1, set3_below (HO.out _ H3.out.2.1) _ 0 _ _ _ (Nat.le_succ _), by rw [HN.out]; exact H3.out.2.2⟩
      · have oP := HP.out.1.tail
        simp only [Option.map_some, addr_add] at oP
        rw [hplen] at oP
        have hcall' := hcall _ oP
        clear hcall oP
        go_wp2
        go_region_held3 (fun X => (X.cell? ⟨w.heap.size, 2, none⟩ = some (.slice (some ⟨ba, oa, none⟩) t.args.length c) ∧ X.cell? ⟨pb, po, none⟩ = some (.int .i64 (k : Int))) ∧ (X.cell? ⟨ba, oa + k * 3, none⟩ = some (.int .i64 u.v) ∧ X.cell? ⟨ba, oa + k * 3 + 1, none⟩ = some (.string u.fn) ∧ X.cell? ⟨ba, oa + k * 3 + 2, none⟩ = some (.slice sa u.args.length sca))) (first | exact K0 | exact K3 | exact ⟨⟨set3_c e3 K3.1.1, set3_c e1 K3.1.2⟩, set3_c e2 K3.2.1, set3_c e2 K3.2.2.1, set3_c e2 K3.2.2.2⟩) (first
          | (go_at_call 16; refine hcall'.mono ?_; rintro e W3 ⟨r, ra, rc, b3, rfl, H3⟩; have K3 := hC _ H3.out.2.1; obtain ⟨⟨z0, z1, z2⟩, y0, y1, y2⟩ := hRb _ H3.out.2.1))
        clear K0 K3 hC hRb hcall' hk1 hk2 hn0 hn1 hn2
        go_wp2
        refine bodyPost_ret (v := .tuple #[tval r (.slice ra r.args.length rc), .bool b3]) (by simp [results, Try.results16, go_sem, *]) rfl ⟨r, ra, rc, b3, rfl, ?_⟩
        exact ⟨H3.out.1, set3_below (HO.out _ H3.out.2.1) _ 0 _ _ _ (Nat.le_succ _), by rw [HN.out]; exact H3.out.2.2⟩

end Go.Proofs.Ytpahgmidofacaaa

/-
  A term in a place: the document's Put.
-/
namespace Go.Proofs.Ytpahgmidofacaaa
open Go.RowKit Go.Maps

/-- What comes out where a part is put anew. -/
def T.rep : List Int → T → T → Option T
  | [], s, _ => some s
  | i :: p, s, t => if h : 0 ≤ i ∧ i < (t.args.length : Int) then (T.rep p s (t.args[i.toNat]'(by omega))).map (fun x => .mk 0 t.fn (t.args.set i.toNat x)) else none

/-- What Put answers. -/
def PutAns (p : List Int) (s t : T) (w0 w w' : World) (r : T) (sr : Value) (b : Bool) : Prop :=
  ArgsP (fun b => b < w0.heap.size ∨ w.heap.size ≤ b) w' sr r.args ∧ Below w.heap.size w w' ∧ ((b = true ∧ T.rep p s t = some r) ∨ (b = false ∧ T.rep p s t = none))

theorem below_box3 (w : World) (a b c : Obj) : Below w.heap.size w (((w.alloc a).alloc b).alloc c) := (below_box2 w a b).trans ((below_box _ c).mono (by simp; omega))

/-- What a round of Put leaves. -/
structure QI (V : World) (P : Nat → Prop) (fn : ByteArray) (l : List T) (k : Nat) (v : Value) (ps : List (T × Value)) (W : World) : Prop where
  args : ps.map (·.1) = l.take k
  ok : ∀ p ∈ ps, ArgsP P V p.2 p.1.args
  row : W.ownsRow (V.heap.size + 1) 28 3 v k (flatT ps)
  out : W.heap[V.heap.size]? = some (.cells #[.int .i64 0, .string fn, v] 28 (0, 0))
  bel : Below V.heap.size V W
  siz : V.heap.size + 1 ≤ W.heap.size

theorem QI.start (V : World) (P : Nat → Prop) (fn : ByteArray) (l : List T) : QI V P fn l 0 (.slice none 0 0) [] (V.alloc (.cells #[.int .i64 0, .string fn, .slice none 0 0] 28)) :=
  ⟨rfl, fun p hp => absurd hp (by simp), World.ownsRow_nil _ _ _ _, (MapKept.heap_alloc V _).1, below_box V _, by simp⟩

theorem QI.push {V : World} {P : Nat → Prop} {fn : ByteArray} {l : List T} {k : Nat} {v : Value} {ps : List (T × Value)} {wr : World} (h : QI V P fn l k v ps wr) (hlt : k < l.length) (u : T) (hu : l[k] = u) (s5 : Value) (hA : ArgsP P V s5 u.args) (X w6 : World) (hX : Below wr.heap.size wr X) (v' : Value)
    (hown : w6.ownsRow (V.heap.size + 1) 28 3 v' (k + 1) (flatT ps ++ [.int .i64 u.v, .string u.fn, s5])) (hg : X.grownBy w6 v.ownBlock) :
    QI V P fn l (k + 1) v' (ps ++ [(u, s5)]) (w6.setCell ⟨V.heap.size, 2, none⟩ v') := by
  have hsz := h.siz
  have hXs := hX.size
  have hgs := hg.size
  have hn : ∀ j, j < V.heap.size + 1 → v.ownBlock ≠ some j := fun j hj e => by have := (h.row.lt j e).1; omega
  have hv'l : ∀ g, v'.ownBlock = some g → V.heap.size + 1 ≤ g := fun g e => (hown.lt g e).1
  have hout : w6.heap[V.heap.size]? = some (.cells #[.int .i64 0, .string fn, v] 28 (0, 0)) := by
    rw [hg.block _ (by omega) (fun e => hn _ (by omega) e.symm), hX.block _ (by omega)]
    exact h.out
  refine ⟨?_, fun p hp => ?_, ?_, ?_, ?_, ?_⟩
  · rw [List.map_append, h.args, List.take_succ_eq_append_getElem hlt]
    simp [hu]
  · rcases List.mem_append.1 hp with hp | hp
    · exact h.ok p hp
    · simp at hp
      subst hp
      exact hA
  · rw [flatT_snoc]
    exact row_keep hown (fun g hg => Below.heap_setCell _ _ _ g (by have := hv'l g hg; intro e; have : g = V.heap.size := e; omega))
  · have := heap_setCell_same w6 V.heap.size 2 _ 28 v' hout
    simpa using this
  · exact h.bel.trans ⟨by rw [show (w6.setCell ⟨V.heap.size, 2, none⟩ v').os = w6.os from rfl, hg.os, hX.os], by rw [show (w6.setCell ⟨V.heap.size, 2, none⟩ v').tape = w6.tape from rfl, hg.tape, hX.tape], by rw [show (w6.setCell ⟨V.heap.size, 2, none⟩ v').output = w6.output from rfl, hg.output, hX.output], by simp; omega, fun j hj => by
      rw [Below.heap_setCell _ _ _ j (by show j ≠ V.heap.size; omega), hg.block j (by omega) (fun e => hn j (by omega) e.symm), hX.block j (by omega)]⟩
  · simp; omega

theorem QI.last {V : World} {P : Nat → Prop} {fn : ByteArray} {l : List T} {v : Value} {ps : List (T × Value)} {wr : World} (h : QI V P fn l l.length v ps wr) (R : Nat) (hR : R < V.heap.size) (hP : ∀ b, V.heap.size + 1 ≤ b → P b) (hPR : ∀ b, P b → b ≠ R) :
    ArgsP P (set3 wr R 0 (.int .i64 0) (.string fn) v) v l :=
  argsP_of_row (row_keep h.row fun g hg => set3_other _ _ _ _ _ _ g (by have := (h.row.lt g hg).1; omega)) rfl (by rw [h.args, List.take_length]) hP (fun p hp => (h.ok p hp).keep (by rw [set3_size]; exact h.bel.size) (fun b hb hlt => ⟨hb, (set3_other _ _ _ _ _ _ b (hPR b hb)).trans (h.bel.block b hlt)⟩))

theorem set3_same {X : World} {b : Nat} {u v s u' v' s' : Value} (h : X.heap[b]? = some (.cells #[u, v, s] 28 (0, 0))) : (set3 X b 0 u' v' s').heap[b]? = some (.cells #[u', v', s'] 28 (0, 0)) := by
  have h1 := heap_setCell_same X b 0 _ 28 u' h
  have h2 := heap_setCell_same (X.setCell ⟨b, 0, none⟩ u') b 1 _ 28 v' h1
  have h3 := heap_setCell_same ((X.setCell ⟨b, 0, none⟩ u').setCell ⟨b, 1, none⟩ v') b 2 _ 28 s' h2
  simpa using h3

set_option maxRecDepth 100000 in
set_option maxHeartbeats 4000000 in
theorem rput_any (w0 : World) (s : T) (ss : Value) (hs0 : ArgsAt w0 ss s.args) : ∀ (p : List Int) (t : T) (sl pv : Value) (w : World), Below w0.heap.size w0 w → RowAt (.int .i64) w pv p → ArgsAt w0 sl t.args → t.shape = true →
    Calls Try.prog 19 #[tval t sl, pv, tval s ss] w fun e w' => ∃ r pa pc b, e = .returned (.tuple #[tval r (.slice pa r.args.length pc), .bool b]) ∧ Hid (PutAns p s t w0 w w' r (.slice pa r.args.length pc) b) := by
  obtain ⟨sa0, sc0, rfl, _, _⟩ := hs0.slice
  have HS0 : Hid (ArgsAt w0 (.slice sa0 s.args.length sc0) s.args) := hs0
  clear hs0
  intro p
  induction p with
  | nil =>
    intro t sl pv w hb0 hp ha hsh
    obtain ⟨pa, pc, rfl, _, _⟩ := hp.slice
    obtain ⟨a, c, rfl, _, _⟩ := ha.slice
    obtain ⟨W1, hW1⟩ : ∃ W1, ((w.alloc (tbox t (.slice a t.args.length c))).alloc (tbox s (.slice sa0 s.args.length sc0))).alloc (.cells #[.int .i64 0, .string ⟨#[]⟩, .slice none 0 0] 28) = W1 := ⟨_, rfl⟩
    have hb2 : Below w.heap.size w W1 := by rw [← hW1]; exact below_box3 w _ _ _
    have hz : W1.heap[w.heap.size + 1 + 1]? = some (.cells #[.int .i64 0, .string ⟨#[]⟩, .slice none 0 0] 28 (0, 0)) := by
      have := (MapKept.heap_alloc ((w.alloc (tbox t (.slice a t.args.length c))).alloc (tbox s (.slice sa0 s.args.length sc0))) (.cells #[.int .i64 0, .string ⟨#[]⟩, .slice none 0 0] 28)).1
      rw [World.size_alloc, World.size_alloc, hW1] at this
      exact this
    obtain ⟨⟨z0, z1, z2⟩, y0, y1, y2⟩ := box_facts hz
    obtain ⟨t0, t1, t2⟩ := tbox_cells (w.alloc (tbox t (.slice a t.args.length c))) s (.slice sa0 s.args.length sc0)
    have hbb := below_box ((w.alloc (tbox t (.slice a t.args.length c))).alloc (tbox s (.slice sa0 s.args.length sc0))) (.cells #[.int .i64 0, .string ⟨#[]⟩, .slice none 0 0] 28)
    rw [hW1] at hbb
    rw [World.size_alloc] at t0 t1 t2
    have t0' := kc hbb (by simp) t0
    have t1' := kc hbb (by simp) t1
    have t2' := kc hbb (by simp) t2
    have H0 : Hid (Below w0.heap.size w0 w ∧ Below w.heap.size w W1) := ⟨hb0, hb2⟩
    clear hz hb2 hbb t0 t1 t2 ha hp hb0
    simp only [List.length_nil]
    go_enter Try.func19, Try.ntmps19
    try rw [hW1]
    go_wp2
    refine bodyPost_ret (v := .tuple #[tval s (.slice sa0 s.args.length sc0), .bool true]) (by simp [results, Try.results19, go_sem, *]) rfl ⟨s, _, _, true, rfl, ?_⟩
    have hfw := set3_below H0.out.2 (w.heap.size + 1 + 1) 0 (.int .i64 s.v) (.string s.fn) (.slice sa0 s.args.length sc0) (by omega)
    have hfin := H0.out.1.trans (hfw.mono H0.out.1.size)
    exact ⟨HS0.out.belowP.keep hfin.size (fun k hk _ => ⟨.inl hk, hfin.block k hk⟩), hfw, .inl ⟨rfl, rfl⟩⟩
  | cons i p ih =>
    intro t sl pv w hb0 hp ha hsh
    obtain ⟨pa, pc, rfl, hpl, hpm⟩ := hp.slice
    obtain ⟨pb, po, rfl, hpb, hcell⟩ := hp.nth (i := 0) (by simp)
    obtain ⟨a, c, rfl, _, _⟩ := ha.slice
    have hcell0 : w.cell? ⟨pb, po, none⟩ = some (.int .i64 i) := hcell
    obtain ⟨W1, hW1⟩ : ∃ W1, ((w.alloc (tbox t (.slice a t.args.length c))).alloc (tbox s (.slice sa0 s.args.length sc0))).alloc (.cells #[.int .i64 0, .string ⟨#[]⟩, .slice none 0 0] 28) = W1 := ⟨_, rfl⟩
    have hb2 : Below w.heap.size w W1 := by rw [← hW1]; exact below_box3 w _ _ _
    have hz : W1.heap[w.heap.size + 1 + 1]? = some (.cells #[.int .i64 0, .string ⟨#[]⟩, .slice none 0 0] 28 (0, 0)) := by
      have := (MapKept.heap_alloc ((w.alloc (tbox t (.slice a t.args.length c))).alloc (tbox s (.slice sa0 s.args.length sc0))) (.cells #[.int .i64 0, .string ⟨#[]⟩, .slice none 0 0] 28)).1
      rw [World.size_alloc, World.size_alloc, hW1] at this
      exact this
    obtain ⟨s0, s1, s2⟩ := tbox_cells (w.alloc (tbox t (.slice a t.args.length c))) s (.slice sa0 s.args.length sc0)
    have hbb := below_box ((w.alloc (tbox t (.slice a t.args.length c))).alloc (tbox s (.slice sa0 s.args.length sc0))) (.cells #[.int .i64 0, .string ⟨#[]⟩, .slice none 0 0] 28)
    rw [hW1] at hbb
    rw [World.size_alloc] at s0 s1 s2
    replace s0 := kc hbb (by simp) s0
    replace s1 := kc hbb (by simp) s1
    replace s2 := kc hbb (by simp) s2
    obtain ⟨t0, t1, t2⟩ := tbox_cells w t (.slice a t.args.length c)
    have hb12' := below_box2 (w.alloc (tbox t (.slice a t.args.length c))) (tbox s (.slice sa0 s.args.length sc0)) (.cells #[.int .i64 0, .string ⟨#[]⟩, .slice none 0 0] 28)
    rw [hW1] at hb12'
    replace t0 := kc hb12' (by simp) t0
    replace t1 := kc hb12' (by simp) t1
    replace t2 := kc hb12' (by simp) t2
    have hsz : W1.heap.size = w.heap.size + 3 := by rw [← hW1]; simp
    have hcw := kc hb2 hpb hcell0
    have hF0 : ∀ q : Far, (far W1 q).cell? ⟨w.heap.size, 2, none⟩ = some (.slice a t.args.length c) := fun q => cell_far (by omega) t2 q
    have hF1 : ∀ q : Far, (far W1 q).cell? ⟨pb, po, none⟩ = some (.int .i64 i) := fun q => cell_far (by omega) hcw q
    have HP : Hid (RowAt (.int .i64) w (.slice (some ⟨pb, po, none⟩) (i :: p).length pc) (i :: p) ∧ ArgsAt w0 (.slice a t.args.length c) t.args ∧ Below w.heap.size w W1 ∧ W1.heap.size = w.heap.size + 3) := ⟨hp, ha, hb2, hsz⟩
    have H0 : Hid (Below w0.heap.size w0 w) := hb0
    have HZ : Hid (W1.heap[w.heap.size + 1 + 1]? = some (.cells #[.int .i64 0, .string ⟨#[]⟩, .slice none 0 0] 28 (0, 0))) := hz
    clear hb0 hz
    have hl1 : ((i :: p).length : Int) = (p.length : Int) + 1 := by simp
    have hne : (((i :: p).length : Int) == 0) = false := by rw [beq_eq_false_iff_ne]; omega
    have HE : Hid (T.rep (i :: p) s t = if h : 0 ≤ i ∧ i < (t.args.length : Int) then (T.rep p s (t.args[i.toNat]'(by omega))).map (fun x => .mk 0 t.fn (t.args.set i.toNat x)) else none) := rfl
    obtain ⟨n, hn⟩ : ∃ n, (i :: p).length = n := ⟨_, rfl⟩
    rw [hn] at hne hpl HP hl1
    have hn0 : (0 : Int) < (n : Int) := by omega
    have hn1 : (1 : Int) ≤ (n : Int) := by omega
    have hpl' : (n : Int) ≤ (pc : Int) := by omega
    rw [hn]
    have HL : Hid (n = p.length + 1) := by show _ = _; rw [← hn]; simp
    clear hl1 hn
    clear hp ha hcell hcell0 hbb hb12'
    by_cases hbad : i < 0 ∨ (t.args.length : Int) ≤ i
    · have HN : Hid (T.rep (i :: p) s t = none) := by show _ = _; rw [HE.out, dif_neg (by omega)]
      have hgu : (decide (i < 0) = true) ∨ (decide (i < 0) = false ∧ decide ((t.args.length : Int) ≤ i) = true) := by
        by_cases h : i < 0
        · exact .inl (decide_eq_true h)
        · exact .inr ⟨decide_eq_false h, decide_eq_true (by omega)⟩
      clear HE hbad s0 s1 s2 t0 t1 t2
      rcases hgu with h1 | ⟨h1, h2⟩
      all_goals (
        go_enter Try.func19, Try.ntmps19
        try rw [hW1]
        go_wp2
        refine wp_region_far (by kernel_rfl) ?_
        repeat (first | go_big_quiet_step (fail) | quiet_step (fail))
        refine wpQuiet_nil ?_
        intro _ hw'
        obtain ⟨pf, rfl⟩ := hw'
        have hzf := ((below_far W1 pf).block (w.heap.size + 1 + 1) (by have := HP.out.2.2.2; omega)).trans HZ.out
        obtain ⟨⟨z0, z1, z2⟩, y0, y1, y2⟩ := box_facts hzf
        clear hzf
        go_wp2
        refine bodyPost_ret (v := .tuple #[tval zt (.slice none 0 0), .bool false]) (by simp [results, Try.results19, go_sem, *, zt, T.v, T.fn]) rfl ⟨zt, none, 0, false, rfl, ?_⟩
        exact ⟨ArgsP.nil _ _, set3_below (HP.out.2.2.1.trans ((below_far W1 pf).mono HP.out.2.2.1.size)) _ 0 _ _ _ (by omega), .inr ⟨rfl, HN.out⟩⟩)
    · have hi0 : 0 ≤ i := by omega
      obtain ⟨k, rfl⟩ := Int.eq_ofNat_of_zero_le hi0
      have hk : k < t.args.length := by omega
      have HN : Hid (T.rep ((k : Int) :: p) s t = (T.rep p s t.args[k]).map (fun x => .mk 0 t.fn (t.args.set k x))) := by show _ = _; rw [HE.out, dif_pos (by omega)]; rfl
      have h1 : decide ((k : Int) < 0) = false := decide_eq_false (by omega)
      have h2 : decide ((t.args.length : Int) ≤ (k : Int)) = false := decide_eq_false (by omega)
      have h3 : ¬ t.args.length ≤ k := by omega
      have hsh' := hsh
      rw [T.shape_eq] at hsh'
      have hshk : t.args.length ≤ 16 ∧ t.args[k].shape = true := by
        rcases shape_cases hsh with ⟨_, _, _, h⟩ | ⟨_, _, _, h4, h5⟩
        · rw [h] at hk; simp at hk
        · exact ⟨h4, h5 _ (List.getElem_mem hk)⟩
      have HSH : Hid (t.args.length ≤ 16) := hshk.1
      have hshk2 := hshk.2
      clear HE hbad hsh' hshk
      go_enter Try.func19, Try.ntmps19
      try rw [hW1]
      go_wp2
      refine wp_region_far (by kernel_rfl) ?_
      repeat (first | go_big_quiet_step (fail) | quiet_step (fail))
      refine wpQuiet_nil ?_
      intro _ hw'
      obtain ⟨pf, rfl⟩ := hw'
      obtain ⟨W2, hW2⟩ : ∃ W2, far W1 pf = W2 := ⟨_, rfl⟩
      have hb12 : Below W1.heap.size W1 W2 := by rw [← hW2]; exact below_far W1 pf
      rw [hW2]
      have hdr : Below W2.heap.size W2 W2.drew := (Below.refl _ W2).drew
      have hbw2 : Below w.heap.size w W2.drew := (HP.out.2.2.1.trans (hb12.mono HP.out.2.2.1.size)).trans (hdr.mono (by have := hb12.size; have := HP.out.2.2.2; omega))
      obtain ⟨ba, oa, s', rfl, hba, a0, a1, a2, hs⟩ := HP.out.2.1.nth hk
      obtain ⟨sa, sca, rfl, _⟩ := hs.slice
      have hba' := Nat.lt_of_lt_of_le hba H0.out.size
      replace a0 := kc H0.out hba a0
      replace a1 := kc H0.out hba a1
      replace a2 := kc H0.out hba a2
      have hb12d : Below W1.heap.size W1 W2.drew := hb12.trans (hdr.mono hb12.size)
      have HW2 : Hid (w.heap.size + 3 ≤ W2.drew.heap.size) := by have := hb12d.size; rw [hsz] at this; exact this
      have hC : ∀ X, Below W2.drew.heap.size W2.drew X → (X.cell? ⟨w.heap.size, 2, none⟩ = some (.slice (some ⟨ba, oa, none⟩) t.args.length c) ∧ X.cell? ⟨pb, po, none⟩ = some (.int .i64 (k : Int))) ∧ (X.cell? ⟨ba, oa + k * 3, none⟩ = some (.int .i64 t.args[k].v) ∧ X.cell? ⟨ba, oa + k * 3 + 1, none⟩ = some (.string t.args[k].fn) ∧ X.cell? ⟨ba, oa + k * 3 + 2, none⟩ = some (.slice sa t.args[k].args.length sca)) ∧ (X.cell? ⟨w.heap.size + 1, 0, none⟩ = some (.int .i64 s.v) ∧ X.cell? ⟨w.heap.size + 1, 1, none⟩ = some (.string s.fn) ∧ X.cell? ⟨w.heap.size + 1, 2, none⟩ = some (.slice sa0 s.args.length sc0)) := fun X hX => by
        have hbX := hbw2.trans (hX.mono hbw2.size)
        have hb1X := hb12d.trans (hX.mono hb12d.size)
        have hs2 := HP.out.2.2.2
        exact ⟨⟨kc hb1X (by omega) t2, kc hb1X (by omega) hcw⟩, ⟨kc hbX hba' a0, kc hbX hba' a1, kc hbX hba' a2⟩, kc hb1X (by omega) s0, kc hb1X (by omega) s1, kc hb1X (by omega) s2⟩
      have HRb : Hid (∀ X, Below W2.drew.heap.size W2.drew X → X.heap[w.heap.size + 1 + 1]? = some (.cells #[.int .i64 0, .string ⟨#[]⟩, .slice none 0 0] 28 (0, 0))) := fun X hX => by
        have hb1X := hb12d.trans (hX.mono hb12d.size)
        exact (hb1X.block (w.heap.size + 1 + 1) (by have := HP.out.2.2.2; omega)).trans HZ.out
      have HTb : Hid (∀ X, Below W2.drew.heap.size W2.drew X → X.cell? ⟨w.heap.size, 1, none⟩ = some (.string t.fn)) := fun X hX => by
        have hb1X := hb12d.trans (hX.mono hb12d.size)
        exact kc hb1X (by have := HP.out.2.2.2; omega) t1
      have K0 := hC _ (Below.refl _ _)
      have hplen : p.length = n - 1 := by have := HL.out; omega
      have hcall : ∀ qv, RowAt (.int .i64) w qv p → ∀ X, Below W2.drew.heap.size W2.drew X → Calls Try.prog 19 #[.agg #[.int .i64 t.args[k].v, .string t.args[k].fn, .slice sa t.args[k].args.length sca], qv, .agg #[.int .i64 s.v, .string s.fn, .slice sa0 s.args.length sc0]] X fun e X' => ∃ r pa pc b, e = .returned (.tuple #[.agg #[.int .i64 r.v, .string r.fn, .slice pa r.args.length pc], .bool b]) ∧ Hid (PutAns p s t.args[k] w0 X X' r (.slice pa r.args.length pc) b) := fun qv hq X hX => ih t.args[k] _ qv X ((H0.out.trans (hbw2.mono H0.out.size)).trans (hX.mono (Nat.le_trans H0.out.size hbw2.size))) ((hq.keep hbw2 (Nat.le_refl _)).keep hX (Nat.le_refl _)) hs hshk2
      have HO : Hid (∀ X, Below W2.drew.heap.size W2.drew X → Below w.heap.size w X) := fun X hX => hbw2.trans (hX.mono hbw2.size)
      obtain ⟨u, hu⟩ : ∃ u, t.args[k] = u := ⟨_, rfl⟩
      rw [hu] at K0 hcall HN
      simp only [hu] at hC
      have hk1 : (0 : Int) ≤ (k : Int) := by omega
      have hk2 : (k : Int) < (t.args.length : Int) := by omega
      clear hu hs a0 a1 a2 hF0 hF1 t0 t1 t2 s0 s1 s2 hcw hb12 hb12d hdr ih hW2 hshk2
      have hn2 : 0 < n := by omega
      have hal : Below W2.drew.heap.size W2.drew (W2.alloc (.cells #[.int .i64 0, .string ⟨#[]⟩, .slice none 0 0] 28)).drew := below_box W2.drew _
      have K1 := hC _ hal
      by_cases hc1 : pc = 1
      · have oP := HP.out.1.tail1 hc1
        rw [hplen] at oP
        have hcall' := hcall _ oP
        clear hcall oP
        go_wp2
        go_region_held3 (fun X => (X.cell? ⟨w.heap.size, 2, none⟩ = some (.slice (some ⟨ba, oa, none⟩) t.args.length c) ∧ X.cell? ⟨pb, po, none⟩ = some (.int .i64 (k : Int))) ∧ (X.cell? ⟨ba, oa + k * 3, none⟩ = some (.int .i64 u.v) ∧ X.cell? ⟨ba, oa + k * 3 + 1, none⟩ = some (.string u.fn) ∧ X.cell? ⟨ba, oa + k * 3 + 2, none⟩ = some (.slice sa u.args.length sca)) ∧ (X.cell? ⟨w.heap.size + 1, 0, none⟩ = some (.int .i64 s.v) ∧ X.cell? ⟨w.heap.size + 1, 1, none⟩ = some (.string s.fn) ∧ X.cell? ⟨w.heap.size + 1, 2, none⟩ = some (.slice sa0 s.args.length sc0))) (first | exact K0 | exact K1 | exact K3 | exact hC _ (hB3.trans ((below_box _ _).mono hB3.size)) | exact hC _ (set3_below hB3 W2.heap.size 0 _ _ _ (Nat.le_refl _)) | exact hC _ (hB3.trans ((set3_below (below_box W3 _) W3.heap.size 0 _ _ _ (Nat.le_refl _)).mono hB3.size))) (first
          | (go_at_call 19; refine (hcall' _ (Below.refl _ _)).mono ?_; rintro e W3 ⟨r, ra, rc, b3, rfl, H3⟩; have hB3 := H3.out.2.1; have K3 := hC _ hB3)
          | (go_at_call 19; refine (hcall' _ hal).mono ?_; rintro e W3 ⟨r, ra, rc, b3, rfl, H3⟩; have hB3 : Below W2.drew.heap.size W2.drew W3 := hal.trans (H3.out.2.1.mono hal.size); have K3 := hC _ hB3; have hxz : W3.heap[W2.heap.size]? = some (.cells #[.int .i64 0, .string ⟨#[]⟩, .slice none 0 0] 28 (0, 0)) := (H3.out.2.1.block W2.heap.size (by show W2.heap.size < (W2.alloc _).heap.size; simp)).trans (MapKept.heap_alloc W2 _).1; obtain ⟨⟨z0, z1, z2⟩, y0, y1, y2⟩ := box_facts hxz))
        · rename_i hHeld
          have HC : Hid _ := hC
          clear K0 hcall' K1 K3 hHeld hC hal hbw2 hplen
          obtain ⟨V, hV⟩ : ∃ V, W3.alloc (.cells #[.int .i64 r.v, .string r.fn, .slice ra r.args.length rc] 28) = V := ⟨_, rfl⟩
          have HV : Hid (V.heap[W3.heap.size]? = some (.cells #[.int .i64 r.v, .string r.fn, .slice ra r.args.length rc] 28 (0, 0)) ∧ Below W2.drew.heap.size W2.drew V ∧ ArgsP (fun b => b < w0.heap.size ∨ w.heap.size + 3 ≤ b) V (.slice ra r.args.length rc) r.args ∧ ((b3 = true ∧ T.rep p s u = some r) ∨ (b3 = false ∧ T.rep p s u = none))) := by
            rw [← hV]
            exact ⟨(MapKept.heap_alloc W3 _).1, hB3.trans ((below_box W3 _).mono hB3.size), H3.out.1.keep (below_box W3 _).size (fun b hb hlt => ⟨by have := HW2.out; rcases hb with hb | hb; exact .inl hb; exact .inr (by omega), (below_box W3 _).block b hlt⟩), H3.out.2.2⟩
          rw [hV]
          clear hV
          cases b3
          · have HF : Hid (T.rep ((k : Int) :: p) s t = none) := by
              show _ = _
              rw [HN.out]
              rcases HV.out.2.2.2 with ⟨h, _⟩ | ⟨_, h⟩
              · cases h
              · rw [h]; rfl
            obtain ⟨⟨z0, z1, z2⟩, y0, y1, y2⟩ := box_facts (HRb.out V HV.out.2.1)
            go_wp2
            refine bodyPost_ret (v := .tuple #[tval zt (.slice none 0 0), .bool false]) (by simp [results, Try.results19, go_sem, *, zt, T.v, T.fn]) rfl ⟨zt, none, 0, .inl ⟨rfl, ?_⟩⟩
            exact ⟨ArgsP.nil _ _, set3_below (HO.out _ HV.out.2.1) _ 0 _ _ _ (by omega), .inr ⟨rfl, HF.out⟩⟩
          · have HF : Hid (T.rep ((k : Int) :: p) s t = some (.mk 0 t.fn (t.args.set k r))) := by
              show _ = _
              rw [HN.out]
              rcases HV.out.2.2.2 with ⟨_, h⟩ | ⟨h, _⟩
              · rw [h]; rfl
              · cases h
            have hfn := HTb.out V HV.out.2.1
            go_wp2
            go_loopw [11] (fun i wr => ∃ j : Nat, j ≤ t.args.length ∧ i = .int .i64 j ∧ Hid (∃ vv ps, QI V (fun b => b < w0.heap.size ∨ w.heap.size + 3 ≤ b) t.fn (t.args.set k r) j vv ps wr)) (fun i _ => t.args.length - (intOf i).toNat)
            case atStart =>
              refine ⟨0, Nat.zero_le _, rfl, .slice none 0 0, [], ?_⟩
              exact QI.start V _ t.fn (t.args.set k r)
            case round =>
              obtain ⟨j, hj, rfl, vv, ps, HI⟩ := hrel
              have HQ : Hid (QI V (fun b => b < w0.heap.size ∨ w.heap.size + 3 ≤ b) t.fn (t.args.set k r) j vv ps wr) := HI
              have hB2 : Below W2.drew.heap.size W2.drew wr := HV.out.2.1.trans (HI.bel.mono HV.out.2.1.size)
              obtain ⟨⟨g0, g1⟩, _, _⟩ := HC.out wr hB2
              obtain ⟨⟨o0, o1, o2⟩, x0, x1, x2⟩ := box_facts HI.out
              have HV0 : Hid (vv.ownBlock ≠ some V.heap.size) := fun e => by have := (HI.row.lt _ e).1; omega
              clear HI
              obtain ⟨i0, hi0', hz0, hz1, hz2⟩ := info_parts Try.info28
              by_cases hlt : j < t.args.length
              · have hji : ((j : Int) < (t.args.length : Int)) := by omega
                have hj0 : (0 : Int) ≤ (j : Int) := by omega
                have HR : Hid (∀ o, (wr.alloc o).ownsRow (V.heap.size + 1) 28 3 vv j (flatT ps)) := fun o => row_below HQ.out.row (below_box wr o)
                have HX : Hid (∀ o, (wr.alloc o).heap[V.heap.size]? = some (.cells #[.int .i64 0, .string t.fn, vv] 28 (0, 0))) := fun o => ((below_box wr o).block _ (by have := HQ.out.siz; omega)).trans HQ.out.out
                have h16 := HSH.out
                by_cases hjk : j = k
                · subst hjk
                  have hxb := (HQ.out.bel.block W3.heap.size (Array.getElem?_eq_some_iff.1 HV.out.1).1).trans HV.out.1
                  obtain ⟨⟨q0, q1, q2⟩, _, _, _⟩ := box_facts hxb
                  clear hxb
                  go_wp2_with (first
                    | (at_builtin; refine wpList_append_own_at _ rfl _ _ 26 rfl (V.heap.size + 1) 28 i0 _ 3 48 Try.underlying26 hi0' hz0 hz1 hz2 rfl (by decide) _ _ _ rfl (HR.out (.cells #[.int .i64 r.v, .string r.fn, .slice ra r.args.length rc] 28)) ⟨wr.heap.size, 0, none⟩ 1 1 [.int .i64 r.v, .string r.fn, .slice ra r.args.length rc] rfl rfl (fun j x hj => by { rw [Addr.add_mid, Nat.zero_add, cell_of_row _ _ _ _ 28 (0, 0) (MapKept.heap_alloc wr _).1]; simpa using hj }) (by { intro x hx; simp only [List.mem_cons, List.not_mem_nil, or_false] at hx; rcases hx with rfl | rfl | rfl <;> rfl }) (by unfold maxLen; omega) (by omega) (by { have := HQ.out.siz; simp; omega }) ?_; intro v6 w6 hrow6 hg6 _ _; obtain ⟨a6, c6, rfl⟩ := row_slice hrow6; have hb66 := (hg6.block V.heap.size (Array.getElem?_eq_some_iff.1 (HX.out _)).1 (fun h => HV0.out h.symm)).trans (HX.out _); have hc6 : w6.cell? ⟨V.heap.size, 2, none⟩ = some vv := by { rw [cell_of_row _ _ _ #[Value.int .i64 0, .string t.fn, vv] 28 (0, 0) hb66]; rfl }; have hf6 : w6.frozen? ⟨V.heap.size, 2, none⟩ = false := by { simp [World.frozen?, hb66] }))
                  have HE2 : Hid (QI V (fun b => b < w0.heap.size ∨ w.heap.size + 3 ≤ b) t.fn (t.args.set j r) (j + 1) (.slice a6 (j + 1) c6) (ps ++ [(r, .slice ra r.args.length rc)]) (w6.setCell ⟨V.heap.size, 2, none⟩ (.slice a6 (j + 1) c6))) := HQ.out.push (by simpa using hlt) r (by simp) _ HV.out.2.2.1 _ w6 (below_box wr _) _ hrow6 hg6
                  go_roundw
                  case rel => exact ⟨j + 1, by omega, by go_num, _, _, HE2.out⟩
                  case measure => simp [intOf]; omega
                · have ejk : ((j : Int) == (k : Int)) = false := by rw [beq_eq_false_iff_ne]; omega
                  obtain ⟨b5, o5, s5, e5, hbl, c0, c1, c2, hs5⟩ := HP.out.2.1.nth hlt
                  cases e5
                  obtain ⟨a5, c5, rfl, _⟩ := hs5.slice
                  have hBw0 : Below w0.heap.size w0 wr := H0.out.trans ((HO.out wr hB2).mono H0.out.size)
                  replace c0 := kc hBw0 hbl c0
                  replace c1 := kc hBw0 hbl c1
                  replace c2 := kc hBw0 hbl c2
                  have hA5 : ArgsP (fun b => b < w0.heap.size ∨ w.heap.size + 3 ≤ b) V (.slice a5 t.args[j].args.length c5) t.args[j].args := by
                    have hb := H0.out.trans ((HO.out V HV.out.2.1).mono H0.out.size)
                    exact hs5.belowP.keep hb.size (fun b hb' _ => ⟨.inl hb', hb.block b hb'⟩)
                  have hset : (t.args.set k r)[j]'(by simpa using hlt) = t.args[j] := by rw [List.getElem_set_ne (by omega)]
                  have HS5 : Hid (ArgsP (fun b => b < w0.heap.size ∨ w.heap.size + 3 ≤ b) V (.slice a5 t.args[j].args.length c5) t.args[j].args ∧ (t.args.set k r)[j]'(by simpa using hlt) = t.args[j]) := ⟨hA5, hset⟩
                  obtain ⟨q, hq⟩ : ∃ q, t.args[j] = q := ⟨_, rfl⟩
                  rw [hq] at c0 c1 c2 HS5
                  have o2d : wr.drew.cell? ⟨V.heap.size, 2, none⟩ = some vv := o2
                  have o2a : ∀ o, (wr.alloc o).drew.cell? ⟨V.heap.size, 2, none⟩ = some vv := fun o => kc (below_box wr o) (World.block_lt_of_cell? wr _ o2) o2
                  have HRd : Hid (∀ o, (wr.alloc o).drew.ownsRow (V.heap.size + 1) 28 3 vv j (flatT ps)) := fun o => row_below (row_below HQ.out.row (below_box wr o)) (Below.refl _ _).drew
                  have HXd : Hid (∀ o, (wr.alloc o).drew.heap[V.heap.size]? = some (.cells #[.int .i64 0, .string t.fn, vv] 28 (0, 0))) := fun o => ((below_box wr o).block _ (by have := HQ.out.siz; omega)).trans HQ.out.out
                  have g0d : wr.drew.cell? ⟨w.heap.size, 2, none⟩ = _ := g0
                  have c0d : wr.drew.cell? _ = _ := c0
                  have c1d : wr.drew.cell? _ = _ := c1
                  have c2d : wr.drew.cell? _ = _ := c2
                  clear hq hs5 hA5 hset hBw0
                  go_wp2
                  clear o2 g1 o0 o1 x0 x1 hfn g0 c0 c1 c2
                  go_region_law (first
                    | (refine step_append_own _ rfl (.tmp 69) (.tmp 75) 26 rfl (V.heap.size + 1) 28 i0 _ 3 48 Try.underlying26 hi0' hz0 hz1 hz2 rfl (by decide) vv j (flatT ps) rfl (HRd.out _) ⟨wr.heap.size, 0, none⟩ 1 1 [.int .i64 q.v, .string q.fn, .slice a5 q.args.length c5] rfl rfl (fun j x hj => by { show (wr.alloc _).cell? _ = _; rw [Addr.add_mid, Nat.zero_add, cell_of_row _ _ _ _ 28 (0, 0) (MapKept.heap_alloc wr _).1]; simpa using hj }) (by { intro x hx; simp only [List.mem_cons, List.not_mem_nil, or_false] at hx; rcases hx with rfl | rfl | rfl <;> rfl }) (by unfold maxLen; omega) (by omega) (by { have := HQ.out.siz; simp; omega }) ?_; intro v6 w6 hrow6 hg6 _; obtain ⟨a6, c6, rfl⟩ := row_slice hrow6; have hb66 := (hg6.block V.heap.size (Array.getElem?_eq_some_iff.1 (HXd.out _)).1 (fun h => HV0.out h.symm)).trans (HXd.out _); have hc6 : w6.cell? ⟨V.heap.size, 2, none⟩ = some vv := by { rw [cell_of_row _ _ _ #[Value.int .i64 0, .string t.fn, vv] 28 (0, 0) hb66]; rfl }; have hf6 : w6.frozen? ⟨V.heap.size, 2, none⟩ = false := by { simp [World.frozen?, hb66] })
                    | go_simp)
                  all_goals (
                    have HE2 : Hid (QI V (fun b => b < w0.heap.size ∨ w.heap.size + 3 ≤ b) t.fn (t.args.set k r) (j + 1) (.slice a6 (j + 1) c6) (ps ++ [(q, .slice a5 q.args.length c5)]) (w6.setCell ⟨V.heap.size, 2, none⟩ (.slice a6 (j + 1) c6))) := HQ.out.push (by simpa using hlt) q HS5.out.2 _ HS5.out.1 _ w6 (below_box wr _).drew _ hrow6 hg6
                    go_wp2
                    go_roundw
                    case rel => exact ⟨j + 1, by omega, by go_num, _, _, HE2.out⟩
                    case measure => simp [intOf]; omega)
              · have hje : j = t.args.length := by omega
                subst hje
                obtain ⟨av, cv, rfl⟩ := row_slice HQ.out.row
                have hRw := HRb.out wr hB2
                obtain ⟨⟨d0, d1, d2⟩, u0, u1, u2⟩ := box_facts hRw
                have hVs : w.heap.size + 3 ≤ V.heap.size := Nat.le_trans HW2.out HV.out.2.1.size
                have HA : Hid (ArgsP (fun b => b < w0.heap.size ∨ w.heap.size + 3 ≤ b) (set3 wr (w.heap.size + 1 + 1) 0 (.int .i64 0) (.string t.fn) (.slice av t.args.length cv)) (.slice av t.args.length cv) (t.args.set k r)) := by
                  have hl : (t.args.set k r).length = t.args.length := by simp
                  have hq := HQ.out
                  rw [← hl] at hq
                  have := hq.last (w.heap.size + 1 + 1) (by omega) (fun b hb => .inr (by omega)) (fun b hb => by have := H0.out.size; rcases hb with hb | hb <;> omega)
                  rw [hl] at this
                  exact this
                have HBl : Hid (Below w.heap.size w wr) := HO.out wr hB2
                clear hRw
                go_wp2
                refine bodyPost_ret (v := .tuple #[tval (.mk 0 t.fn (t.args.set k r)) (.slice av t.args.length cv), .bool true]) (by simp [results, Try.results19, go_sem, *, T.v, T.fn]) rfl ⟨.mk 0 t.fn (t.args.set k r), av, cv, true, by simp [T.args, T.fn], ?_⟩
                refine ⟨?_, set3_below HBl.out _ 0 _ _ _ (by omega), .inl ⟨rfl, HF.out⟩⟩
                simp only [T.args, List.length_set]
                exact HA.out.keep (Nat.le_refl _) (fun b hb _ => ⟨by rcases hb with hb | hb; exact .inl hb; exact .inr (by omega), rfl⟩)
        · rename_i hHeld
          have HC : Hid _ := hC
          clear K0 hcall' K1 K3 hHeld hC hal hbw2 hplen
          obtain ⟨V, hV⟩ : ∃ V, ((W3.setCell ⟨W2.heap.size, 0, none⟩ (.int .i64 r.v)).setCell ⟨W2.heap.size, 1, none⟩ (.string r.fn)).setCell ⟨W2.heap.size, 2, none⟩ (.slice ra r.args.length rc) = V := ⟨_, rfl⟩
          have HV : Hid (V.heap[W2.heap.size]? = some (.cells #[.int .i64 r.v, .string r.fn, .slice ra r.args.length rc] 28 (0, 0)) ∧ Below W2.drew.heap.size W2.drew V ∧ ArgsP (fun b => b < w0.heap.size ∨ w.heap.size + 3 ≤ b) V (.slice ra r.args.length rc) r.args ∧ ((b3 = true ∧ T.rep p s u = some r) ∨ (b3 = false ∧ T.rep p s u = none))) := by
            rw [← hV]
            exact ⟨set3_same hxz, set3_below hB3 W2.heap.size 0 _ _ _ (Nat.le_refl _), H3.out.1.keep (by rw [set3_size]; exact Nat.le_refl _) (fun b hb hlt => by { have h9 := HW2.out; have h8 : b < w0.heap.size ∨ W2.heap.size + 1 ≤ b := (by rcases hb with hb | hb; exact .inl hb; exact .inr (by have : (W2.alloc (.cells #[.int .i64 0, .string ⟨#[]⟩, .slice none 0 0] 28)).heap.size ≤ b := hb; simpa using this)); have h7 := H0.out.size; have h6 : w.heap.size + 3 ≤ W2.heap.size := h9; exact ⟨by rcases h8 with h | h; exact .inl h; exact .inr (by omega), set3_other _ _ _ _ _ _ b (by rcases h8 with h | h <;> omega)⟩ }), H3.out.2.2⟩
          rw [hV]
          clear hV
          cases b3
          · have HF : Hid (T.rep ((k : Int) :: p) s t = none) := by
              show _ = _
              rw [HN.out]
              rcases HV.out.2.2.2 with ⟨h, _⟩ | ⟨_, h⟩
              · cases h
              · rw [h]; rfl
            obtain ⟨⟨z0, z1, z2⟩, y0, y1, y2⟩ := box_facts (HRb.out V HV.out.2.1)
            go_wp2
            refine bodyPost_ret (v := .tuple #[tval zt (.slice none 0 0), .bool false]) (by simp [results, Try.results19, go_sem, *, zt, T.v, T.fn]) rfl ⟨zt, none, 0, .inl ⟨rfl, ?_⟩⟩
            exact ⟨ArgsP.nil _ _, set3_below (HO.out _ HV.out.2.1) _ 0 _ _ _ (by omega), .inr ⟨rfl, HF.out⟩⟩
          · have HF : Hid (T.rep ((k : Int) :: p) s t = some (.mk 0 t.fn (t.args.set k r))) := by
              show _ = _
              rw [HN.out]
              rcases HV.out.2.2.2 with ⟨_, h⟩ | ⟨h, _⟩
              · rw [h]; rfl
              · cases h
            have hfn := HTb.out V HV.out.2.1
            go_wp2
            go_loopw [11] (fun i wr => ∃ j : Nat, j ≤ t.args.length ∧ i = .int .i64 j ∧ Hid (∃ vv ps, QI V (fun b => b < w0.heap.size ∨ w.heap.size + 3 ≤ b) t.fn (t.args.set k r) j vv ps wr)) (fun i _ => t.args.length - (intOf i).toNat)
            case atStart =>
              refine ⟨0, Nat.zero_le _, rfl, .slice none 0 0, [], ?_⟩
              exact QI.start V _ t.fn (t.args.set k r)
            case round =>
              obtain ⟨j, hj, rfl, vv, ps, HI⟩ := hrel
              have HQ : Hid (QI V (fun b => b < w0.heap.size ∨ w.heap.size + 3 ≤ b) t.fn (t.args.set k r) j vv ps wr) := HI
              have hB2 : Below W2.drew.heap.size W2.drew wr := HV.out.2.1.trans (HI.bel.mono HV.out.2.1.size)
              obtain ⟨⟨g0, g1⟩, _, _⟩ := HC.out wr hB2
              obtain ⟨⟨o0, o1, o2⟩, x0, x1, x2⟩ := box_facts HI.out
              have HV0 : Hid (vv.ownBlock ≠ some V.heap.size) := fun e => by have := (HI.row.lt _ e).1; omega
              clear HI
              obtain ⟨i0, hi0', hz0, hz1, hz2⟩ := info_parts Try.info28
              by_cases hlt : j < t.args.length
              · have hji : ((j : Int) < (t.args.length : Int)) := by omega
                have hj0 : (0 : Int) ≤ (j : Int) := by omega
                have HR : Hid (∀ o, (wr.alloc o).ownsRow (V.heap.size + 1) 28 3 vv j (flatT ps)) := fun o => row_below HQ.out.row (below_box wr o)
                have HX : Hid (∀ o, (wr.alloc o).heap[V.heap.size]? = some (.cells #[.int .i64 0, .string t.fn, vv] 28 (0, 0))) := fun o => ((below_box wr o).block _ (by have := HQ.out.siz; omega)).trans HQ.out.out
                have h16 := HSH.out
                by_cases hjk : j = k
                · subst hjk
                  have hxb := (HQ.out.bel.block W2.heap.size (Array.getElem?_eq_some_iff.1 HV.out.1).1).trans HV.out.1
                  obtain ⟨⟨q0, q1, q2⟩, _, _, _⟩ := box_facts hxb
                  clear hxb
                  go_wp2_with (first
                    | (at_builtin; refine wpList_append_own_at _ rfl _ _ 26 rfl (V.heap.size + 1) 28 i0 _ 3 48 Try.underlying26 hi0' hz0 hz1 hz2 rfl (by decide) _ _ _ rfl (HR.out (.cells #[.int .i64 r.v, .string r.fn, .slice ra r.args.length rc] 28)) ⟨wr.heap.size, 0, none⟩ 1 1 [.int .i64 r.v, .string r.fn, .slice ra r.args.length rc] rfl rfl (fun j x hj => by { rw [Addr.add_mid, Nat.zero_add, cell_of_row _ _ _ _ 28 (0, 0) (MapKept.heap_alloc wr _).1]; simpa using hj }) (by { intro x hx; simp only [List.mem_cons, List.not_mem_nil, or_false] at hx; rcases hx with rfl | rfl | rfl <;> rfl }) (by unfold maxLen; omega) (by omega) (by { have := HQ.out.siz; simp; omega }) ?_; intro v6 w6 hrow6 hg6 _ _; obtain ⟨a6, c6, rfl⟩ := row_slice hrow6; have hb66 := (hg6.block V.heap.size (Array.getElem?_eq_some_iff.1 (HX.out _)).1 (fun h => HV0.out h.symm)).trans (HX.out _); have hc6 : w6.cell? ⟨V.heap.size, 2, none⟩ = some vv := by { rw [cell_of_row _ _ _ #[Value.int .i64 0, .string t.fn, vv] 28 (0, 0) hb66]; rfl }; have hf6 : w6.frozen? ⟨V.heap.size, 2, none⟩ = false := by { simp [World.frozen?, hb66] }))
                  have HE2 : Hid (QI V (fun b => b < w0.heap.size ∨ w.heap.size + 3 ≤ b) t.fn (t.args.set j r) (j + 1) (.slice a6 (j + 1) c6) (ps ++ [(r, .slice ra r.args.length rc)]) (w6.setCell ⟨V.heap.size, 2, none⟩ (.slice a6 (j + 1) c6))) := HQ.out.push (by simpa using hlt) r (by simp) _ HV.out.2.2.1 _ w6 (below_box wr _) _ hrow6 hg6
                  go_roundw
                  case rel => exact ⟨j + 1, by omega, by go_num, _, _, HE2.out⟩
                  case measure => simp [intOf]; omega
                · have ejk : ((j : Int) == (k : Int)) = false := by rw [beq_eq_false_iff_ne]; omega
                  obtain ⟨b5, o5, s5, e5, hbl, c0, c1, c2, hs5⟩ := HP.out.2.1.nth hlt
                  cases e5
                  obtain ⟨a5, c5, rfl, _⟩ := hs5.slice
                  have hBw0 : Below w0.heap.size w0 wr := H0.out.trans ((HO.out wr hB2).mono H0.out.size)
                  replace c0 := kc hBw0 hbl c0
                  replace c1 := kc hBw0 hbl c1
                  replace c2 := kc hBw0 hbl c2
                  have hA5 : ArgsP (fun b => b < w0.heap.size ∨ w.heap.size + 3 ≤ b) V (.slice a5 t.args[j].args.length c5) t.args[j].args := by
                    have hb := H0.out.trans ((HO.out V HV.out.2.1).mono H0.out.size)
                    exact hs5.belowP.keep hb.size (fun b hb' _ => ⟨.inl hb', hb.block b hb'⟩)
                  have hset : (t.args.set k r)[j]'(by simpa using hlt) = t.args[j] := by rw [List.getElem_set_ne (by omega)]
                  have HS5 : Hid (ArgsP (fun b => b < w0.heap.size ∨ w.heap.size + 3 ≤ b) V (.slice a5 t.args[j].args.length c5) t.args[j].args ∧ (t.args.set k r)[j]'(by simpa using hlt) = t.args[j]) := ⟨hA5, hset⟩
                  obtain ⟨q, hq⟩ : ∃ q, t.args[j] = q := ⟨_, rfl⟩
                  rw [hq] at c0 c1 c2 HS5
                  have o2d : wr.drew.cell? ⟨V.heap.size, 2, none⟩ = some vv := o2
                  have o2a : ∀ o, (wr.alloc o).drew.cell? ⟨V.heap.size, 2, none⟩ = some vv := fun o => kc (below_box wr o) (World.block_lt_of_cell? wr _ o2) o2
                  have HRd : Hid (∀ o, (wr.alloc o).drew.ownsRow (V.heap.size + 1) 28 3 vv j (flatT ps)) := fun o => row_below (row_below HQ.out.row (below_box wr o)) (Below.refl _ _).drew
                  have HXd : Hid (∀ o, (wr.alloc o).drew.heap[V.heap.size]? = some (.cells #[.int .i64 0, .string t.fn, vv] 28 (0, 0))) := fun o => ((below_box wr o).block _ (by have := HQ.out.siz; omega)).trans HQ.out.out
                  have g0d : wr.drew.cell? ⟨w.heap.size, 2, none⟩ = _ := g0
                  have c0d : wr.drew.cell? _ = _ := c0
                  have c1d : wr.drew.cell? _ = _ := c1
                  have c2d : wr.drew.cell? _ = _ := c2
                  clear hq hs5 hA5 hset hBw0
                  go_wp2
                  clear o2 g1 o0 o1 x0 x1 hfn g0 c0 c1 c2
                  go_region_law (first
                    | (refine step_append_own _ rfl (.tmp 69) (.tmp 75) 26 rfl (V.heap.size + 1) 28 i0 _ 3 48 Try.underlying26 hi0' hz0 hz1 hz2 rfl (by decide) vv j (flatT ps) rfl (HRd.out _) ⟨wr.heap.size, 0, none⟩ 1 1 [.int .i64 q.v, .string q.fn, .slice a5 q.args.length c5] rfl rfl (fun j x hj => by { show (wr.alloc _).cell? _ = _; rw [Addr.add_mid, Nat.zero_add, cell_of_row _ _ _ _ 28 (0, 0) (MapKept.heap_alloc wr _).1]; simpa using hj }) (by { intro x hx; simp only [List.mem_cons, List.not_mem_nil, or_false] at hx; rcases hx with rfl | rfl | rfl <;> rfl }) (by unfold maxLen; omega) (by omega) (by { have := HQ.out.siz; simp; omega }) ?_; intro v6 w6 hrow6 hg6 _; obtain ⟨a6, c6, rfl⟩ := row_slice hrow6; have hb66 := (hg6.block V.heap.size (Array.getElem?_eq_some_iff.1 (HXd.out _)).1 (fun h => HV0.out h.symm)).trans (HXd.out _); have hc6 : w6.cell? ⟨V.heap.size, 2, none⟩ = some vv := by { rw [cell_of_row _ _ _ #[Value.int .i64 0, .string t.fn, vv] 28 (0, 0) hb66]; rfl }; have hf6 : w6.frozen? ⟨V.heap.size, 2, none⟩ = false := by { simp [World.frozen?, hb66] })
                    | go_simp)
                  all_goals (
                    have HE2 : Hid (QI V (fun b => b < w0.heap.size ∨ w.heap.size + 3 ≤ b) t.fn (t.args.set k r) (j + 1) (.slice a6 (j + 1) c6) (ps ++ [(q, .slice a5 q.args.length c5)]) (w6.setCell ⟨V.heap.size, 2, none⟩ (.slice a6 (j + 1) c6))) := HQ.out.push (by simpa using hlt) q HS5.out.2 _ HS5.out.1 _ w6 (below_box wr _).drew _ hrow6 hg6
                    go_wp2
                    go_roundw
                    case rel => exact ⟨j + 1, by omega, by go_num, _, _, HE2.out⟩
                    case measure => simp [intOf]; omega)
              · have hje : j = t.args.length := by omega
                subst hje
                obtain ⟨av, cv, rfl⟩ := row_slice HQ.out.row
                have hRw := HRb.out wr hB2
                obtain ⟨⟨d0, d1, d2⟩, u0, u1, u2⟩ := box_facts hRw
                have hVs : w.heap.size + 3 ≤ V.heap.size := Nat.le_trans HW2.out HV.out.2.1.size
                have HA : Hid (ArgsP (fun b => b < w0.heap.size ∨ w.heap.size + 3 ≤ b) (set3 wr (w.heap.size + 1 + 1) 0 (.int .i64 0) (.string t.fn) (.slice av t.args.length cv)) (.slice av t.args.length cv) (t.args.set k r)) := by
                  have hl : (t.args.set k r).length = t.args.length := by simp
                  have hq := HQ.out
                  rw [← hl] at hq
                  have := hq.last (w.heap.size + 1 + 1) (by omega) (fun b hb => .inr (by omega)) (fun b hb => by have := H0.out.size; rcases hb with hb | hb <;> omega)
                  rw [hl] at this
                  exact this
                have HBl : Hid (Below w.heap.size w wr) := HO.out wr hB2
                clear hRw
                go_wp2
                refine bodyPost_ret (v := .tuple #[tval (.mk 0 t.fn (t.args.set k r)) (.slice av t.args.length cv), .bool true]) (by simp [results, Try.results19, go_sem, *, T.v, T.fn]) rfl ⟨.mk 0 t.fn (t.args.set k r), av, cv, true, by simp [T.args, T.fn], ?_⟩
                refine ⟨?_, set3_below HBl.out _ 0 _ _ _ (by omega), .inl ⟨rfl, HF.out⟩⟩
                simp only [T.args, List.length_set]
                exact HA.out.keep (Nat.le_refl _) (fun b hb _ => ⟨by rcases hb with hb | hb; exact .inl hb; exact .inr (by omega), rfl⟩)
      · have oP := HP.out.1.tail
        simp only [Option.map_some, addr_add] at oP
        rw [hplen] at oP
        have hcall' := hcall _ oP
        clear hcall oP
        go_wp2
        go_region_held3 (fun X => (X.cell? ⟨w.heap.size, 2, none⟩ = some (.slice (some ⟨ba, oa, none⟩) t.args.length c) ∧ X.cell? ⟨pb, po, none⟩ = some (.int .i64 (k : Int))) ∧ (X.cell? ⟨ba, oa + k * 3, none⟩ = some (.int .i64 u.v) ∧ X.cell? ⟨ba, oa + k * 3 + 1, none⟩ = some (.string u.fn) ∧ X.cell? ⟨ba, oa + k * 3 + 2, none⟩ = some (.slice sa u.args.length sca)) ∧ (X.cell? ⟨w.heap.size + 1, 0, none⟩ = some (.int .i64 s.v) ∧ X.cell? ⟨w.heap.size + 1, 1, none⟩ = some (.string s.fn) ∧ X.cell? ⟨w.heap.size + 1, 2, none⟩ = some (.slice sa0 s.args.length sc0))) (first | exact K0 | exact K1 | exact K3 | exact hC _ (hB3.trans ((below_box _ _).mono hB3.size)) | exact hC _ (set3_below hB3 W2.heap.size 0 _ _ _ (Nat.le_refl _)) | exact hC _ (hB3.trans ((set3_below (below_box W3 _) W3.heap.size 0 _ _ _ (Nat.le_refl _)).mono hB3.size))) (first
          | (go_at_call 19; refine (hcall' _ (Below.refl _ _)).mono ?_; rintro e W3 ⟨r, ra, rc, b3, rfl, H3⟩; have hB3 := H3.out.2.1; have K3 := hC _ hB3)
          | (go_at_call 19; refine (hcall' _ hal).mono ?_; rintro e W3 ⟨r, ra, rc, b3, rfl, H3⟩; have hB3 : Below W2.drew.heap.size W2.drew W3 := hal.trans (H3.out.2.1.mono hal.size); have K3 := hC _ hB3; have hxz : W3.heap[W2.heap.size]? = some (.cells #[.int .i64 0, .string ⟨#[]⟩, .slice none 0 0] 28 (0, 0)) := (H3.out.2.1.block W2.heap.size (by show W2.heap.size < (W2.alloc _).heap.size; simp)).trans (MapKept.heap_alloc W2 _).1; obtain ⟨⟨z0, z1, z2⟩, y0, y1, y2⟩ := box_facts hxz))
        · rename_i hHeld
          have HC : Hid _ := hC
          clear K0 hcall' K1 K3 hHeld hC hal hbw2 hplen
          obtain ⟨V, hV⟩ : ∃ V, W3.alloc (.cells #[.int .i64 r.v, .string r.fn, .slice ra r.args.length rc] 28) = V := ⟨_, rfl⟩
          have HV : Hid (V.heap[W3.heap.size]? = some (.cells #[.int .i64 r.v, .string r.fn, .slice ra r.args.length rc] 28 (0, 0)) ∧ Below W2.drew.heap.size W2.drew V ∧ ArgsP (fun b => b < w0.heap.size ∨ w.heap.size + 3 ≤ b) V (.slice ra r.args.length rc) r.args ∧ ((b3 = true ∧ T.rep p s u = some r) ∨ (b3 = false ∧ T.rep p s u = none))) := by
            rw [← hV]
            exact ⟨(MapKept.heap_alloc W3 _).1, hB3.trans ((below_box W3 _).mono hB3.size), H3.out.1.keep (below_box W3 _).size (fun b hb hlt => ⟨by have := HW2.out; rcases hb with hb | hb; exact .inl hb; exact .inr (by omega), (below_box W3 _).block b hlt⟩), H3.out.2.2⟩
          rw [hV]
          clear hV
          cases b3
          · have HF : Hid (T.rep ((k : Int) :: p) s t = none) := by
              show _ = _
              rw [HN.out]
              rcases HV.out.2.2.2 with ⟨h, _⟩ | ⟨_, h⟩
              · cases h
              · rw [h]; rfl
            obtain ⟨⟨z0, z1, z2⟩, y0, y1, y2⟩ := box_facts (HRb.out V HV.out.2.1)
            go_wp2
            refine bodyPost_ret (v := .tuple #[tval zt (.slice none 0 0), .bool false]) (by simp [results, Try.results19, go_sem, *, zt, T.v, T.fn]) rfl ⟨zt, none, 0, .inl ⟨rfl, ?_⟩⟩
            exact ⟨ArgsP.nil _ _, set3_below (HO.out _ HV.out.2.1) _ 0 _ _ _ (by omega), .inr ⟨rfl, HF.out⟩⟩
          · have HF : Hid (T.rep ((k : Int) :: p) s t = some (.mk 0 t.fn (t.args.set k r))) := by
              show _ = _
              rw [HN.out]
              rcases HV.out.2.2.2 with ⟨_, h⟩ | ⟨h, _⟩
              · rw [h]; rfl
              · cases h
            have hfn := HTb.out V HV.out.2.1
            go_wp2
            go_loopw [11] (fun i wr => ∃ j : Nat, j ≤ t.args.length ∧ i = .int .i64 j ∧ Hid (∃ vv ps, QI V (fun b => b < w0.heap.size ∨ w.heap.size + 3 ≤ b) t.fn (t.args.set k r) j vv ps wr)) (fun i _ => t.args.length - (intOf i).toNat)
            case atStart =>
              refine ⟨0, Nat.zero_le _, rfl, .slice none 0 0, [], ?_⟩
              exact QI.start V _ t.fn (t.args.set k r)
            case round =>
              obtain ⟨j, hj, rfl, vv, ps, HI⟩ := hrel
              have HQ : Hid (QI V (fun b => b < w0.heap.size ∨ w.heap.size + 3 ≤ b) t.fn (t.args.set k r) j vv ps wr) := HI
              have hB2 : Below W2.drew.heap.size W2.drew wr := HV.out.2.1.trans (HI.bel.mono HV.out.2.1.size)
              obtain ⟨⟨g0, g1⟩, _, _⟩ := HC.out wr hB2
              obtain ⟨⟨o0, o1, o2⟩, x0, x1, x2⟩ := box_facts HI.out
              have HV0 : Hid (vv.ownBlock ≠ some V.heap.size) := fun e => by have := (HI.row.lt _ e).1; omega
              clear HI
              obtain ⟨i0, hi0', hz0, hz1, hz2⟩ := info_parts Try.info28
              by_cases hlt : j < t.args.length
              · have hji : ((j : Int) < (t.args.length : Int)) := by omega
                have hj0 : (0 : Int) ≤ (j : Int) := by omega
                have HR : Hid (∀ o, (wr.alloc o).ownsRow (V.heap.size + 1) 28 3 vv j (flatT ps)) := fun o => row_below HQ.out.row (below_box wr o)
                have HX : Hid (∀ o, (wr.alloc o).heap[V.heap.size]? = some (.cells #[.int .i64 0, .string t.fn, vv] 28 (0, 0))) := fun o => ((below_box wr o).block _ (by have := HQ.out.siz; omega)).trans HQ.out.out
                have h16 := HSH.out
                by_cases hjk : j = k
                · subst hjk
                  have hxb := (HQ.out.bel.block W3.heap.size (Array.getElem?_eq_some_iff.1 HV.out.1).1).trans HV.out.1
                  obtain ⟨⟨q0, q1, q2⟩, _, _, _⟩ := box_facts hxb
                  clear hxb
                  go_wp2_with (first
                    | (at_builtin; refine wpList_append_own_at _ rfl _ _ 26 rfl (V.heap.size + 1) 28 i0 _ 3 48 Try.underlying26 hi0' hz0 hz1 hz2 rfl (by decide) _ _ _ rfl (HR.out (.cells #[.int .i64 r.v, .string r.fn, .slice ra r.args.length rc] 28)) ⟨wr.heap.size, 0, none⟩ 1 1 [.int .i64 r.v, .string r.fn, .slice ra r.args.length rc] rfl rfl (fun j x hj => by { rw [Addr.add_mid, Nat.zero_add, cell_of_row _ _ _ _ 28 (0, 0) (MapKept.heap_alloc wr _).1]; simpa using hj }) (by { intro x hx; simp only [List.mem_cons, List.not_mem_nil, or_false] at hx; rcases hx with rfl | rfl | rfl <;> rfl }) (by unfold maxLen; omega) (by omega) (by { have := HQ.out.siz; simp; omega }) ?_; intro v6 w6 hrow6 hg6 _ _; obtain ⟨a6, c6, rfl⟩ := row_slice hrow6; have hb66 := (hg6.block V.heap.size (Array.getElem?_eq_some_iff.1 (HX.out _)).1 (fun h => HV0.out h.symm)).trans (HX.out _); have hc6 : w6.cell? ⟨V.heap.size, 2, none⟩ = some vv := by { rw [cell_of_row _ _ _ #[Value.int .i64 0, .string t.fn, vv] 28 (0, 0) hb66]; rfl }; have hf6 : w6.frozen? ⟨V.heap.size, 2, none⟩ = false := by { simp [World.frozen?, hb66] }))
                  have HE2 : Hid (QI V (fun b => b < w0.heap.size ∨ w.heap.size + 3 ≤ b) t.fn (t.args.set j r) (j + 1) (.slice a6 (j + 1) c6) (ps ++ [(r, .slice ra r.args.length rc)]) (w6.setCell ⟨V.heap.size, 2, none⟩ (.slice a6 (j + 1) c6))) := HQ.out.push (by simpa using hlt) r (by simp) _ HV.out.2.2.1 _ w6 (below_box wr _) _ hrow6 hg6
                  go_roundw
                  case rel => exact ⟨j + 1, by omega, by go_num, _, _, HE2.out⟩
                  case measure => simp [intOf]; omega
                · have ejk : ((j : Int) == (k : Int)) = false := by rw [beq_eq_false_iff_ne]; omega
                  obtain ⟨b5, o5, s5, e5, hbl, c0, c1, c2, hs5⟩ := HP.out.2.1.nth hlt
                  cases e5
                  obtain ⟨a5, c5, rfl, _⟩ := hs5.slice
                  have hBw0 : Below w0.heap.size w0 wr := H0.out.trans ((HO.out wr hB2).mono H0.out.size)
                  replace c0 := kc hBw0 hbl c0
                  replace c1 := kc hBw0 hbl c1
                  replace c2 := kc hBw0 hbl c2
                  have hA5 : ArgsP (fun b => b < w0.heap.size ∨ w.heap.size + 3 ≤ b) V (.slice a5 t.args[j].args.length c5) t.args[j].args := by
                    have hb := H0.out.trans ((HO.out V HV.out.2.1).mono H0.out.size)
                    exact hs5.belowP.keep hb.size (fun b hb' _ => ⟨.inl hb', hb.block b hb'⟩)
                  have hset : (t.args.set k r)[j]'(by simpa using hlt) = t.args[j] := by rw [List.getElem_set_ne (by omega)]
                  have HS5 : Hid (ArgsP (fun b => b < w0.heap.size ∨ w.heap.size + 3 ≤ b) V (.slice a5 t.args[j].args.length c5) t.args[j].args ∧ (t.args.set k r)[j]'(by simpa using hlt) = t.args[j]) := ⟨hA5, hset⟩
                  obtain ⟨q, hq⟩ : ∃ q, t.args[j] = q := ⟨_, rfl⟩
                  rw [hq] at c0 c1 c2 HS5
                  have o2d : wr.drew.cell? ⟨V.heap.size, 2, none⟩ = some vv := o2
                  have o2a : ∀ o, (wr.alloc o).drew.cell? ⟨V.heap.size, 2, none⟩ = some vv := fun o => kc (below_box wr o) (World.block_lt_of_cell? wr _ o2) o2
                  have HRd : Hid (∀ o, (wr.alloc o).drew.ownsRow (V.heap.size + 1) 28 3 vv j (flatT ps)) := fun o => row_below (row_below HQ.out.row (below_box wr o)) (Below.refl _ _).drew
                  have HXd : Hid (∀ o, (wr.alloc o).drew.heap[V.heap.size]? = some (.cells #[.int .i64 0, .string t.fn, vv] 28 (0, 0))) := fun o => ((below_box wr o).block _ (by have := HQ.out.siz; omega)).trans HQ.out.out
                  have g0d : wr.drew.cell? ⟨w.heap.size, 2, none⟩ = _ := g0
                  have c0d : wr.drew.cell? _ = _ := c0
                  have c1d : wr.drew.cell? _ = _ := c1
                  have c2d : wr.drew.cell? _ = _ := c2
                  clear hq hs5 hA5 hset hBw0
                  go_wp2
                  clear o2 g1 o0 o1 x0 x1 hfn g0 c0 c1 c2
                  go_region_law (first
                    | (refine step_append_own _ rfl (.tmp 69) (.tmp 75) 26 rfl (V.heap.size + 1) 28 i0 _ 3 48 Try.underlying26 hi0' hz0 hz1 hz2 rfl (by decide) vv j (flatT ps) rfl (HRd.out _) ⟨wr.heap.size, 0, none⟩ 1 1 [.int .i64 q.v, .string q.fn, .slice a5 q.args.length c5] rfl rfl (fun j x hj => by { show (wr.alloc _).cell? _ = _; rw [Addr.add_mid, Nat.zero_add, cell_of_row _ _ _ _ 28 (0, 0) (MapKept.heap_alloc wr _).1]; simpa using hj }) (by { intro x hx; simp only [List.mem_cons, List.not_mem_nil, or_false] at hx; rcases hx with rfl | rfl | rfl <;> rfl }) (by unfold maxLen; omega) (by omega) (by { have := HQ.out.siz; simp; omega }) ?_; intro v6 w6 hrow6 hg6 _; obtain ⟨a6, c6, rfl⟩ := row_slice hrow6; have hb66 := (hg6.block V.heap.size (Array.getElem?_eq_some_iff.1 (HXd.out _)).1 (fun h => HV0.out h.symm)).trans (HXd.out _); have hc6 : w6.cell? ⟨V.heap.size, 2, none⟩ = some vv := by { rw [cell_of_row _ _ _ #[Value.int .i64 0, .string t.fn, vv] 28 (0, 0) hb66]; rfl }; have hf6 : w6.frozen? ⟨V.heap.size, 2, none⟩ = false := by { simp [World.frozen?, hb66] })
                    | go_simp)
                  all_goals (
                    have HE2 : Hid (QI V (fun b => b < w0.heap.size ∨ w.heap.size + 3 ≤ b) t.fn (t.args.set k r) (j + 1) (.slice a6 (j + 1) c6) (ps ++ [(q, .slice a5 q.args.length c5)]) (w6.setCell ⟨V.heap.size, 2, none⟩ (.slice a6 (j + 1) c6))) := HQ.out.push (by simpa using hlt) q HS5.out.2 _ HS5.out.1 _ w6 (below_box wr _).drew _ hrow6 hg6
                    go_wp2
                    go_roundw
                    case rel => exact ⟨j + 1, by omega, by go_num, _, _, HE2.out⟩
                    case measure => simp [intOf]; omega)
              · have hje : j = t.args.length := by omega
                subst hje
                obtain ⟨av, cv, rfl⟩ := row_slice HQ.out.row
                have hRw := HRb.out wr hB2
                obtain ⟨⟨d0, d1, d2⟩, u0, u1, u2⟩ := box_facts hRw
                have hVs : w.heap.size + 3 ≤ V.heap.size := Nat.le_trans HW2.out HV.out.2.1.size
                have HA : Hid (ArgsP (fun b => b < w0.heap.size ∨ w.heap.size + 3 ≤ b) (set3 wr (w.heap.size + 1 + 1) 0 (.int .i64 0) (.string t.fn) (.slice av t.args.length cv)) (.slice av t.args.length cv) (t.args.set k r)) := by
                  have hl : (t.args.set k r).length = t.args.length := by simp
                  have hq := HQ.out
                  rw [← hl] at hq
                  have := hq.last (w.heap.size + 1 + 1) (by omega) (fun b hb => .inr (by omega)) (fun b hb => by have := H0.out.size; rcases hb with hb | hb <;> omega)
                  rw [hl] at this
                  exact this
                have HBl : Hid (Below w.heap.size w wr) := HO.out wr hB2
                clear hRw
                go_wp2
                refine bodyPost_ret (v := .tuple #[tval (.mk 0 t.fn (t.args.set k r)) (.slice av t.args.length cv), .bool true]) (by simp [results, Try.results19, go_sem, *, T.v, T.fn]) rfl ⟨.mk 0 t.fn (t.args.set k r), av, cv, true, by simp [T.args, T.fn], ?_⟩
                refine ⟨?_, set3_below HBl.out _ 0 _ _ _ (by omega), .inl ⟨rfl, HF.out⟩⟩
                simp only [T.args, List.length_set]
                exact HA.out.keep (Nat.le_refl _) (fun b hb _ => ⟨by rcases hb with hb | hb; exact .inl hb; exact .inr (by omega), rfl⟩)
        · rename_i hHeld
          have HC : Hid _ := hC
          clear K0 hcall' K1 K3 hHeld hC hal hbw2 hplen
          obtain ⟨V, hV⟩ : ∃ V, ((W3.setCell ⟨W2.heap.size, 0, none⟩ (.int .i64 r.v)).setCell ⟨W2.heap.size, 1, none⟩ (.string r.fn)).setCell ⟨W2.heap.size, 2, none⟩ (.slice ra r.args.length rc) = V := ⟨_, rfl⟩
          have HV : Hid (V.heap[W2.heap.size]? = some (.cells #[.int .i64 r.v, .string r.fn, .slice ra r.args.length rc] 28 (0, 0)) ∧ Below W2.drew.heap.size W2.drew V ∧ ArgsP (fun b => b < w0.heap.size ∨ w.heap.size + 3 ≤ b) V (.slice ra r.args.length rc) r.args ∧ ((b3 = true ∧ T.rep p s u = some r) ∨ (b3 = false ∧ T.rep p s u = none))) := by
            rw [← hV]
            exact ⟨set3_same hxz, set3_below hB3 W2.heap.size 0 _ _ _ (Nat.le_refl _), H3.out.1.keep (by rw [set3_size]; exact Nat.le_refl _) (fun b hb hlt => by { have h9 := HW2.out; have h8 : b < w0.heap.size ∨ W2.heap.size + 1 ≤ b := (by rcases hb with hb | hb; exact .inl hb; exact .inr (by have : (W2.alloc (.cells #[.int .i64 0, .string ⟨#[]⟩, .slice none 0 0] 28)).heap.size ≤ b := hb; simpa using this)); have h7 := H0.out.size; have h6 : w.heap.size + 3 ≤ W2.heap.size := h9; exact ⟨by rcases h8 with h | h; exact .inl h; exact .inr (by omega), set3_other _ _ _ _ _ _ b (by rcases h8 with h | h <;> omega)⟩ }), H3.out.2.2⟩
          rw [hV]
          clear hV
          cases b3
          · have HF : Hid (T.rep ((k : Int) :: p) s t = none) := by
              show _ = _
              rw [HN.out]
              rcases HV.out.2.2.2 with ⟨h, _⟩ | ⟨_, h⟩
              · cases h
              · rw [h]; rfl
            obtain ⟨⟨z0, z1, z2⟩, y0, y1, y2⟩ := box_facts (HRb.out V HV.out.2.1)
            go_wp2
            refine bodyPost_ret (v := .tuple #[tval zt (.slice none 0 0), .bool false]) (by simp [results, Try.results19, go_sem, *, zt, T.v, T.fn]) rfl ⟨zt, none, 0, .inl ⟨rfl, ?_⟩⟩
            exact ⟨ArgsP.nil _ _, set3_below (HO.out _ HV.out.2.1) _ 0 _ _ _ (by omega), .inr ⟨rfl, HF.out⟩⟩
          · have HF : Hid (T.rep ((k : Int) :: p) s t = some (.mk 0 t.fn (t.args.set k r))) := by
              show _ = _
              rw [HN.out]
              rcases HV.out.2.2.2 with ⟨_, h⟩ | ⟨h, _⟩
              · rw [h]; rfl
              · cases h
            have hfn := HTb.out V HV.out.2.1
            go_wp2
            go_loopw [11] (fun i wr => ∃ j : Nat, j ≤ t.args.length ∧ i = .int .i64 j ∧ Hid (∃ vv ps, QI V (fun b => b < w0.heap.size ∨ w.heap.size + 3 ≤ b) t.fn (t.args.set k r) j vv ps wr)) (fun i _ => t.args.length - (intOf i).toNat)
            case atStart =>
              refine ⟨0, Nat.zero_le _, rfl, .slice none 0 0, [], ?_⟩
              exact QI.start V _ t.fn (t.args.set k r)
            case round =>
              obtain ⟨j, hj, rfl, vv, ps, HI⟩ := hrel
              have HQ : Hid (QI V (fun b => b < w0.heap.size ∨ w.heap.size + 3 ≤ b) t.fn (t.args.set k r) j vv ps wr) := HI
              have hB2 : Below W2.drew.heap.size W2.drew wr := HV.out.2.1.trans (HI.bel.mono HV.out.2.1.size)
              obtain ⟨⟨g0, g1⟩, _, _⟩ := HC.out wr hB2
              obtain ⟨⟨o0, o1, o2⟩, x0, x1, x2⟩ := box_facts HI.out
              have HV0 : Hid (vv.ownBlock ≠ some V.heap.size) := fun e => by have := (HI.row.lt _ e).1; omega
              clear HI
              obtain ⟨i0, hi0', hz0, hz1, hz2⟩ := info_parts Try.info28
              by_cases hlt : j < t.args.length
              · have hji : ((j : Int) < (t.args.length : Int)) := by omega
                have hj0 : (0 : Int) ≤ (j : Int) := by omega
                have HR : Hid (∀ o, (wr.alloc o).ownsRow (V.heap.size + 1) 28 3 vv j (flatT ps)) := fun o => row_below HQ.out.row (below_box wr o)
                have HX : Hid (∀ o, (wr.alloc o).heap[V.heap.size]? = some (.cells #[.int .i64 0, .string t.fn, vv] 28 (0, 0))) := fun o => ((below_box wr o).block _ (by have := HQ.out.siz; omega)).trans HQ.out.out
                have h16 := HSH.out
                by_cases hjk : j = k
                · subst hjk
                  have hxb := (HQ.out.bel.block W2.heap.size (Array.getElem?_eq_some_iff.1 HV.out.1).1).trans HV.out.1
                  obtain ⟨⟨q0, q1, q2⟩, _, _, _⟩ := box_facts hxb
                  clear hxb
                  go_wp2_with (first
                    | (at_builtin; refine wpList_append_own_at _ rfl _ _ 26 rfl (V.heap.size + 1) 28 i0 _ 3 48 Try.underlying26 hi0' hz0 hz1 hz2 rfl (by decide) _ _ _ rfl (HR.out (.cells #[.int .i64 r.v, .string r.fn, .slice ra r.args.length rc] 28)) ⟨wr.heap.size, 0, none⟩ 1 1 [.int .i64 r.v, .string r.fn, .slice ra r.args.length rc] rfl rfl (fun j x hj => by { rw [Addr.add_mid, Nat.zero_add, cell_of_row _ _ _ _ 28 (0, 0) (MapKept.heap_alloc wr _).1]; simpa using hj }) (by { intro x hx; simp only [List.mem_cons, List.not_mem_nil, or_false] at hx; rcases hx with rfl | rfl | rfl <;> rfl }) (by unfold maxLen; omega) (by omega) (by { have := HQ.out.siz; simp; omega }) ?_; intro v6 w6 hrow6 hg6 _ _; obtain ⟨a6, c6, rfl⟩ := row_slice hrow6; have hb66 := (hg6.block V.heap.size (Array.getElem?_eq_some_iff.1 (HX.out _)).1 (fun h => HV0.out h.symm)).trans (HX.out _); have hc6 : w6.cell? ⟨V.heap.size, 2, none⟩ = some vv := by { rw [cell_of_row _ _ _ #[Value.int .i64 0, .string t.fn, vv] 28 (0, 0) hb66]; rfl }; have hf6 : w6.frozen? ⟨V.heap.size, 2, none⟩ = false := by { simp [World.frozen?, hb66] }))
                  have HE2 : Hid (QI V (fun b => b < w0.heap.size ∨ w.heap.size + 3 ≤ b) t.fn (t.args.set j r) (j + 1) (.slice a6 (j + 1) c6) (ps ++ [(r, .slice ra r.args.length rc)]) (w6.setCell ⟨V.heap.size, 2, none⟩ (.slice a6 (j + 1) c6))) := HQ.out.push (by simpa using hlt) r (by simp) _ HV.out.2.2.1 _ w6 (below_box wr _) _ hrow6 hg6
                  go_roundw
                  case rel => exact ⟨j + 1, by omega, by go_num, _, _, HE2.out⟩
                  case measure => simp [intOf]; omega
                · have ejk : ((j : Int) == (k : Int)) = false := by rw [beq_eq_false_iff_ne]; omega
                  obtain ⟨b5, o5, s5, e5, hbl, c0, c1, c2, hs5⟩ := HP.out.2.1.nth hlt
                  cases e5
                  obtain ⟨a5, c5, rfl, _⟩ := hs5.slice
                  have hBw0 : Below w0.heap.size w0 wr := H0.out.trans ((HO.out wr hB2).mono H0.out.size)
                  replace c0 := kc hBw0 hbl c0
                  replace c1 := kc hBw0 hbl c1
                  replace c2 := kc hBw0 hbl c2
                  have hA5 : ArgsP (fun b => b < w0.heap.size ∨ w.heap.size + 3 ≤ b) V (.slice a5 t.args[j].args.length c5) t.args[j].args := by
                    have hb := H0.out.trans ((HO.out V HV.out.2.1).mono H0.out.size)
                    exact hs5.belowP.keep hb.size (fun b hb' _ => ⟨.inl hb', hb.block b hb'⟩)
                  have hset : (t.args.set k r)[j]'(by simpa using hlt) = t.args[j] := by rw [List.getElem_set_ne (by omega)]
                  have HS5 : Hid (ArgsP (fun b => b < w0.heap.size ∨ w.heap.size + 3 ≤ b) V (.slice a5 t.args[j].args.length c5) t.args[j].args ∧ (t.args.set k r)[j]'(by simpa using hlt) = t.args[j]) := ⟨hA5, hset⟩
                  obtain ⟨q, hq⟩ : ∃ q, t.args[j] = q := ⟨_, rfl⟩
                  rw [hq] at c0 c1 c2 HS5
                  have o2d : wr.drew.cell? ⟨V.heap.size, 2, none⟩ = some vv := o2
                  have o2a : ∀ o, (wr.alloc o).drew.cell? ⟨V.heap.size, 2, none⟩ = some vv := fun o => kc (below_box wr o) (World.block_lt_of_cell? wr _ o2) o2
                  have HRd : Hid (∀ o, (wr.alloc o).drew.ownsRow (V.heap.size + 1) 28 3 vv j (flatT ps)) := fun o => row_below (row_below HQ.out.row (below_box wr o)) (Below.refl _ _).drew
                  have HXd : Hid (∀ o, (wr.alloc o).drew.heap[V.heap.size]? = some (.cells #[.int .i64 0, .string t.fn, vv] 28 (0, 0))) := fun o => ((below_box wr o).block _ (by have := HQ.out.siz; omega)).trans HQ.out.out
                  have g0d : wr.drew.cell? ⟨w.heap.size, 2, none⟩ = _ := g0
                  have c0d : wr.drew.cell? _ = _ := c0
                  have c1d : wr.drew.cell? _ = _ := c1
                  have c2d : wr.drew.cell? _ = _ := c2
                  clear hq hs5 hA5 hset hBw0
                  go_wp2
                  clear o2 g1 o0 o1 x0 x1 hfn g0 c0 c1 c2
                  go_region_law (first
                    | (refine step_append_own _ rfl (.tmp 69) (.tmp 75) 26 rfl (V.heap.size + 1) 28 i0 _ 3 48 Try.underlying26 hi0' hz0 hz1 hz2 rfl (by decide) vv j (flatT ps) rfl (HRd.out _) ⟨wr.heap.size, 0, none⟩ 1 1 [.int .i64 q.v, .string q.fn, .slice a5 q.args.length c5] rfl rfl (fun j x hj => by { show (wr.alloc _).cell? _ = _; rw [Addr.add_mid, Nat.zero_add, cell_of_row _ _ _ _ 28 (0, 0) (MapKept.heap_alloc wr _).1]; simpa using hj }) (by { intro x hx; simp only [List.mem_cons, List.not_mem_nil, or_false] at hx; rcases hx with rfl | rfl | rfl <;> rfl }) (by unfold maxLen; omega) (by omega) (by { have := HQ.out.siz; simp; omega }) ?_; intro v6 w6 hrow6 hg6 _; obtain ⟨a6, c6, rfl⟩ := row_slice hrow6; have hb66 := (hg6.block V.heap.size (Array.getElem?_eq_some_iff.1 (HXd.out _)).1 (fun h => HV0.out h.symm)).trans (HXd.out _); have hc6 : w6.cell? ⟨V.heap.size, 2, none⟩ = some vv := by { rw [cell_of_row _ _ _ #[Value.int .i64 0, .string t.fn, vv] 28 (0, 0) hb66]; rfl }; have hf6 : w6.frozen? ⟨V.heap.size, 2, none⟩ = false := by { simp [World.frozen?, hb66] })
                    | go_simp)
                  all_goals (
                    have HE2 : Hid (QI V (fun b => b < w0.heap.size ∨ w.heap.size + 3 ≤ b) t.fn (t.args.set k r) (j + 1) (.slice a6 (j + 1) c6) (ps ++ [(q, .slice a5 q.args.length c5)]) (w6.setCell ⟨V.heap.size, 2, none⟩ (.slice a6 (j + 1) c6))) := HQ.out.push (by simpa using hlt) q HS5.out.2 _ HS5.out.1 _ w6 (below_box wr _).drew _ hrow6 hg6
                    go_wp2
                    go_roundw
                    case rel => exact ⟨j + 1, by omega, by go_num, _, _, HE2.out⟩
                    case measure => simp [intOf]; omega)
              · have hje : j = t.args.length := by omega
                subst hje
                obtain ⟨av, cv, rfl⟩ := row_slice HQ.out.row
                have hRw := HRb.out wr hB2
                obtain ⟨⟨d0, d1, d2⟩, u0, u1, u2⟩ := box_facts hRw
                have hVs : w.heap.size + 3 ≤ V.heap.size := Nat.le_trans HW2.out HV.out.2.1.size
                have HA : Hid (ArgsP (fun b => b < w0.heap.size ∨ w.heap.size + 3 ≤ b) (set3 wr (w.heap.size + 1 + 1) 0 (.int .i64 0) (.string t.fn) (.slice av t.args.length cv)) (.slice av t.args.length cv) (t.args.set k r)) := by
                  have hl : (t.args.set k r).length = t.args.length := by simp
                  have hq := HQ.out
                  rw [← hl] at hq
                  have := hq.last (w.heap.size + 1 + 1) (by omega) (fun b hb => .inr (by omega)) (fun b hb => by have := H0.out.size; rcases hb with hb | hb <;> omega)
                  rw [hl] at this
                  exact this
                have HBl : Hid (Below w.heap.size w wr) := HO.out wr hB2
                clear hRw
                go_wp2
                refine bodyPost_ret (v := .tuple #[tval (.mk 0 t.fn (t.args.set k r)) (.slice av t.args.length cv), .bool true]) (by simp [results, Try.results19, go_sem, *, T.v, T.fn]) rfl ⟨.mk 0 t.fn (t.args.set k r), av, cv, true, by simp [T.args, T.fn], ?_⟩
                refine ⟨?_, set3_below HBl.out _ 0 _ _ _ (by omega), .inl ⟨rfl, HF.out⟩⟩
                simp only [T.args, List.length_set]
                exact HA.out.keep (Nat.le_refl _) (fun b hb _ => ⟨by rcases hb with hb | hb; exact .inl hb; exact .inr (by omega), rfl⟩)

end Go.Proofs.Ytpahgmidofacaaa

/-
  Parts and the order: plain mathematics.
-/
namespace Go.Proofs.Ytpahgmidofacaaa
open Go.RowKit Go.Maps

theorem arg_size {t a : T} (h : a ∈ t.args) : a.size ≤ t.size := by
  have := arg_lt h
  omega

theorem at_cons {i : Int} {p : List Int} {t r : T} (h : T.at (i :: p) t = some r) : ∃ (k : Nat) (hk : k < t.args.length), i = k ∧ T.at p t.args[k] = some r := by
  have h' : (if h : 0 ≤ i ∧ i < (t.args.length : Int) then T.at p (t.args[i.toNat]'(by omega)) else none) = some r := h
  by_cases hi : 0 ≤ i ∧ i < (t.args.length : Int)
  · rw [dif_pos hi] at h'
    exact ⟨i.toNat, by omega, by omega, h'⟩
  · rw [dif_neg hi] at h'
    cases h'

theorem rep_cons {k : Nat} {p : List Int} {s t : T} (hk : k < t.args.length) : T.rep ((k : Int) :: p) s t = (T.rep p s t.args[k]).map (fun x => .mk 0 t.fn (t.args.set k x)) := by
  show (if h : 0 ≤ (k : Int) ∧ (k : Int) < (t.args.length : Int) then _ else _) = _
  rw [dif_pos (by omega)]
  rfl

/-- Where there is a part, it can be put anew. -/
theorem at_rep (s : T) : ∀ (p : List Int) (t r : T), T.at p t = some r → T.rep p s t ≠ none
  | [], _, _, _ => by simp [T.rep]
  | i :: p, t, r, h => by
    obtain ⟨k, hk, rfl, h1⟩ := at_cons h
    rw [rep_cons hk]
    have := at_rep s p _ r h1
    cases hx : T.rep p s t.args[k] with
    | none => exact absurd hx this
    | some x => simp

theorem rep_size (s : T) : ∀ (p : List Int) (t u r : T), T.at p t = some u → T.rep p s t = some r → r.size ≤ t.size + s.size
  | [], t, u, r, _, h2 => by
    have e2 : s = r := Option.some.inj h2
    have := size_pos t
    rw [← e2]
    omega
  | i :: p, t, u, r, h1, h2 => by
    obtain ⟨k, hk, rfl, h3⟩ := at_cons h1
    rw [rep_cons hk] at h2
    cases hx : T.rep p s t.args[k] with
    | none => rw [hx] at h2; cases h2
    | some x =>
      rw [hx] at h2
      have e : T.mk 0 t.fn (t.args.set k x) = r := Option.some.inj h2
      have ih := rep_size s p _ u x h3 hx
      have e2 : t.args.set k x = t.args.take k ++ x :: t.args.drop (k + 1) := by rw [List.set_eq_take_append_cons_drop, if_pos hk]
      have e1 : (t.args.map T.size).sum = ((t.args.take k ++ t.args[k] :: t.args.drop (k + 1)).map T.size).sum := by
        have : t.args.take k ++ t.args[k] :: t.args.drop (k + 1) = t.args := by simp
        rw [this]
      rw [← e, T.size_eq, t.size_eq, e1]
      show 1 + ((t.args.set k x).map T.size).sum ≤ _
      rw [e2]
      simp only [List.map_append, List.map_cons, List.sum_append, List.sum_cons]
      omega

theorem at_size : ∀ (p : List Int) (t r : T), T.at p t = some r → r.size ≤ t.size
  | [], t, r, h => by
    have e : t = r := Option.some.inj h
    rw [e]
    exact Int.le_refl _
  | i :: p, t, r, h => by
    obtain ⟨k, hk, rfl, h1⟩ := at_cons h
    have := at_size p _ r h1
    have := arg_size (List.getElem_mem hk)
    omega

theorem fold_le {l : List Int} {B : Int} : ∀ {m : Int}, m ≤ B → (∀ x ∈ l, x ≤ B) → l.foldl max m ≤ B := by
  induction l with
  | nil => intro m h _; exact h
  | cons a r ih =>
    intro m h h2
    have := h2 a (by simp)
    exact ih (by omega) (fun x hx => h2 x (by simp [hx]))
theorem le_fold {l : List Int} : ∀ {m : Int}, m ≤ l.foldl max m ∧ ∀ x ∈ l, x ≤ l.foldl max m := by
  induction l with
  | nil => intro m; exact ⟨Int.le_refl _, fun x h => by cases h⟩
  | cons a r ih =>
    intro m
    obtain ⟨h1, h2⟩ := ih (m := max m a)
    refine ⟨?_, fun x hx => ?_⟩
    · show m ≤ r.foldl max (max m a); omega
    · show x ≤ r.foldl max (max m a)
      rcases List.mem_cons.1 hx with rfl | hx
      · omega
      · exact h2 x hx
theorem arg_depth {t a : T} (h : a ∈ t.args) : a.depth < t.depth := by
  rw [t.depth_eq]
  have := (le_fold (l := t.args.map T.depth) (m := 0)).2 a.depth (List.mem_map.2 ⟨a, h, rfl⟩)
  omega
theorem depth_size (t : T) : t.depth ≤ t.size := by
  induction t using T.ind with
  | _ t ih =>
    have h : (t.args.map T.depth).foldl max 0 ≤ t.size - 1 := by
      refine fold_le (by have := size_pos t; omega) (fun x hx => ?_)
      obtain ⟨a, ha, rfl⟩ := List.mem_map.1 hx
      have h1 := ih a ha
      have h2 : a.size < t.size := by
        rw [t.size_eq]
        obtain ⟨j, hj, rfl⟩ := List.getElem_of_mem ha
        have : t.args.take j ++ t.args[j] :: t.args.drop (j + 1) = t.args := by simp
        have e : (t.args.map T.size).sum = ((t.args.take j ++ t.args[j] :: t.args.drop (j + 1)).map T.size).sum := by rw [this]
        have hp : ∀ l : List T, 0 ≤ (l.map T.size).sum := fun l => sum_nonneg (fun x hx => by obtain ⟨b, _, rfl⟩ := List.mem_map.1 hx; have := size_pos b; omega)
        rw [e]
        simp only [List.map_append, List.map_cons, List.sum_append, List.sum_cons]
        have := hp (t.args.take j)
        have := hp (t.args.drop (j + 1))
        omega
      omega
    rw [t.depth_eq]
    omega

theorem right_iff {t : T} (hz : t.size ≤ 1048576) : t.rightW = 0 ↔ t.shape = true ∧ t.depth ≤ 60 ∧ t.size ≤ 4000 := by
  have hp := size_pos t
  have hd := depth_size t
  have e := depthW_small t (by omega)
  unfold T.rightW
  rw [e, wrap_small (by omega) (by omega)]
  cases t.shape
  · simp
  · by_cases h1 : 60 < t.depth
    · simp [h1]; omega
    · by_cases h2 : 4000 < t.size
      · simp [h1, h2]
      · simp [h1, h2]; omega

theorem at_right : ∀ (p : List Int) (t r : T), t.size ≤ 1048576 → t.rightW = 0 → T.at p t = some r → r.rightW = 0
  | [], t, r, _, h1, h => by
    have e : t = r := Option.some.inj h
    rw [← e]
    exact h1
  | i :: p, t, r, hz, h1, h => by
    obtain ⟨k, hk, rfl, h2⟩ := at_cons h
    have hm := List.getElem_mem hk
    have hs := arg_size hm
    refine at_right p _ r (by omega) ?_ h2
    rw [right_iff (by omega)]
    obtain ⟨a, b, c⟩ := (right_iff hz).1 h1
    have hd := arg_depth hm
    refine ⟨?_, by omega, by omega⟩
    rcases shape_cases a with ⟨_, _, _, h4⟩ | ⟨_, _, _, _, h5⟩
    · rw [h4] at hk; simp at hk
    · exact h5 _ hm

theorem vars_none {t : T} (h : (t.vs.foldl wth []).length = 0) : t.vs = [] := by
  have h1 := (wths_rise t.vs [] (by first | exact List.Pairwise.nil | trivial | simp [Rise])).2
  have h0 : t.vs.foldl wth [] = [] := List.length_eq_zero_iff.1 h
  rw [h0] at h1
  cases e : t.vs with
  | nil => rfl
  | cons a r => have := (h1 a).2 (.inr (by rw [e]; simp)); cases this

theorem ground_cmp {g : Sg} {t s : T} (hg : g.Ok) (h1 : t.rightW = 0) (h2 : s.rightW = 0) (h3 : t.vs = []) (h4 : s.vs = []) : lcmp g t s ≠ 2 := by
  unfold lcmp
  rw [if_pos ⟨hg, h1, h2⟩]
  have p1 := size_pos t
  have p2 := size_pos s
  rcases lg_total g (t.size + s.size).toNat t s (by omega) (right_shape h1) (right_shape h2) h3 h4 with h | h | h
  · rw [pcmp_zero.2 h]; decide
  · rw [pcmp_gr.2 h]; decide
  · rw [pcmp_ls.2 h]; decide

end Go.Proofs.Ytpahgmidofacaaa

/-
  Parts and the order by paths: plain mathematics.
-/
namespace Go.Proofs.Ytpahgmidofacaaa
open Go.RowKit Go.Maps

/-- A part lies below the whole. -/
theorem at_lg (g : Sg) : ∀ (p : List Int) (t r : T), t.shape = true → p ≠ [] → T.at p t = some r → lg g t r
  | [], _, _, _, h, _ => absurd rfl h
  | i :: p, t, r, hs, _, h => by
    obtain ⟨k, hk, _, h1⟩ := at_cons h
    rcases shape_cases hs with ⟨_, _, _, h4⟩ | ⟨h4, _, _, _, h5⟩
    · rw [h4] at hk; simp at hk
    by_cases hp : p = []
    · subst hp
      have : t.args[k] = r := Option.some.inj h1
      rw [← this]
      exact .arg h4 (List.getElem_mem hk)
    · exact .deep _ h4 (List.getElem_mem hk) (at_lg g p _ r (h5 _ (List.getElem_mem hk)) hp h1)

/-- A smaller part makes a smaller whole. -/
theorem rep_lg (g : Sg) (s : T) : ∀ (p : List Int) (t u r : T), t.shape = true → T.at p t = some u → T.rep p s t = some r → lg g u s → lg g t r
  | [], t, u, r, _, h1, h2, h => by
    have e1 : t = u := Option.some.inj h1
    have e2 : s = r := Option.some.inj h2
    rw [e1, ← e2]
    exact h
  | i :: p, t, u, r, hs, h1, h2, h => by
    obtain ⟨k, hk, rfl, h3⟩ := at_cons h1
    rw [rep_cons hk] at h2
    rcases shape_cases hs with ⟨_, _, _, h4⟩ | ⟨h4, _, _, _, h5⟩
    · rw [h4] at hk; simp at hk
    cases hx : T.rep p s t.args[k] with
    | none => rw [hx] at h2; cases h2
    | some x =>
      rw [hx] at h2
      have e : T.mk 0 t.fn (t.args.set k x) = r := Option.some.inj h2
      have ih := rep_lg g s p _ u x (h5 _ (List.getElem_mem hk)) h3 hx h
      have e1 : t = .mk t.v t.fn (t.args.take k ++ t.args[k] :: t.args.drop (k + 1)) := by
        have : t.args.take k ++ t.args[k] :: t.args.drop (k + 1) = t.args := by simp
        rw [this]
        cases t; rfl
      have e2 : t.args.set k x = t.args.take k ++ x :: t.args.drop (k + 1) := by rw [List.set_eq_take_append_cons_drop, if_pos hk]
      rw [← e, e2]
      have := lg_arg (g := g) (v := t.v) (v' := 0) (fn := t.fn) (l := t.args.take k) (r := t.args.drop (k + 1)) h4 ih
      rw [← e1] at this
      exact this

end Go.Proofs.Ytpahgmidofacaaa

/-
  The document's Right of a signature.
-/
namespace Go.Proofs.Ytpahgmidofacaaa
open Go.RowKit Go.Maps

theorem nodup_of_pl {l : List ByteArray} (h : ∀ i (hi : i < l.length), plL l l[i] = i) : l.Nodup := by
  unfold List.Nodup
  rw [List.pairwise_iff_getElem]
  intro i j hi hj hij e
  have h1 := h i hi
  have h2 := h j hj
  rw [e] at h1
  omega
theorem pl_of_nodup {l : List ByteArray} (h : l.Nodup) (i : Nat) (hi : i < l.length) : plL l l[i] = i := by
  refine plL_at hi (fun j hj hji => ?_) rfl
  unfold List.Nodup at h
  rw [List.pairwise_iff_getElem] at h
  exact h j i hj hi hji

/-- Nothing wrong so far with the first k names. -/
def Names (l : List ByteArray) (k : Nat) : Prop := ∀ i (hi : i < l.length), i < k → badN l[i] = false ∧ plL l l[i] = i

theorem badN_cases {x : ByteArray} (h : badN x = false) : x.size ≠ 0 ∧ x.size ≤ 64 ∧ x ≠ tru := by
  unfold badN at h
  simp only [Bool.or_eq_false_iff, decide_eq_false_iff_not] at h
  exact ⟨h.1.1, by omega, h.2⟩
theorem badN_mk {x : ByteArray} (h1 : x.size ≠ 0) (h2 : x.size ≤ 64) (h3 : x ≠ tru) : badN x = false := by
  unfold badN
  simp only [Bool.or_eq_false_iff, decide_eq_false_iff_not]
  exact ⟨⟨h1, by omega⟩, h3⟩

set_option maxRecDepth 100000 in
set_option maxHeartbeats 2000000 in
theorem rgright_any (g : Sg) (vn vw : Value) (w : World) (hg : SgAt w g vn vw) :
    Calls Try.prog 17 #[gval vn vw] w fun e w' => e = .returned (.bool g.ok) ∧ Below w.heap.size w w' := by
  obtain ⟨an, cn, rfl, hn1, hn2⟩ := hg.ns.slice
  obtain ⟨aw, cw, rfl, hw1, hw2⟩ := hg.ws.slice
  obtain ⟨t0, t1⟩ := box2_cells w (.slice an g.ns.length cn) (.slice aw g.ws.length cw) 25
  have hb := below_box w (.cells #[.slice an g.ns.length cn, .slice aw g.ws.length cw] 25)
  have HB : Hid (Below w.heap.size w (w.alloc (.cells #[.slice an g.ns.length cn, .slice aw g.ws.length cw] 25)) ∧ SgAt (w.alloc (.cells #[.slice an g.ns.length cn, .slice aw g.ws.length cw] 25)) g (.slice an g.ns.length cn) (.slice aw g.ws.length cw)) := ⟨hb, hg.keep hb (Nat.le_refl _)⟩
  clear hg hb
  by_cases h1 : 200 < g.ns.length
  · have HP : Hid (g.ok = false) := ok_no.2 fun h => by have := h.1; omega
    have e1 : decide ((200 : Int) < (g.ns.length : Int)) = true := decide_eq_true (by omega)
    go_enter Try.func17, Try.ntmps17
    go_wp2
    go_ret
    exact ⟨ret_bool HP.out.symm, HB.out.1⟩
  have e1 : decide ((200 : Int) < (g.ns.length : Int)) = false := decide_eq_false (by omega)
  by_cases h2 : g.ns.length < g.ws.length
  · have HP : Hid (g.ok = false) := ok_no.2 fun h => by have := h.2.1; omega
    have e2 : decide ((g.ns.length : Int) < (g.ws.length : Int)) = true := decide_eq_true (by omega)
    go_enter Try.func17, Try.ntmps17
    go_wp2
    go_ret
    exact ⟨ret_bool HP.out.symm, HB.out.1⟩
  have e2 : decide ((g.ns.length : Int) < (g.ws.length : Int)) = false := decide_eq_false (by omega)
  go_enter Try.func17, Try.ntmps17
  go_wp2
  go_loopw [3] (fun vi wr => ∃ i : Nat, vi = .int .i64 i ∧ i ≤ g.ns.length ∧ Hid (Names g.ns i) ∧ Hid (Below (w.heap.size + 1) (w.alloc (.cells #[.slice an g.ns.length cn, .slice aw g.ws.length cw] 25)) wr)) (fun vi _ => g.ns.length - (intOf vi).toNat)
  case atStart => exact ⟨0, rfl, Nat.zero_le _, fun j _ hj => absurd hj (by omega), Below.refl _ _⟩
  case round =>
    obtain ⟨i, rfl, hi, HN, HW⟩ := hrel
    have hsz : w.heap.size + 1 ≤ wr.heap.size := by have := HW.out.size; simpa using this
    have r0 := kc HW.out (by simp) t0
    have r1 := kc HW.out (by simp) t1
    have hG : SgAt wr g (.slice an g.ns.length cn) (.slice aw g.ws.length cw) := HB.out.2.keep HW.out (by simp)
    by_cases hlt : i < g.ns.length
    · obtain ⟨b, o, rfl, hbl, hcell⟩ := hG.ns.nth hlt
      have hcall : ∀ x W, Below wr.heap.size wr W → Calls Try.prog 29 #[.agg #[.slice (some ⟨b, o, none⟩) g.ns.length cn, .slice aw g.ws.length cw], .string x] W fun e w' => e = .returned (.int .i64 (plL g.ns x)) ∧ Below W.heap.size W w' := fun x W hW => rat_any g x _ _ W (hG.keep hW (Nat.le_refl _))
      have r0' := cell_far (by omega) r0
      have r1' := cell_far (by omega) r1
      have hcell' := cell_far hbl hcell
      have hi1 : (0 : Int) ≤ (i : Int) := by omega
      have hi2 : (i : Int) < (g.ns.length : Int) := by omega
      have HX : Hid (∀ W, Below wr.heap.size wr W → Below w.heap.size w W ∧ Below (w.heap.size + 1) (w.alloc (.cells #[.slice (some ⟨b, o, none⟩) g.ns.length cn, .slice aw g.ws.length cw] 25)) W) := fun W hW => ⟨HB.out.1.trans ((HW.out.trans (hW.mono hsz)).mono (Nat.le_succ _)), HW.out.trans (hW.mono hsz)⟩
      have HBad : Hid (badN g.ns[i] = true → g.ok = false) := fun h => ok_no.2 fun k => by rw [k.2.2.1 _ (List.getElem_mem hlt)] at h; cases h
      have HPl : Hid (plL g.ns g.ns[i] ≠ i → g.ok = false) := fun h => ok_no.2 fun k => h (pl_of_nodup k.2.2.2.2 i hlt)
      have HNx : Hid (badN g.ns[i] = false → plL g.ns g.ns[i] = i → Names g.ns (i + 1)) := fun h h' j hj hji => by
        by_cases ej : j = i
        · subst ej; exact ⟨h, h'⟩
        · exact HN.out j hj (by omega)
      obtain ⟨x, hx⟩ : ∃ x, g.ns[i] = x := ⟨_, rfl⟩
      rw [hx] at hcell hcell' HBad HPl HNx
      have H3 := eq_truB x
      clear hx hG HW HN
      by_cases h3 : x.size = 0
      · have HP : Hid (g.ok = false) := HBad.out (by simp [badN, h3])
        have e3 : decide ((x.size : Int) < 1) = true := decide_eq_true (by omega)
        clear H3 HBad HPl HNx
        go_wp2
        refine wp_region_far (by kernel_rfl) ?_
        repeat (first | go_big_quiet_step (exact calls_far (hcall _) _) | quiet_step (exact calls_far (hcall _) _))
        refine wpQuiet_nil ?_
        intro _ hw'
        obtain ⟨pf, rfl⟩ := hw'
        go_wp2
        go_ret
        exact ⟨ret_bool HP.out.symm, (HX.out _ (below_far _ pf)).1⟩
      have e3 : decide ((x.size : Int) < 1) = false := decide_eq_false (by omega)
      by_cases h4 : 64 < x.size
      · have HP : Hid (g.ok = false) := HBad.out (by simp [badN, h4])
        have e4 : decide ((64 : Int) < (x.size : Int)) = true := decide_eq_true (by omega)
        clear H3 HBad HPl HNx
        go_wp2
        refine wp_region_far (by kernel_rfl) ?_
        repeat (first | go_big_quiet_step (exact calls_far (hcall _) _) | quiet_step (exact calls_far (hcall _) _))
        refine wpQuiet_nil ?_
        intro _ hw'
        obtain ⟨pf, rfl⟩ := hw'
        go_wp2
        go_ret
        exact ⟨ret_bool HP.out.symm, (HX.out _ (below_far _ pf)).1⟩
      have e4 : decide ((64 : Int) < (x.size : Int)) = false := decide_eq_false (by omega)
      by_cases h5 : x = tru
      · have HP : Hid (g.ok = false) := HBad.out (by simp [badN, h5])
        rw [decide_eq_true h5] at H3
        clear HBad HPl HNx h5
        go_wp2
        refine wp_region_far (by kernel_rfl) ?_
        repeat (first | go_big_quiet_step (exact calls_far (hcall _) _) | quiet_step (exact calls_far (hcall _) _))
        refine wpQuiet_nil ?_
        intro _ hw'
        obtain ⟨pf, rfl⟩ := hw'
        go_wp2
        go_ret
        exact ⟨ret_bool HP.out.symm, (HX.out _ (below_far _ pf)).1⟩
      rw [decide_eq_false h5] at H3
      have HBF : Hid (badN x = false) := badN_mk h3 (by omega) h5
      by_cases h6 : plL g.ns x = i
      · have HN2 : Hid (Names g.ns (i + 1)) := HNx.out HBF.out h6
        have e6 : (plL g.ns x != (i : Int)) = false := by rw [h6]; simp
        clear HBad HPl HNx h5 h6
        go_wp2
        refine wp_region_far (by kernel_rfl) ?_
        repeat (first | go_big_quiet_step (exact calls_far (hcall _) _) | quiet_step (exact calls_far (hcall _) _))
        refine wpQuiet_nil ?_
        intro _ hw'
        obtain ⟨pf, rfl⟩ := hw'
        go_wp2
        go_roundw
        case rel => exact ⟨i + 1, by go_num, by omega, HN2, (HX.out _ (below_far _ pf)).2⟩
        case measure => simp [intOf]; omega
      · have HP : Hid (g.ok = false) := HPl.out h6
        have e6 : (plL g.ns x != (i : Int)) = true := by rw [bne_iff_ne]; exact h6
        clear HBad HPl HNx h5 h6
        go_wp2
        refine wp_region_far (by kernel_rfl) ?_
        repeat (first | go_big_quiet_step (exact calls_far (hcall _) _) | quiet_step (exact calls_far (hcall _) _))
        refine wpQuiet_nil ?_
        intro _ hw'
        obtain ⟨pf, rfl⟩ := hw'
        go_wp2
        go_ret
        exact ⟨ret_bool HP.out.symm, (HX.out _ (below_far _ pf)).1⟩
    · have HNall : Hid ((∀ x ∈ g.ns, badN x = false) ∧ g.ns.Nodup) := by
        refine ⟨fun x hx => ?_, nodup_of_pl fun j hj => (HN.out j hj (by omega)).2⟩
        obtain ⟨j, hj, rfl⟩ := List.getElem_of_mem hx
        exact (HN.out j hj (by omega)).1
      obtain ⟨W2, hW2⟩ : ∃ W, W = wr := ⟨_, rfl⟩
      subst hW2
      have HBW : Hid (Below w.heap.size w W2) := HB.out.1.trans (HW.out.mono (Nat.le_succ _))
      have HGW : Hid (SgAt W2 g (.slice an g.ns.length cn) (.slice aw g.ws.length cw)) := hG
      clear HN HW hG
      go_wp2
      go_loopw [4] (fun vi wr => ∃ i : Nat, vi = .int .i64 i ∧ i ≤ g.ws.length ∧ wr = W2 ∧ Hid (∀ j (hj : j < g.ws.length), j < i → badW g.ws[j] = false)) (fun vi _ => g.ws.length - (intOf vi).toNat)
      case atStart => exact ⟨0, rfl, Nat.zero_le _, rfl, fun j _ hj => absurd hj (by omega)⟩
      case round =>
        obtain ⟨k, rfl, hk, hwr, HK⟩ := hrel
        subst hwr
        by_cases hlk : k < g.ws.length
        · obtain ⟨b, o, rfl, hbl, hcell⟩ := HGW.out.ws.nth hlk
          have HBad : Hid (badW g.ws[k] = true → g.ok = false) := fun h => ok_no.2 fun k => by rw [k.2.2.2.1 _ (List.getElem_mem hlk)] at h; cases h
          have HNx : Hid (badW g.ws[k] = false → ∀ j (hj : j < g.ws.length), j < k + 1 → badW g.ws[j] = false) := fun h j hj hji => by
            by_cases ej : j = k
            · subst ej; exact h
            · exact HK.out j hj (by omega)
          obtain ⟨y, hy⟩ : ∃ y, g.ws[k] = y := ⟨_, rfl⟩
          rw [hy] at hcell HBad HNx
          clear hy
          by_cases h3 : y < 1
          · have HP : Hid (g.ok = false) := HBad.out (by simp [badW, h3])
            have e3 : decide (y < 1) = true := decide_eq_true h3
            go_wp2
            go_ret
            exact ⟨ret_bool HP.out.symm, HBW.out⟩
          have e3 : decide (y < 1) = false := decide_eq_false h3
          by_cases h4 : 1000 < y
          · have HP : Hid (g.ok = false) := HBad.out (by simp [badW, h4])
            have e4 : decide (1000 < y) = true := decide_eq_true h4
            go_wp2
            go_ret
            exact ⟨ret_bool HP.out.symm, HBW.out⟩
          have e4 : decide (1000 < y) = false := decide_eq_false h4
          have HN2 : Hid (∀ j (hj : j < g.ws.length), j < k + 1 → badW g.ws[j] = false) := HNx.out (by simp only [badW, e3, e4]; rfl)
          go_wp2
          go_roundw
          case rel => exact ⟨k + 1, by go_num, by omega, trivial, HN2⟩
          case measure => simp [intOf]; omega
        · have HP : Hid (g.ok = true) := ok_iff.2 ⟨by omega, by omega, HNall.out.1, fun y hy => by
            obtain ⟨j, hj, rfl⟩ := List.getElem_of_mem hy
            exact HK.out j hj (by omega), HNall.out.2⟩
          go_wp2
          go_ret
          exact ⟨ret_bool HP.out.symm, HBW.out⟩

end Go.Proofs.Ytpahgmidofacaaa

/-
  The document's vars and Vars; Ints.
-/
namespace Go.Proofs.Ytpahgmidofacaaa
open Go.RowKit Go.Shelf

/-- What vars has so far. -/
structure VI (W1 : World) (base : Nat) (v : Value) (k : Nat) (xs : List Int) (W : World) : Prop where
  row : W.ownsRow base 3 1 v k (xs.map (Value.int .i64))
  bel : Below W1.heap.size W1 W

theorem VI.len {W1 : World} {base : Nat} {v : Value} {k : Nat} {xs : List Int} {W : World} (h : VI W1 base v k xs W) : xs.length = k := by simpa using h.row.1

theorem args_len (t : T) (l1 : List Int) (N : Nat) (hN : l1.length + ((t.args.map T.vs).flatten).length ≤ N) : ∀ i (h : i < t.args.length), (((t.args.take i).map T.vs).flatten.foldl wth l1).length + (T.vs t.args[i]).length ≤ N := by
  intro i h
  have h1 := wths_len (((t.args.take i).map T.vs).flatten) l1
  have h2 : (t.args.map T.vs).flatten = ((t.args.take i).map T.vs).flatten ++ (T.vs t.args[i] ++ ((t.args.drop (i + 1)).map T.vs).flatten) := by
    have h3 : t.args = t.args.take i ++ t.args[i] :: t.args.drop (i + 1) := by rw [List.getElem_cons_drop, List.take_append_drop]
    conv => lhs; rw [h3]
    rw [List.map_append, List.flatten_append, List.map_cons, List.flatten_cons]
  rw [h2] at hN
  simp only [List.length_append] at hN
  omega

set_option maxRecDepth 100000 in
set_option maxHeartbeats 4000000 in
theorem vars_any (t : T) : ∀ (base : Nat) (v : Value) (l : List Int) (sl : Value) (w : World), w.ownsRow base 3 1 v l.length (l.map (Value.int .i64)) → base ≤ w.heap.size → ArgsAt w sl t.args → l.length + t.vs.length ≤ 1048576 →
    Calls Try.prog 32 #[v, tval t sl] w fun e w' => ∃ v' k, e = .returned v' ∧ w'.ownsRow base 3 1 v' k ((t.vs.foldl wth l).map (Value.int .i64)) ∧ Below w.heap.size w w' := by
  induction t using T.ind with
  | _ t ih =>
    intro base v l sl w hrow hbase ha hN
    obtain ⟨a, c, rfl, hc, hm⟩ := ha.slice
    obtain ⟨t0, t1, t2⟩ := tbox_cells w t (.slice a t.args.length c)
    have hb0 := below_box w (tbox t (.slice a t.args.length c))
    have HA : Hid (ArgsAt (w.alloc (tbox t (.slice a t.args.length c))) (.slice a t.args.length c) t.args) := ArgsAt.keep hb0 (Nat.le_refl _) ha
    have hrow1 := row_below hrow hb0
    have HT : Hid ((w.alloc (tbox t (.slice a t.args.length c))).cell? ⟨w.heap.size, 2, none⟩ = some (.slice a t.args.length c)) := t2
    have HL : Hid (base ≤ w.heap.size) := hbase
    clear ha hrow hbase
    by_cases h0 : t.fn.size = 0
    · have hvs : t.vs = t.v :: (t.args.map T.vs).flatten := by rw [t.vs_eq, if_pos h0]; rfl
      have hdd : t.fn.toList.isEmpty = true := by rw [ba_isEmpty]; simp [h0]
      obtain ⟨l1, hl1⟩ : ∃ l1, wth l t.v = l1 := ⟨_, rfl⟩
      have HE : Hid ((t.args.map T.vs).flatten.foldl wth l1 = t.vs.foldl wth l) := by show _ = _; rw [hvs, List.foldl_cons, hl1]
      have HB : Hid (∀ i (h : i < t.args.length), (((t.args.take i).map T.vs).flatten.foldl wth l1).length + (T.vs t.args[i]).length ≤ 1048576) := args_len t l1 1048576 (by have := wth_len l t.v; rw [hl1] at this; rw [hvs, List.length_cons] at hN; omega)
      have hw := with_any base v l t.v (w.alloc (tbox t (.slice a t.args.length c))) hrow1 (by omega)
      rw [hl1] at hw
      obtain ⟨pv, pc0, rfl⟩ := row_form hrow1
      clear hvs hl1 hrow1 hN h0
      go_enter Try.func32, Try.ntmps32
      go_wp2_with (first | (go_at_call 54; refine hw.mono ?_; rintro e w2 ⟨v1, k1, rfl, hI⟩; have HV1 : Hid (VI (w.alloc (tbox t (.slice a t.args.length c))) base v1 k1 l1 w2) := ⟨row_low hI.row (by have := HL.out; simp; omega), hI.bel⟩; obtain ⟨pv1, pc1, rfl⟩ := row_form hI.row; clear hI))
      go_loopw [0, 5] (fun v0 ii wr => ∃ (i k : Nat), ii = .int .i64 i ∧ i ≤ t.args.length ∧ VI (w.alloc (tbox t (.slice a t.args.length c))) base v0 k (((t.args.take i).map T.vs).flatten.foldl wth l1) wr) (fun _ ii _ => t.args.length - (intOf ii).toNat)
      case atStart => exact ⟨0, _, rfl, Nat.zero_le _, HV1⟩
      case round =>
        obtain ⟨i, k, rfl, hi', hW⟩ := hrel
        have hb2 := hW.bel
        have hsz := hb2.size
        rw [World.size_alloc] at hsz
        obtain ⟨pa, pc, rfl⟩ := row_form hW.row
        have c2 := kc hb2 (by simp) HT.out
        by_cases hlt : i < t.args.length
        · have haw := ArgsAt.keep hb2 (by simp) HA.out
          obtain ⟨ba, oa, s, e0, hba, a0, a1, a2, hs⟩ := haw.nth hlt
          cases e0
          have he : Hid ((((t.args.take (i + 1)).map T.vs).flatten.foldl wth l1) = (T.vs t.args[i]).foldl wth (((t.args.take i).map T.vs).flatten.foldl wth l1)) := by
            show _ = _
            rw [List.take_succ_eq_append_getElem hlt, List.map_append, List.flatten_append, List.foldl_append]
            simp
          have hlen := HB.out i hlt
          obtain ⟨xs, hxs⟩ : ∃ xs, ((t.args.take i).map T.vs).flatten.foldl wth l1 = xs := ⟨_, rfl⟩
          rw [hxs] at hW he hlen
          clear hxs
          have hrow : wr.ownsRow base 3 1 (.slice pa k pc) xs.length (xs.map (Value.int .i64)) := by rw [hW.len]; exact hW.row
          have hlow : base ≤ wr.heap.size := by have := HL.out; omega
          have ih' := ih t.args[i] (List.getElem_mem hlt) base (.slice pa k pc) xs s wr hrow hlow hs hlen
          have HW : Hid (VI (w.alloc (tbox t (.slice (some ⟨ba, oa, none⟩) t.args.length c))) base (.slice pa k pc) k xs wr) := hW
          clear hW hrow hs haw hb2
          go_wp2_with (first | (go_at_call 32; refine ih'.mono ?_; rintro e w3 ⟨v3, k3, rfl, hr3, hb3⟩; have HI3 : Hid (VI (w.alloc (tbox t (.slice (some ⟨ba, oa, none⟩) t.args.length c))) base v3 k3 ((T.vs t.args[i]).foldl wth xs) w3) := ⟨hr3, HW.out.bel.trans (hb3.mono HW.out.bel.size)⟩; obtain ⟨pa3, pc3, rfl⟩ := row_form hr3; clear hr3 hb3))
          go_roundw
          case rel => exact ⟨i + 1, k3, by go_num, by omega, by rw [he]; exact HI3⟩
          case measure => simp [intOf]; omega
        · have hfin : Hid ((((t.args.take i).map T.vs).flatten.foldl wth l1) = t.vs.foldl wth l) := by
            show _ = _
            rw [List.take_of_length_le (by omega)]
            exact HE.out
          have HW : Hid (VI (w.alloc (tbox t (.slice a t.args.length c))) base (.slice pa k pc) k (((t.args.take i).map T.vs).flatten.foldl wth l1) wr) := hW
          clear hW
          go_wp2
          go_ret
          exact ⟨_, k, rfl, by rw [← hfin.out]; exact HW.out.row, (below_box w _).trans (HW.out.bel.mono (by simp))⟩
    · have hvs : t.vs = (t.args.map T.vs).flatten := by rw [t.vs_eq, if_neg h0]; rfl
      obtain ⟨l1, hl1⟩ : ∃ l1, l = l1 := ⟨_, rfl⟩
      have HE : Hid ((t.args.map T.vs).flatten.foldl wth l1 = t.vs.foldl wth l) := by show _ = _; rw [hvs, hl1]
      have HB : Hid (∀ i (h : i < t.args.length), (((t.args.take i).map T.vs).flatten.foldl wth l1).length + (T.vs t.args[i]).length ≤ 1048576) := args_len t l1 1048576 (by rw [← hl1]; rw [hvs] at hN; omega)
      have HV1 : Hid (VI (w.alloc (tbox t (.slice a t.args.length c))) base v l.length l1 (w.alloc (tbox t (.slice a t.args.length c)))) := ⟨by rw [← hl1]; exact hrow1, Below.refl _ _⟩
      have hds : decide (t.fn.size = 0) = false := by simp [h0]
      have hdd : t.fn.toList.isEmpty = false := by rw [ba_isEmpty]; exact hds
      obtain ⟨pv, pc0, rfl⟩ := row_form hrow1
      clear hvs hl1 hrow1 hN hds
      go_enter Try.func32, Try.ntmps32
      go_wp2
      go_loopw [0, 5] (fun v0 ii wr => ∃ (i k : Nat), ii = .int .i64 i ∧ i ≤ t.args.length ∧ VI (w.alloc (tbox t (.slice a t.args.length c))) base v0 k (((t.args.take i).map T.vs).flatten.foldl wth l1) wr) (fun _ ii _ => t.args.length - (intOf ii).toNat)
      case atStart => exact ⟨0, _, rfl, Nat.zero_le _, HV1⟩
      case round =>
        obtain ⟨i, k, rfl, hi', hW⟩ := hrel
        have hb2 := hW.bel
        have hsz := hb2.size
        rw [World.size_alloc] at hsz
        obtain ⟨pa, pc, rfl⟩ := row_form hW.row
        have c2 := kc hb2 (by simp) HT.out
        by_cases hlt : i < t.args.length
        · have haw := ArgsAt.keep hb2 (by simp) HA.out
          obtain ⟨ba, oa, s, e0, hba, a0, a1, a2, hs⟩ := haw.nth hlt
          cases e0
          have he : Hid ((((t.args.take (i + 1)).map T.vs).flatten.foldl wth l1) = (T.vs t.args[i]).foldl wth (((t.args.take i).map T.vs).flatten.foldl wth l1)) := by
            show _ = _
            rw [List.take_succ_eq_append_getElem hlt, List.map_append, List.flatten_append, List.foldl_append]
            simp
          have hlen := HB.out i hlt
          obtain ⟨xs, hxs⟩ : ∃ xs, ((t.args.take i).map T.vs).flatten.foldl wth l1 = xs := ⟨_, rfl⟩
          rw [hxs] at hW he hlen
          clear hxs
          have hrow : wr.ownsRow base 3 1 (.slice pa k pc) xs.length (xs.map (Value.int .i64)) := by rw [hW.len]; exact hW.row
          have hlow : base ≤ wr.heap.size := by have := HL.out; omega
          have ih' := ih t.args[i] (List.getElem_mem hlt) base (.slice pa k pc) xs s wr hrow hlow hs hlen
          have HW : Hid (VI (w.alloc (tbox t (.slice (some ⟨ba, oa, none⟩) t.args.length c))) base (.slice pa k pc) k xs wr) := hW
          clear hW hrow hs haw hb2
          go_wp2_with (first | (go_at_call 32; refine ih'.mono ?_; rintro e w3 ⟨v3, k3, rfl, hr3, hb3⟩; have HI3 : Hid (VI (w.alloc (tbox t (.slice (some ⟨ba, oa, none⟩) t.args.length c))) base v3 k3 ((T.vs t.args[i]).foldl wth xs) w3) := ⟨hr3, HW.out.bel.trans (hb3.mono HW.out.bel.size)⟩; obtain ⟨pa3, pc3, rfl⟩ := row_form hr3; clear hr3 hb3))
          go_roundw
          case rel => exact ⟨i + 1, k3, by go_num, by omega, by rw [he]; exact HI3⟩
          case measure => simp [intOf]; omega
        · have hfin : Hid ((((t.args.take i).map T.vs).flatten.foldl wth l1) = t.vs.foldl wth l) := by
            show _ = _
            rw [List.take_of_length_le (by omega)]
            exact HE.out
          have HW : Hid (VI (w.alloc (tbox t (.slice a t.args.length c))) base (.slice pa k pc) k (((t.args.take i).map T.vs).flatten.foldl wth l1) wr) := hW
          clear hW
          go_wp2
          go_ret
          exact ⟨_, k, rfl, by rw [← hfin.out]; exact HW.out.row, (below_box w _).trans (HW.out.bel.mono (by simp))⟩

set_option maxHeartbeats 1000000 in
theorem rvars_any (t : T) (sl : Value) (w : World) (ha : ArgsAt w sl t.args) (hN : t.vs.length ≤ 1048576) :
    Calls Try.prog 20 #[tval t sl] w fun e w' => ∃ v' k, e = .returned v' ∧ w'.ownsRow w.heap.size 3 1 v' k ((t.vs.foldl wth []).map (Value.int .i64)) ∧ Below w.heap.size w w' := by
  obtain ⟨a, c, rfl, hc, hm⟩ := ha.slice
  obtain ⟨t0, t1, t2⟩ := tbox_cells w t (.slice a t.args.length c)
  have hb0 := below_box w (tbox t (.slice a t.args.length c))
  have h1 := vars_any t w.heap.size (.slice none 0 0) [] (.slice a t.args.length c) (w.alloc (tbox t (.slice a t.args.length c))) (World.ownsRow_nil _ _ _ _) (by simp) (ArgsAt.keep hb0 (Nat.le_refl _) ha) (by simpa using hN)
  go_enter Try.func20, Try.ntmps20
  go_wp2_with (first | (go_at_call 32; refine h1.mono ?_; rintro e w2 ⟨v1, k1, rfl, hr, hb⟩; have HR : Hid (w2.ownsRow w.heap.size 3 1 v1 k1 ((t.vs.foldl wth []).map (Value.int .i64)) ∧ Below w.heap.size w w2) := ⟨hr, hb0.trans (hb.mono (by simp))⟩; obtain ⟨pv1, pc1, rfl⟩ := row_form hr; clear hr hb))
  go_ret
  exact ⟨_, k1, rfl, HR.out.1, HR.out.2⟩

end Go.Proofs.Ytpahgmidofacaaa

/-
  LpoParts: the law's walk.
-/
namespace Go.Proofs.Ytpahgmidofacaaa
open Go.RowKit Go.Maps

theorem vs_len (t : T) : (t.vs.length : Int) ≤ t.size := by
  induction t using T.ind with
  | _ t ih =>
    rw [t.vs_eq, t.size_eq, List.length_append]
    have : ∀ l : List T, (∀ a ∈ l, a ∈ t.args) → (((l.map T.vs).flatten).length : Int) ≤ (l.map T.size).sum := by
      intro l
      induction l with
      | nil => intro _; simp
      | cons a r ihl =>
        intro hl
        have h1 := ih a (hl a (by simp))
        have h2 := ihl (fun b hb => hl b (by simp [hb]))
        simp only [List.map_cons, List.sum_cons, List.flatten_cons, List.length_append]
        omega
    have h := this t.args (fun _ h => h)
    split <;> simp only [List.length_cons, List.length_nil] <;> omega

theorem wrapK (x : Int) : IntKind.i64.wrap x = wrap64 x := by
  first | rfl | (rw [IntKind.wrap_i64]; simp only [wrap64]; done) | (rw [IntKind.wrap_i64]; simp only [wrap64]; omega)

theorem lift_to {B X : World} {f : Nat} {args : Array Value} {R : Ending → Prop} (hX : Below B.heap.size B X) (h : Calls Try.prog f args X fun e X' => R e ∧ Below X.heap.size X X') : Calls Try.prog f args X fun e X' => R e ∧ Below B.heap.size B X' :=
  h.mono fun _ _ ⟨a, b⟩ => ⟨a, hX.trans (b.mono hX.size)⟩

theorem bel_tr {A B C : World} (h1 : Below A.heap.size A B) (h2 : Below B.heap.size B C) : Below A.heap.size A C := h1.trans (h2.mono h1.size)

set_option maxRecDepth 100000 in
set_option maxHeartbeats 3000000 in
theorem lawparts_any (g : Sg) (t s : T) (p : List Int) (vn vw st ss pv : Value) (w : World) (hg : SgAt w g vn vw) (hat : ArgsAt w st t.args) (has : ArgsAt w ss s.args) (hp : RowAt (.int .i64) w pv p) (hz : t.size + s.size ≤ 1048576) :
    Calls Try.prog 6 #[gval vn vw, tval t st, tval s ss, pv] w fun e w' => e = .returned (.bool true) ∧ Below w.heap.size w w' := by
  obtain ⟨an, cn, rfl, _, _⟩ := hg.ns.slice
  obtain ⟨aw, cw, rfl, _, _⟩ := hg.ws.slice
  obtain ⟨a, ca, rfl, _, _⟩ := hat.slice
  obtain ⟨b, cb, rfl, _, _⟩ := has.slice
  obtain ⟨pa, pc, rfl, _, _⟩ := hp.slice
  have hzt : t.size ≤ 1048576 := by have := size_pos s; omega
  have hzs : s.size ≤ 1048576 := by have := size_pos t; omega
  have hT := tri_made w (.slice an g.ns.length cn) (.slice aw g.ws.length cw) 25 t (.slice a t.args.length ca) s (.slice b s.args.length cb)
  have hC : ∀ X, Tri w (.slice an g.ns.length cn) (.slice aw g.ws.length cw) t (.slice a t.args.length ca) s (.slice b s.args.length cb) X → (X.cell? ⟨w.heap.size, 0, none⟩ = some (.slice an g.ns.length cn) ∧ X.cell? ⟨w.heap.size, 1, none⟩ = some (.slice aw g.ws.length cw)) ∧ (X.cell? ⟨w.heap.size + 1, 0, none⟩ = some (.int .i64 t.v) ∧ X.cell? ⟨w.heap.size + 1, 1, none⟩ = some (.string t.fn) ∧ X.cell? ⟨w.heap.size + 1, 2, none⟩ = some (.slice a t.args.length ca)) ∧ (X.cell? ⟨w.heap.size + 1 + 1, 0, none⟩ = some (.int .i64 s.v) ∧ X.cell? ⟨w.heap.size + 1 + 1, 1, none⟩ = some (.string s.fn) ∧ X.cell? ⟨w.heap.size + 1 + 1, 2, none⟩ = some (.slice b s.args.length cb)) := fun X h => ⟨⟨h.g0, h.g1⟩, ⟨h.a0, h.a1, h.a2⟩, h.b0, h.b1, h.b2⟩
  have HC : Hid _ := hC
  have HT : Hid (Tri w (.slice an g.ns.length cn) (.slice aw g.ws.length cw) t (.slice a t.args.length ca) s (.slice b s.args.length cb) _) := hT
  have HP : Hid (SgAt w g (.slice an g.ns.length cn) (.slice aw g.ws.length cw) ∧ ArgsAt w (.slice a t.args.length ca) t.args ∧ ArgsAt w (.slice b s.args.length cb) s.args ∧ RowAt (.int .i64) w (.slice pa p.length pc) p ∧ t.size + s.size ≤ 1048576 ∧ t.size ≤ 1048576 ∧ s.size ≤ 1048576) := ⟨hg, hat, has, hp, hz, hzt, hzs⟩
  obtain ⟨⟨i0, i1⟩, ⟨i2, i3, i4⟩, i5, i6, i7⟩ := hC _ hT
  clear hg hat has hp hz hzt hzs hT hC
  go_enter Try.func6, Try.ntmps6
  go_wp2_with fail
  refine (own_any (.slice an g.ns.length cn) (.slice aw g.ws.length cw) ⟨_, _, _, rfl⟩ ⟨_, _, _, rfl⟩ _).mono ?_
  rintro e W2 ⟨rfl, hb2⟩
  obtain ⟨W3, hW3⟩ : ∃ W3, W2.alloc (.cells #[.slice an g.ns.length cn, .slice aw g.ws.length cw] 32) = W3 := ⟨_, rfl⟩
  have hb23 : Below W2.heap.size W2 W3 := by rw [← hW3]; exact below_box W2 _
  have hT3 := (HT.out.keep hb2).keep hb23
  obtain ⟨o0, o1⟩ := box2_cells W2 (.slice an g.ns.length cn) (.slice aw g.ws.length cw) 32
  rw [hW3] at o0 o1
  have hz3 : W2.heap.size < W3.heap.size := by rw [← hW3]; simp
  have hat := tat_any w p t _ _ W3 hT3.bel (HP.out.2.2.2.1.keep hT3.bel (Nat.le_refl _)) HP.out.2.1
  have HT3 : Hid (Tri w (.slice an g.ns.length cn) (.slice aw g.ws.length cw) t (.slice a t.args.length ca) s (.slice b s.args.length cb) W3) := hT3
  obtain ⟨⟨j0, j1⟩, ⟨j2, j3, j4⟩, j5, j6, j7⟩ := HC.out _ hT3
  clear hT3 hb2 hb23 i0 i1 i2 i3 i4 i5 i6 i7 HT
  try rw [hW3]
  go_wp2_with fail
  try rw [hW3]
  refine hat.mono ?_
  rintro e W4 ⟨r, ra, rc, is, rfl, H4⟩
  clear hat hW3 j0 j1 j2 j3 j4 j5 j6 j7
  obtain ⟨W5, hW5⟩ : ∃ W5, W4.alloc (tbox r (.slice ra r.args.length rc)) = W5 := ⟨_, rfl⟩
  have hb45 : Below W4.heap.size W4 W5 := by rw [← hW5]; exact below_box W4 _
  have hb35 : Below W3.heap.size W3 W5 := bel_tr H4.out.2.1 hb45
  obtain ⟨r0, r1, r2⟩ := tbox_cells W4 r (.slice ra r.args.length rc)
  rw [hW5] at r0 r1 r2
  have hz4 : W4.heap.size < W5.heap.size := by rw [← hW5]; simp
  have HC5 : Hid (∀ X, Below W5.heap.size W5 X → Tri w (.slice an g.ns.length cn) (.slice aw g.ws.length cw) t (.slice a t.args.length ca) s (.slice b s.args.length cb) X ∧ ((X.cell? ⟨w.heap.size, 0, none⟩ = some (.slice an g.ns.length cn) ∧ X.cell? ⟨w.heap.size, 1, none⟩ = some (.slice aw g.ws.length cw)) ∧ (X.cell? ⟨w.heap.size + 1, 0, none⟩ = some (.int .i64 t.v) ∧ X.cell? ⟨w.heap.size + 1, 1, none⟩ = some (.string t.fn) ∧ X.cell? ⟨w.heap.size + 1, 2, none⟩ = some (.slice a t.args.length ca)) ∧ (X.cell? ⟨w.heap.size + 1 + 1, 0, none⟩ = some (.int .i64 s.v) ∧ X.cell? ⟨w.heap.size + 1 + 1, 1, none⟩ = some (.string s.fn) ∧ X.cell? ⟨w.heap.size + 1 + 1, 2, none⟩ = some (.slice b s.args.length cb))) ∧ (X.cell? ⟨W2.heap.size, 0, none⟩ = some (.slice an g.ns.length cn) ∧ X.cell? ⟨W2.heap.size, 1, none⟩ = some (.slice aw g.ws.length cw)) ∧ (X.cell? ⟨W4.heap.size, 0, none⟩ = some (.int .i64 r.v) ∧ X.cell? ⟨W4.heap.size, 1, none⟩ = some (.string r.fn) ∧ X.cell? ⟨W4.heap.size, 2, none⟩ = some (.slice ra r.args.length rc))) := fun X hX => by
    have hX3 := bel_tr hb35 hX
    have hq := HT3.out.keep hX3
    exact ⟨hq, HC.out _ hq, ⟨kc hX3 hz3 o0, kc hX3 hz3 o1⟩, kc hX hz4 r0, kc hX hz4 r1, kc hX hz4 r2⟩
  have h17 : ∀ X, Below W5.heap.size W5 X → Calls Try.prog 9 #[] X fun e X' => e = .returned (.bool true) ∧ Below W5.heap.size W5 X' := fun X hX => lift_to (R := fun e => e = .returned (.bool true)) hX (alive_any X)
  have HB : Hid (∀ X, Below W5.heap.size W5 X → Below w.heap.size w X) := fun X hX => (HC5.out X hX).1.bel
  have h10 : ∀ X, Below W5.heap.size W5 X → Calls Try.prog 17 #[.agg #[.slice an g.ns.length cn, .slice aw g.ws.length cw]] X fun e X' => e = .returned (.bool g.ok) ∧ Below W5.heap.size W5 X' := fun X hX => lift_to (R := fun e => e = .returned (.bool g.ok)) hX (rgright_any g _ _ X (HP.out.1.keep (HB.out X hX) (Nat.le_refl _)))
  have h22t : ∀ X, Below W5.heap.size W5 X → Calls Try.prog 18 #[.agg #[.int .i64 t.v, .string t.fn, .slice a t.args.length ca]] X fun e X' => e = .returned (.int .i64 t.rightW) ∧ Below W5.heap.size W5 X' := fun X hX => lift_to (R := fun e => e = .returned (.int .i64 t.rightW)) hX (rright_any t _ X (ArgsAt.keep (HB.out X hX) (Nat.le_refl _) HP.out.2.1))
  have h22s : ∀ X, Below W5.heap.size W5 X → Calls Try.prog 18 #[.agg #[.int .i64 s.v, .string s.fn, .slice b s.args.length cb]] X fun e X' => e = .returned (.int .i64 s.rightW) ∧ Below W5.heap.size W5 X' := fun X hX => lift_to (R := fun e => e = .returned (.int .i64 s.rightW)) hX (rright_any s _ X (ArgsAt.keep (HB.out X hX) (Nat.le_refl _) HP.out.2.2.1))
  have H11 : Hid (∀ X x sx y sy, Below W5.heap.size W5 X → ArgsAt X sx (T.args x) → ArgsAt X sy (T.args y) → x.size ≤ 1048576 → y.size ≤ 1048576 → Calls Try.prog 10 #[.agg #[.slice an g.ns.length cn, .slice aw g.ws.length cw], tval x sx, tval y sy] X fun e X' => e = .returned (.int .i64 (lcmp g x y)) ∧ Below X.heap.size X X') := fun X x sx y sy hX h1 h2 h3 h4 => lcompare_any g x y _ _ _ _ X (HP.out.1.keep (HB.out X hX) (Nat.le_refl _)) h1 h2 h3 h4
  have HA : Hid (ArgsAt w (.slice ra r.args.length rc) r.args ∧ ((is = true ∧ T.at p t = some r) ∨ (is = false ∧ T.at p t = none))) := ⟨H4.out.1, H4.out.2.2⟩
  obtain ⟨hq5, ⟨⟨u0, u1⟩, ⟨u2, u3, u4⟩, u5, u6, u7⟩, ⟨q0, q1⟩, q2, q3, q4⟩ := HC5.out W5 (Below.refl _ _)
  clear hq5 hb45 hb35 o0 o1 r0 r1 r2 hz3 hz4 H4
  cases is
  · try rw [hW5]
    go_wp2_with fail
    try rw [hW5]
    refine (h17 _ (Below.refl _ _)).mono ?_
    rintro e W6 ⟨rfl, hb6⟩
    go_wp2
    go_ret
    exact ⟨rfl, HB.out _ hb6⟩
  have HAt : Hid (T.at p t = some r) := by
    rcases HA.out.2 with ⟨_, h⟩ | ⟨h, _⟩
    · exact h
    · cases h
  try rw [hW5]
  go_wp2_with fail
  try rw [hW5]
  refine (h10 _ (Below.refl _ _)).mono ?_
  rintro e W6 ⟨rfl, hb6⟩
  clear u0 u1 u2 u3 u4 u5 u6 u7 q0 q1 q2 q3 q4 h10 hW5
  obtain ⟨_, ⟨⟨u0, u1⟩, ⟨u2, u3, u4⟩, u5, u6, u7⟩, ⟨q0, q1⟩, q2, q3, q4⟩ := HC5.out W6 hb6
  cases hok : g.ok
  · clear hok
    go_wp2_with fail
    refine (h17 _ hb6).mono ?_
    rintro e W7 ⟨rfl, hb7⟩
    go_wp2
    go_ret
    exact ⟨rfl, HB.out _ hb7⟩
  have HOk : Hid g.Ok := ok_iff.1 hok
  clear hok
  go_wp2_with fail
  refine (h22t _ hb6).mono ?_
  rintro e W7 ⟨rfl, hb7⟩
  clear u0 u1 u2 u3 u4 u5 u6 u7 q0 q1 q2 q3 q4 hb6
  obtain ⟨_, ⟨⟨u0, u1⟩, ⟨u2, u3, u4⟩, u5, u6, u7⟩, ⟨q0, q1⟩, q2, q3, q4⟩ := HC5.out W7 hb7
  by_cases hrt : t.rightW = 0
  case neg =>
    have e3 : (t.rightW != 0) = true := by rw [bne_iff_ne]; exact hrt
    clear hrt
    go_wp2_with fail
    refine (h17 _ hb7).mono ?_
    rintro e W8 ⟨rfl, hb8⟩
    go_wp2
    go_ret
    exact ⟨rfl, HB.out _ hb8⟩
  have HRt : Hid (t.rightW = 0) := hrt
  rw [hrt]
  clear hrt
  go_wp2_with fail
  refine (h22s _ hb7).mono ?_
  rintro e W8 ⟨rfl, hb8⟩
  clear u0 u1 u2 u3 u4 u5 u6 u7 q0 q1 q2 q3 q4 hb7
  obtain ⟨_, ⟨⟨u0, u1⟩, ⟨u2, u3, u4⟩, u5, u6, u7⟩, ⟨q0, q1⟩, q2, q3, q4⟩ := HC5.out W8 hb8
  by_cases hrs : s.rightW = 0
  case neg =>
    have e3 : (s.rightW != 0) = true := by rw [bne_iff_ne]; exact hrs
    clear hrs
    go_wp2_with fail
    refine (h17 _ hb8).mono ?_
    rintro e W9 ⟨rfl, hb9⟩
    go_wp2
    go_ret
    exact ⟨rfl, HB.out _ hb9⟩
  have HRs : Hid (s.rightW = 0) := hrs
  rw [hrs]
  clear hrs h22t h22s
  have hsmall : Calls Try.prog 8 #[.slice (some ⟨W8.heap.size, 0, none⟩) 2 2] (W8.alloc (.cells #[.int .i64 t.v, .string t.fn, .slice a t.args.length ca, .int .i64 s.v, .string s.fn, .slice b s.args.length cb] 28)) fun e X' => e = .returned (.bool (smallB [t, s])) ∧ Below W5.heap.size W5 X' := (small_any [t, s] _ _ (args_two W8 t s _ _ (ArgsAt.keep (HB.out _ hb8) (Nat.le_refl _) HP.out.2.1) (ArgsAt.keep (HB.out _ hb8) (Nat.le_refl _) HP.out.2.2.1))).mono fun e X' ⟨h1, h2⟩ => ⟨h1, bel_tr (bel_tr hb8 (below_box W8 _)) h2⟩
  go_wp2_with fail
  refine hsmall.mono ?_
  clear u0 u1 u2 u3 u4 u5 u6 u7 q0 q1 q2 q3 q4 hb8 hsmall
  rintro e W8 ⟨rfl, hb8⟩
  obtain ⟨_, ⟨⟨u0, u1⟩, ⟨u2, u3, u4⟩, u5, u6, u7⟩, ⟨q0, q1⟩, q2, q3, q4⟩ := HC5.out W8 hb8
  cases hsm : smallB [t, s]
  · clear hsm
    go_wp2_with fail
    refine (h17 _ hb8).mono ?_
    rintro e W9 ⟨rfl, hb9⟩
    go_wp2
    go_ret
    exact ⟨rfl, HB.out _ hb9⟩
  clear hsm
  have HSz : Hid (r.size ≤ 1048576) := by have := at_size p t r HAt.out; have := HP.out.2.2.2.2.2.1; show _ ≤ _; omega
  have h11tr : p ≠ [] → ∀ X, Below W5.heap.size W5 X → Calls Try.prog 10 #[.agg #[.slice an g.ns.length cn, .slice aw g.ws.length cw], .agg #[.int .i64 t.v, .string t.fn, .slice a t.args.length ca], .agg #[.int .i64 r.v, .string r.fn, .slice ra r.args.length rc]] X fun e X' => e = .returned (.int .i64 1) ∧ Below W5.heap.size W5 X' := fun hpn X hX => by
    have hb := HB.out X hX
    have h := lift_to (R := fun e => e = .returned (.int .i64 (lcmp g t r))) hX (H11.out X t _ r _ hX (ArgsAt.keep hb (Nat.le_refl _) HP.out.2.1) (ArgsAt.keep hb (Nat.le_refl _) HA.out.1) HP.out.2.2.2.2.2.1 HSz.out)
    rw [lcmp_mk HOk.out HRt.out (at_right p t r HP.out.2.2.2.2.2.1 HRt.out HAt.out) (at_lg g p t r (right_shape HRt.out) hpn HAt.out)] at h
    exact h
  have h23 : ∀ X, Below W5.heap.size W5 X → Calls Try.prog 19 #[.agg #[.int .i64 t.v, .string t.fn, .slice a t.args.length ca], .slice pa p.length pc, .agg #[.int .i64 s.v, .string s.fn, .slice b s.args.length cb]] X fun e X' => ∃ q qa qc b2, e = .returned (.tuple #[.agg #[.int .i64 q.v, .string q.fn, .slice qa q.args.length qc], .bool b2]) ∧ Hid (PutAns p s t w X X' q (.slice qa q.args.length qc) b2) := fun X hX => rput_any w s _ HP.out.2.2.1 p t _ _ X (HB.out X hX) (HP.out.2.2.2.1.keep (HB.out X hX) (Nat.le_refl _)) HP.out.2.1 (right_shape HRt.out)
  by_cases hn : p.length = 0
  case' neg =>
    have hpn : p ≠ [] := fun e => hn (by rw [e]; rfl)
    have hn1 : (0 : Int) < (p.length : Int) := by omega
    have hn2 : 0 < p.length := by omega
    have hx := h11tr hpn
    clear hpn h11tr hn
    go_wp2_with fail
    refine (hx _ hb8).mono ?_
    clear u0 u1 u2 u3 u4 u5 u6 u7 q0 q1 q2 q3 q4 hb8
    rintro e W8 ⟨rfl, hb8⟩
    obtain ⟨_, ⟨⟨u0, u1⟩, ⟨u2, u3, u4⟩, u5, u6, u7⟩, ⟨q0, q1⟩, q2, q3, q4⟩ := HC5.out W8 hb8
    clear hx
  case' pos =>
    rw [hn] at h23 ⊢
    clear h11tr hn
  all_goals (
    go_wp2_with fail
    refine (h23 _ hb8).mono ?_
    rintro e W9 ⟨q, qa, qc, b2, rfl, H9⟩
    clear u0 u1 u2 u3 u4 u5 u6 u7 q0 q1 q2 q3 q4
    obtain ⟨W10, hW10⟩ : ∃ W10, W9.alloc (tbox q (.slice qa q.args.length qc)) = W10 := ⟨_, rfl⟩
    have hb910 : Below W9.heap.size W9 W10 := by rw [← hW10]; exact below_box W9 _
    have hb59 : Below W5.heap.size W5 W9 := bel_tr hb8 H9.out.2.1
    have HB510 : Hid (Below W5.heap.size W5 W10) := bel_tr hb59 hb910
    obtain ⟨v0, v1, v2⟩ := tbox_cells W9 q (.slice qa q.args.length qc)
    rw [hW10] at v0 v1 v2
    have hz9 : W9.heap.size < W10.heap.size := by rw [← hW10]; simp
    have HRep : Hid (T.rep p s t = some q) := by
      rcases H9.out.2.2 with ⟨_, h⟩ | ⟨_, h⟩
      · exact h
      · exact absurd h (at_rep s p t r HAt.out)
    have HSq : Hid (q.size ≤ 1048576) := by have := rep_size s p t r q HAt.out HRep.out; have := HP.out.2.2.2.2.1; show _ ≤ _; omega
    have HAq : Hid (ArgsAt W10 (.slice qa q.args.length qc) q.args) := ArgsAt.keep hb910 (Nat.le_refl _) H9.out.1.args
    have HC10 : Hid (∀ X, Below W10.heap.size W10 X → (((X.cell? ⟨w.heap.size + 1, 0, none⟩ = some (.int .i64 t.v) ∧ X.cell? ⟨w.heap.size + 1, 1, none⟩ = some (.string t.fn) ∧ X.cell? ⟨w.heap.size + 1, 2, none⟩ = some (.slice a t.args.length ca)) ∧ (X.cell? ⟨w.heap.size + 1 + 1, 0, none⟩ = some (.int .i64 s.v) ∧ X.cell? ⟨w.heap.size + 1 + 1, 1, none⟩ = some (.string s.fn) ∧ X.cell? ⟨w.heap.size + 1 + 1, 2, none⟩ = some (.slice b s.args.length cb))) ∧ (X.cell? ⟨W2.heap.size, 0, none⟩ = some (.slice an g.ns.length cn) ∧ X.cell? ⟨W2.heap.size, 1, none⟩ = some (.slice aw g.ws.length cw)) ∧ (X.cell? ⟨W4.heap.size, 0, none⟩ = some (.int .i64 r.v) ∧ X.cell? ⟨W4.heap.size, 1, none⟩ = some (.string r.fn) ∧ X.cell? ⟨W4.heap.size, 2, none⟩ = some (.slice ra r.args.length rc))) ∧ (X.cell? ⟨W9.heap.size, 0, none⟩ = some (.int .i64 q.v) ∧ X.cell? ⟨W9.heap.size, 1, none⟩ = some (.string q.fn) ∧ X.cell? ⟨W9.heap.size, 2, none⟩ = some (.slice qa q.args.length qc))) := fun X hX => by
      obtain ⟨_, ⟨_, h1⟩, h2, h3⟩ := HC5.out X (bel_tr HB510.out hX)
      exact ⟨⟨h1, h2, h3⟩, kc hX hz9 v0, kc hX hz9 v1, kc hX hz9 v2⟩
    have HB10 : Hid (∀ X, Below W10.heap.size W10 X → Below w.heap.size w X) := fun X hX => HB.out X (bel_tr HB510.out hX)
    have k17 : ∀ X, Below W10.heap.size W10 X → Calls Try.prog 9 #[] X fun e X' => e = .returned (.bool true) ∧ Below W10.heap.size W10 X' := fun X hX => lift_to (R := fun e => e = .returned (.bool true)) hX (alive_any X)
    have k22 : ∀ X, Below W10.heap.size W10 X → Calls Try.prog 18 #[.agg #[.int .i64 q.v, .string q.fn, .slice qa q.args.length qc]] X fun e X' => e = .returned (.int .i64 q.rightW) ∧ Below W10.heap.size W10 X' := fun X hX => lift_to (R := fun e => e = .returned (.int .i64 q.rightW)) hX (rright_any q _ X (ArgsAt.keep hX (Nat.le_refl _) HAq.out))
    have k11rs : ∀ X, Below W10.heap.size W10 X → Calls Try.prog 10 #[.agg #[.slice an g.ns.length cn, .slice aw g.ws.length cw], .agg #[.int .i64 r.v, .string r.fn, .slice ra r.args.length rc], .agg #[.int .i64 s.v, .string s.fn, .slice b s.args.length cb]] X fun e X' => e = .returned (.int .i64 (lcmp g r s)) ∧ Below W10.heap.size W10 X' := fun X hX => by
      have hb := HB10.out X hX
      exact lift_to (R := fun e => e = .returned (.int .i64 (lcmp g r s))) hX (H11.out X r _ s _ (bel_tr HB510.out hX) (ArgsAt.keep hb (Nat.le_refl _) HA.out.1) (ArgsAt.keep hb (Nat.le_refl _) HP.out.2.2.1) HSz.out HP.out.2.2.2.2.2.2)
    have k11tq : q.rightW = 0 → lcmp g r s = 1 → ∀ X, Below W10.heap.size W10 X → Calls Try.prog 10 #[.agg #[.slice an g.ns.length cn, .slice aw g.ws.length cw], .agg #[.int .i64 t.v, .string t.fn, .slice a t.args.length ca], .agg #[.int .i64 q.v, .string q.fn, .slice qa q.args.length qc]] X fun e X' => e = .returned (.int .i64 1) ∧ Below W10.heap.size W10 X' := fun h1 h2 X hX => by
      have hb := HB10.out X hX
      have h := lift_to (R := fun e => e = .returned (.int .i64 (lcmp g t q))) hX (H11.out X t _ q _ (bel_tr HB510.out hX) (ArgsAt.keep hb (Nat.le_refl _) HP.out.2.1) (ArgsAt.keep hX (Nat.le_refl _) HAq.out) HP.out.2.2.2.2.2.1 HSq.out)
      rw [lcmp_mk HOk.out HRt.out h1 (rep_lg g s p t r q (right_shape HRt.out) HAt.out HRep.out (lcmp_one h2).2.2.2)] at h
      exact h
    have k11ts : ∀ X, Below W10.heap.size W10 X → Calls Try.prog 10 #[.agg #[.slice an g.ns.length cn, .slice aw g.ws.length cw], .agg #[.int .i64 t.v, .string t.fn, .slice a t.args.length ca], .agg #[.int .i64 s.v, .string s.fn, .slice b s.args.length cb]] X fun e X' => e = .returned (.int .i64 (lcmp g t s)) ∧ Below W10.heap.size W10 X' := fun X hX => by
      have hb := HB10.out X hX
      exact lift_to (R := fun e => e = .returned (.int .i64 (lcmp g t s))) hX (H11.out X t _ s _ (bel_tr HB510.out hX) (ArgsAt.keep hb (Nat.le_refl _) HP.out.2.1) (ArgsAt.keep hb (Nat.le_refl _) HP.out.2.2.1) HP.out.2.2.2.2.2.1 HP.out.2.2.2.2.2.2)
    have k24 : ∀ X (x : T) xa xc, Below W10.heap.size W10 X → ArgsAt w (.slice xa x.args.length xc) x.args → x.size ≤ 1048576 → Calls Try.prog 20 #[.agg #[.int .i64 x.v, .string x.fn, .slice xa x.args.length xc]] X fun e X' => ∃ ya yk yc, e = .returned (.slice ya yk yc) ∧ yk ≤ 1048576 ∧ Hid (yk = 0 → x.vs = []) ∧ Below W10.heap.size W10 X' := fun X x xa xc hX hx hzx => by
      have hvl := vs_len x
      refine (rvars_any x _ X (ArgsAt.keep (HB10.out X hX) (Nat.le_refl _) hx) (by omega)).mono fun e X' ⟨v', k, he, hrow, hbel⟩ => ?_
      obtain ⟨ya, yc, rfl⟩ := row_slice hrow
      have hl : (x.vs.foldl wth []).length = k := by have := hrow.1; simpa using this
      have hlen := wths_len x.vs []
      simp only [List.length_nil] at hlen
      exact ⟨ya, k, yc, he, by omega, fun h0 => vars_none (by omega), bel_tr hX hbel⟩
    obtain ⟨⟨⟨⟨u2, u3, u4⟩, u5, u6, u7⟩, ⟨q0, q1⟩, q2, q3, q4⟩, q5, q6, q7⟩ := HC10.out W10 (Below.refl _ _)
    clear v0 v1 v2 hz9 hb910 hb59 hb8 h23 H9 h17
    try rw [hW10]
    go_wp2_with fail
    try rw [hW10]
    refine (k22 _ (Below.refl _ _)).mono ?_
    rintro e W11 ⟨rfl, hb11⟩
    clear u2 u3 u4 u5 u6 u7 q0 q1 q2 q3 q4 q5 q6 q7 hW10 k22
    obtain ⟨⟨⟨⟨u2, u3, u4⟩, u5, u6, u7⟩, ⟨q0, q1⟩, q2, q3, q4⟩, q5, q6, q7⟩ := HC10.out W11 hb11
    by_cases hrq : q.rightW = 0
    case' neg =>
      have e3 : (q.rightW == 0) = false := by rw [beq_eq_false_iff_ne]; exact hrq
      clear hrq k11tq k11rs
      go_wp2
    case' pos =>
      have kk := k11tq hrq
      rw [hrq]
      clear hrq k11tq
      go_wp2_with fail
      refine (k11rs _ hb11).mono ?_
      clear u2 u3 u4 u5 u6 u7 q0 q1 q2 q3 q4 q5 q6 q7 hb11
      rintro e W11 ⟨rfl, hb11⟩
      obtain ⟨⟨⟨⟨u2, u3, u4⟩, u5, u6, u7⟩, ⟨q0, q1⟩, q2, q3, q4⟩, q5, q6, q7⟩ := HC10.out W11 hb11
      by_cases hrs1 : lcmp g r s = 1
      case' neg =>
        have e3 : (lcmp g r s == 1) = false := by rw [beq_eq_false_iff_ne]; exact hrs1
        clear hrs1 kk k11rs
        go_wp2
      case' pos =>
        have kk2 := kk hrs1
        rw [hrs1]
        clear hrs1 kk k11rs
        go_wp2_with fail
        refine (kk2 _ hb11).mono ?_
        clear u2 u3 u4 u5 u6 u7 q0 q1 q2 q3 q4 q5 q6 q7 hb11
        rintro e W11 ⟨rfl, hb11⟩
        obtain ⟨⟨⟨⟨u2, u3, u4⟩, u5, u6, u7⟩, ⟨q0, q1⟩, q2, q3, q4⟩, q5, q6, q7⟩ := HC10.out W11 hb11
        clear kk2
        go_wp2
    all_goals (
      have hb11d : Below W10.heap.size W10 W11.drew := hb11.drew
      have K0 := (HC10.out _ hb11d).1.1
      clear u2 u3 u4 u5 u6 u7 q0 q1 q2 q3 q4 q5 q6 q7
      go_region_held3 (fun X => (X.cell? ⟨w.heap.size + 1, 0, none⟩ = some (.int .i64 t.v) ∧ X.cell? ⟨w.heap.size + 1, 1, none⟩ = some (.string t.fn) ∧ X.cell? ⟨w.heap.size + 1, 2, none⟩ = some (.slice a t.args.length ca)) ∧ (X.cell? ⟨w.heap.size + 1 + 1, 0, none⟩ = some (.int .i64 s.v) ∧ X.cell? ⟨w.heap.size + 1 + 1, 1, none⟩ = some (.string s.fn) ∧ X.cell? ⟨w.heap.size + 1 + 1, 2, none⟩ = some (.slice b s.args.length cb))) (first | exact K0 | exact K1 | exact K2) (first
        | (go_at_call 20; refine (k24 _ s b cb hbx1 HP.out.2.2.1 HP.out.2.2.2.2.2.2).mono ?_; rintro e X2 ⟨ya2, yk2, yc2, rfl, hy2, HY2, hbx2⟩; have K2 := (HC10.out _ hbx2).1.1; have hw1 : IntKind.i64.wrap ((yk1 : Int) + (yk2 : Int)) = (yk1 : Int) + (yk2 : Int) := (wrapK _).trans (wrap_small (by omega) (by omega)); have hw2 : IntKind.i64.wrap ((yk2 : Int) + (yk1 : Int)) = (yk2 : Int) + (yk1 : Int) := (wrapK _).trans (wrap_small (by omega) (by omega)))
        | (go_at_call 20; refine (k24 _ t a ca hbx1 HP.out.2.1 HP.out.2.2.2.2.2.1).mono ?_; rintro e X2 ⟨ya2, yk2, yc2, rfl, hy2, HY2, hbx2⟩; have K2 := (HC10.out _ hbx2).1.1; have hw1 : IntKind.i64.wrap ((yk1 : Int) + (yk2 : Int)) = (yk1 : Int) + (yk2 : Int) := (wrapK _).trans (wrap_small (by omega) (by omega)); have hw2 : IntKind.i64.wrap ((yk2 : Int) + (yk1 : Int)) = (yk2 : Int) + (yk1 : Int) := (wrapK _).trans (wrap_small (by omega) (by omega)))
        | (go_at_call 20; refine (k24 _ t a ca hb11d HP.out.2.1 HP.out.2.2.2.2.2.1).mono ?_; rintro e X1 ⟨ya1, yk1, yc1, rfl, hy1, HY1, hbx1⟩; have K1 := (HC10.out _ hbx1).1.1)
        | (go_at_call 20; refine (k24 _ s b cb hb11d HP.out.2.2.1 HP.out.2.2.2.2.2.2).mono ?_; rintro e X1 ⟨ya1, yk1, yc1, rfl, hy1, HY1, hbx1⟩; have K1 := (HC10.out _ hbx1).1.1))
      all_goals (
        obtain ⟨⟨⟨⟨u2, u3, u4⟩, u5, u6, u7⟩, ⟨q0, q1⟩, q2, q3, q4⟩, q5, q6, q7⟩ := HC10.out X2 hbx2
        have HG : Hid (yk1 = 0 → yk2 = 0 → lcmp g t s ≠ 2) := fun h1 h2 => by
          first
          | exact ground_cmp HOk.out HRt.out HRs.out (HY1.out h1) (HY2.out h2)
          | exact ground_cmp HOk.out HRt.out HRs.out (HY2.out h2) (HY1.out h1)
        clear K0 K1 K2 k24 HY1 HY2
        by_cases hgz : yk1 = 0 ∧ yk2 = 0
        · have e5 : (lcmp g t s != 2) = true := by rw [bne_iff_ne]; exact HG.out hgz.1 hgz.2
          obtain ⟨rfl, rfl⟩ := hgz
          go_wp2_with fail
          refine (k11ts _ hbx2).mono ?_
          rintro e W12 ⟨rfl, hb12⟩
          go_wp2_with fail
          refine (k17 _ hb12).mono ?_
          rintro e W13 ⟨rfl, hb13⟩
          go_wp2
          go_ret
          exact ⟨rfl, HB10.out _ hb13⟩
        · have e5 : (((yk1 : Int) + (yk2 : Int)) == 0) = false := by rw [beq_eq_false_iff_ne]; omega
          have e6 : (((yk2 : Int) + (yk1 : Int)) == 0) = false := by rw [beq_eq_false_iff_ne]; omega
          clear hgz
          go_wp2_with fail
          refine (k17 _ hbx2).mono ?_
          rintro e W13 ⟨rfl, hb13⟩
          go_wp2
          go_ret
          exact ⟨rfl, HB10.out _ hb13⟩)))

end Go.Proofs.Ytpahgmidofacaaa

/-
  Signatures that came in as arguments: how they lie in memory.
-/
namespace Go.Proofs.Ytpahgmidofacaaa
open Go.ChangeShapes Go.WideShapes Go.ChangeAt Go.RowKit

theorem Try.cells22 : Try.prog.cellsOf 22 = 1 := by kernel_rfl
theorem Try.cells23 : Try.prog.cellsOf 23 = 1 := by kernel_rfl
theorem Try.cells25 : Try.prog.cellsOf 25 = 2 := by kernel_rfl

theorem list2 {cs : List Value} (h : cs.length = 2) : ∃ c0 c1, cs = [c0, c1] := by
  match cs, h with
  | [c0, c1], _ => exact ⟨c0, c1, rfl⟩
theorem list1 {cs : List Value} (h : cs.length = 1) : ∃ c0, cs = [c0] := by
  match cs, h with
  | [c0], _ => exact ⟨c0, rfl⟩

theorem row_of {α : Type} [Inhabited α] {f : α → Value} {W : World} {a : Addr} {len cap : Nat} {P : α → Prop} (hl : len ≤ cap) (hm : cap ≤ 9223372036854775807) (h : ∀ i, i < len → ∃ x, W.cell? ((a.add i).add 0) = some (f x) ∧ P x) : ∃ l : List α, l.length = len ∧ RowAt f W (.slice (some a) len cap) l ∧ ∀ x ∈ l, P x := by
  by_cases h0 : len = 0
  · subst h0
    exact ⟨[], rfl, ⟨some a, cap, rfl, Nat.zero_le _, hm, fun h => absurd h (by simp)⟩, by simp⟩
  · obtain ⟨x0, hc0, _⟩ := h 0 (by omega)
    have hxb : ∃ b o, a = ⟨b, o, none⟩ := by
      obtain ⟨b, o, spot⟩ := a
      have hspot : spot = none := by simpa [Addr.add] using World.cell?_spot hc0
      exact ⟨b, o, by rw [hspot]⟩
    obtain ⟨b, o, rfl⟩ := hxb
    obtain ⟨e, he⟩ := Deep.choose_lt h
    have hlt : b < W.heap.size := by have := lt_of_cell hc0; simpa [Addr.add] using this
    have hlen : ((List.range len).map e).length = len := by simp
    refine ⟨(List.range len).map e, hlen, ⟨some ⟨b, o, none⟩, cap, by rw [hlen], by omega, hm, fun _ => ⟨b, o, hlt, rfl, fun i hi => ?_⟩⟩, fun x hx => ?_⟩
    · have hi' : i < len := by rwa [hlen] at hi
      have := (he i hi').1
      rw [addr_add, addr_add, Nat.add_zero] at this
      simpa using this
    · obtain ⟨i, hi, rfl⟩ := List.mem_map.1 hx
      exact (he i (List.mem_range.1 hi)).2

theorem strs_trod {H : Type} {enc : TypeId × Value → H} {W : World} {fuel : Nat} {v : Value} {x : DataW H × List MemPlace} (h : DataW.trod enc Try.prog W 0 (fun _ => true) true fuel 22 [v] = some x) : ∃ l, RowAt .string W v l ∧ ∀ s ∈ l, s.size ≤ maxLen := by
  rcases DataW.trod_slice Try.underlying22 h with ⟨hcs, hx⟩ | ⟨a, len, cap, elems, rest, n, rfl, hcs, hx, _, hl, hm, hel, hat, _⟩
  · simp only [List.cons.injEq, and_true] at hcs
    subst hcs
    exact ⟨[], ⟨none, 0, rfl, Nat.le_refl _, by decide, fun h => absurd h (by simp)⟩, by simp⟩
  · simp only [List.cons.injEq, and_true] at hcs
    subst hcs
    rw [Try.cells9] at hat
    have each : ∀ i, i < len → ∃ s : ByteArray, W.cell? ((a.add i).add 0) = some (.string s) ∧ s.size ≤ maxLen := by
      intro i hi
      have hi' := hat i hi
      rw [List.getElem?_eq_getElem (by omega)] at hi'
      obtain ⟨cs, hc, ht⟩ := Option.bind_eq_some_iff.1 hi'
      obtain ⟨_, hlen, hcell⟩ := World.cells?_some hc
      obtain ⟨c0, rfl⟩ := list1 hlen
      obtain ⟨s, e1, z1, w1⟩ := DataW.trod_string Try.underlying9 ht
      simp at e1
      subst e1
      exact ⟨s, by simpa using hcell 0 (by simp), w1⟩
    haveI : Inhabited ByteArray := ⟨⟨#[]⟩⟩
    obtain ⟨l, hlen, hr, hP⟩ := row_of (P := fun s : ByteArray => s.size ≤ maxLen) hl (by unfold maxLen at hm; omega) each
    exact ⟨l, hr, hP⟩

theorem ints_trod {H : Type} {enc : TypeId × Value → H} {W : World} {fuel : Nat} {v : Value} {x : DataW H × List MemPlace} (h : DataW.trod enc Try.prog W 0 (fun _ => true) true fuel 23 [v] = some x) : ∃ l : List Int, RowAt (.int .i64) W v l ∧ ∀ i ∈ l, (Lit.int .i64 i).wf = true := by
  rcases DataW.trod_slice Try.underlying23 h with ⟨hcs, hx⟩ | ⟨a, len, cap, elems, rest, n, rfl, hcs, hx, _, hl, hm, hel, hat, _⟩
  · simp only [List.cons.injEq, and_true] at hcs
    subst hcs
    exact ⟨[], ⟨none, 0, rfl, Nat.le_refl _, by decide, fun h => absurd h (by simp)⟩, by simp⟩
  · simp only [List.cons.injEq, and_true] at hcs
    subst hcs
    rw [Try.cells3] at hat
    have each : ∀ i, i < len → ∃ s : Int, W.cell? ((a.add i).add 0) = some (.int .i64 s) ∧ (Lit.int .i64 s).wf = true := by
      intro i hi
      have hi' := hat i hi
      rw [List.getElem?_eq_getElem (by omega)] at hi'
      obtain ⟨cs, hc, ht⟩ := Option.bind_eq_some_iff.1 hi'
      obtain ⟨_, hlen, hcell⟩ := World.cells?_some hc
      obtain ⟨c0, rfl⟩ := list1 hlen
      obtain ⟨s, e1, z1, w1⟩ := DataW.trod_int Try.underlying3 ht
      simp at e1
      subst e1
      exact ⟨s, by simpa using hcell 0 (by simp), w1⟩
    obtain ⟨l, hlen, hr, hP⟩ := row_of (P := fun s : Int => (Lit.int .i64 s).wf = true) hl (by unfold maxLen at hm; omega) each
    exact ⟨l, hr, hP⟩

set_option maxRecDepth 100000 in
/-- What is read of a signature that came in. -/
theorem sign_in {H : Type} {enc : TypeId × Value → H} {W : World} {base : Nat} {v : Value} {d : DataW H} {p : List MemPlace} (hv : Value.okWide Try.prog W .any base 25 v)
    (h : DataW.Trod enc Try.prog W 0 (fun _ => true) true 25 v d p) : ∃ g vn vw, v = gval vn vw ∧ SgAt W g vn vw := by
  obtain ⟨cs, rfl, hcs⟩ := okWide_struct Try.underlying25 hv
  obtain ⟨fuel, hf⟩ := h
  obtain ⟨xs, n, rfl, hx, hlen, hxs, hf⟩ := DataW.trod_struct Try.underlying25 hf
  rw [Try.cells25] at hlen
  obtain ⟨c0, c1, hcc⟩ := list2 hlen
  rw [hcc] at hf
  match xs, hxs, hx, hf with
  | [y0, y1], _, hx, hf =>
    have t0 : DataW.trod enc Try.prog W 0 (fun _ => true) true n 22 (List.take (Try.prog.cellsOf 22) (List.drop 0 [c0, c1])) = some y0 := hf 0 _ rfl
    have t1 : DataW.trod enc Try.prog W 0 (fun _ => true) true n 23 (List.take (Try.prog.cellsOf 23) (List.drop 1 [c0, c1])) = some y1 := hf 1 _ rfl
    rw [Try.cells22] at t0
    rw [Try.cells23] at t1
    obtain ⟨l, h1, h2⟩ := strs_trod (v := c0) t0
    obtain ⟨m, h3, _⟩ := ints_trod (v := c1) t1
    refine ⟨⟨l, m⟩, c0, c1, ?_, ⟨h1, h3, h2⟩⟩
    obtain ⟨cl⟩ := cs
    have h2 : cl = [c0, c1] := hcc
    rw [h2]

end Go.Proofs.Ytpahgmidofacaaa

/-
  Places that came in.
-/
namespace Go.Proofs.Ytpahgmidofacaaa
open Go.ChangeShapes Go.WideShapes Go.ChangeAt Go.RowKit

theorem place_in {H : Type} {enc : TypeId × Value → H} {W : World} {a : Option Addr} {n c : Nat} {d : DataW H} {p : List MemPlace}
    (h : DataW.Trod enc Try.prog W 0 (fun _ => true) true 23 (.slice a n c) d p) : ∃ l : List Int, RowAt (.int .i64) W (.slice a n c) l ∧ ∀ i ∈ l, (Lit.int .i64 i).wf = true := by
  obtain ⟨fuel, hf⟩ := h
  exact ints_trod hf

end Go.Proofs.Ytpahgmidofacaaa
