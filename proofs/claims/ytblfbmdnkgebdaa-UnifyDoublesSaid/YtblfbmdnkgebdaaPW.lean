/-
  The document's Match.
-/
import Derived.Test.YtblfbmdnkgebdaaPV
import Derived.Test.YtblfbmdnkgebdaaPR
namespace Go.Proofs.Ytblfbmdnkgebdaa
open Go.RowKit Go.Maps

/-- What the document's Match answers. -/
def RMatchIs (p t : T) (e : Ending) (W : World) : Prop :=
  (¬ (p.rightW = 0 ∧ t.rightW = 0) ∧ e = .returned (.tuple #[.slice none 0 0, .bool false, .int .i64 1])) ∨
  ((p.rightW = 0 ∧ t.rightW = 0) ∧ dmt p t [] = none ∧ e = .returned (.tuple #[.slice none 0 0, .bool false, .int .i64 0])) ∨
  ((p.rightW = 0 ∧ t.rightW = 0) ∧ ∃ s v, dmt p t [] = some s ∧ e = .returned (.tuple #[v, .bool true, .int .i64 0]) ∧ BindsAt W v (s.filter notSelf))

theorem rright_at (t : T) (st : Value) (w0 W : World) (hb : Below w0.heap.size w0 W) (ht : ArgsAt w0 st t.args) :
    Calls Try.prog 23 #[tval t st] W fun e W' => e = .returned (.int .i64 t.rightW) ∧ Below W.heap.size W W' :=
  rright_any t st W (ArgsAt.keep hb (Nat.le_refl _) ht)

set_option maxRecDepth 100000 in
set_option maxHeartbeats 2000000 in
theorem rmatchd_any (p t : T) (sp st : Value) (w : World) (hp : ArgsAt w sp p.args) (ht : ArgsAt w st t.args) (hps : p.size ≤ 1048576) :
    Calls Try.prog 14 #[tval p sp, tval t st] w fun e W => RMatchIs p t e W ∧ Below w.heap.size w W := by
  obtain ⟨pa, pc, rfl, _, _⟩ := hp.slice
  obtain ⟨ta, tc, rfl, _, _⟩ := ht.slice
  have hb2 := below_box2 w (tbox p (.slice pa p.args.length pc)) (tbox t (.slice ta t.args.length tc))
  obtain ⟨⟨p0, p1, p2⟩, ⟨t0, t1, t2⟩⟩ := tbox2_cells w p (.slice pa p.args.length pc) t (.slice ta t.args.length tc)
  have HB : Hid (Below w.heap.size w (tbox2 w p (.slice pa p.args.length pc) t (.slice ta t.args.length tc))) := hb2
  have HRp : Hid (∀ W, Below w.heap.size w W → Calls Try.prog 23 #[tval p (.slice pa p.args.length pc)] W fun e W' => e = .returned (.int .i64 p.rightW) ∧ Below W.heap.size W W') := fun W h => rright_at p _ w W h hp
  have HRt : Hid (∀ W, Below w.heap.size w W → Calls Try.prog 23 #[tval t (.slice ta t.args.length tc)] W fun e W' => e = .returned (.int .i64 t.rightW) ∧ Below W.heap.size W W') := fun W h => rright_at t _ w W h ht
  have hrp := HRp.out _ hb2
  by_cases h1 : p.rightW = 0
  · have h1' : (p.rightW != 0) = false := by rw [bne_eq_false_iff_eq]; exact h1
    by_cases h2 : t.rightW = 0
    · have h2' : (t.rightW != 0) = false := by rw [bne_eq_false_iff_eq]; exact h2
      have hnn : p.nn ≤ 4000 := (right_zero h1 hps).2
      have hlen := dmt_len p t [] 
      have HMA : Hid (∀ W, Below w.heap.size w W → Calls Try.prog 41 #[.slice none 0 0, tval p (.slice pa p.args.length pc), tval t (.slice ta t.args.length tc)] W fun e W' => Below W.heap.size W W' ∧ ∃ v', e = .returned (.tuple #[v', .bool (dmt p t []).isSome]) ∧ ∀ s', dmt p t [] = some s' →
          Calls Try.prog 42 #[v'] W' fun e W'' => ∃ v, e = .returned v ∧ BindsAt W'' v (s'.filter notSelf) ∧ Below W'.heap.size W' W'') := fun W h => (rmatch_any p t _ _ (.slice none 0 0) [] W (binds_nil W) (ArgsAt.keep h (Nat.le_refl _) hp) (ArgsAt.keep h (Nat.le_refl _) ht) (by simp; omega)).mono (fun e W' h => ⟨h.1, h.2.imp fun v' h2 => ⟨h2.1, fun s' hs' => rown_any s' v' W' (h2.2 s' hs') (by have := hlen s' hs'; simp at this; omega)⟩⟩)
      clear hlen hnn
      rcases hres : dmt p t [] with _ | s1
      · have hn' : (dmt p t []).isSome = false := by rw [hres]; rfl
        rw [hn'] at HMA
        have HM : Hid (∀ W, RMatchIs p t (.returned (.tuple #[.slice none 0 0, .bool false, .int .i64 0])) W) := fun W => .inr (.inl ⟨⟨h1, h2⟩, hres, rfl⟩)
        clear h1 h2 hp ht hps hb2 hres
        go_enter Try.func14, Try.ntmps14
        go_wp2_with (first
          | (go_at_call 41; refine hma.mono ?_; rintro e W3 ⟨hb3, v', rfl, _⟩)
          | (go_at_call 23; refine hrt.mono ?_; rintro e W2 ⟨rfl, hb2'⟩; have c0 := kc hb2' (by have := HB1.out.2; simp at this; omega) a0; have c1 := kc hb2' (by have := HB1.out.2; simp at this; omega) a1; have c2 := kc hb2' (by have := HB1.out.2; simp at this; omega) a2; have d0 := kc hb2' (by have := HB1.out.2; simp at this; omega) b0; have d1 := kc hb2' (by have := HB1.out.2; simp at this; omega) b1; have d2 := kc hb2' (by have := HB1.out.2; simp at this; omega) b2; have HB2 : Hid (Below w.heap.size w W2) := HB1.out.1.trans (hb2'.mono HB1.out.1.size); have hma := HMA.out W2 HB2.out; clear hb2' hrt)
          | (go_at_call 23; refine hrp.mono ?_; rintro e W1 ⟨rfl, hb1⟩; have a0 := kc hb1 (by simp; omega) p0; have a1 := kc hb1 (by simp; omega) p1; have a2 := kc hb1 (by simp; omega) p2; have b0 := kc hb1 (by simp) t0; have b1 := kc hb1 (by simp) t1; have b2 := kc hb1 (by simp) t2; have HB1 : Hid (Below w.heap.size w W1 ∧ (tbox2 w p (.slice pa p.args.length pc) t (.slice ta t.args.length tc)).heap.size ≤ W1.heap.size) := ⟨HB.out.trans (hb1.mono (by simp; omega)), hb1.size⟩; have hrt := HRt.out W1 HB1.out.1; clear hb1 hrp))
        refine bodyPost_ret (v := .tuple #[.slice none 0 0, .bool false, .int .i64 0]) (by simp [results, Try.results14, go_sem]) rfl ?_
        exact ⟨HM.out _, HB2.out.trans (hb3.mono HB2.out.size)⟩
      · have hn' : (dmt p t []).isSome = true := by rw [hres]; rfl
        rw [hn'] at HMA
        have HM : Hid ((p.rightW = 0 ∧ t.rightW = 0) ∧ dmt p t [] = some s1) := ⟨⟨h1, h2⟩, hres⟩
        clear h1 h2 hp ht hps hb2 hres
        go_enter Try.func14, Try.ntmps14
        go_wp2_with (first
          | (go_at_call 42; refine hli.mono ?_; rintro e W4 ⟨v, rfl, k2, k3⟩; have HL : Hid (BindsAt W4 v (s1.filter notSelf) ∧ Below W3.heap.size W3 W4) := ⟨k2, k3⟩; clear k2 k3 hli)
          | (go_at_call 41; refine hma.mono ?_; rintro e W3 ⟨hb3, v', rfl, hk⟩; have hli := hk s1 HM.out.2; have HB3 : Hid (Below w.heap.size w W3) := HB2.out.trans (hb3.mono HB2.out.size); clear hk hma hb3)
          | (go_at_call 23; refine hrt.mono ?_; rintro e W2 ⟨rfl, hb2'⟩; have c0 := kc hb2' (by have := HB1.out.2; simp at this; omega) a0; have c1 := kc hb2' (by have := HB1.out.2; simp at this; omega) a1; have c2 := kc hb2' (by have := HB1.out.2; simp at this; omega) a2; have d0 := kc hb2' (by have := HB1.out.2; simp at this; omega) b0; have d1 := kc hb2' (by have := HB1.out.2; simp at this; omega) b1; have d2 := kc hb2' (by have := HB1.out.2; simp at this; omega) b2; have HB2 : Hid (Below w.heap.size w W2) := HB1.out.1.trans (hb2'.mono HB1.out.1.size); have hma := HMA.out W2 HB2.out; clear hb2' hrt)
          | (go_at_call 23; refine hrp.mono ?_; rintro e W1 ⟨rfl, hb1⟩; have a0 := kc hb1 (by simp; omega) p0; have a1 := kc hb1 (by simp; omega) p1; have a2 := kc hb1 (by simp; omega) p2; have b0 := kc hb1 (by simp) t0; have b1 := kc hb1 (by simp) t1; have b2 := kc hb1 (by simp) t2; have HB1 : Hid (Below w.heap.size w W1 ∧ (tbox2 w p (.slice pa p.args.length pc) t (.slice ta t.args.length tc)).heap.size ≤ W1.heap.size) := ⟨HB.out.trans (hb1.mono (by simp; omega)), hb1.size⟩; have hrt := HRt.out W1 HB1.out.1; clear hb1 hrp))
        refine bodyPost_ret (v := .tuple #[v, .bool true, .int .i64 0]) (by simp [results, Try.results14, go_sem]) rfl ?_
        exact ⟨.inr (.inr ⟨HM.out.1, s1, v, HM.out.2, rfl, HL.out.1⟩), HB3.out.trans (HL.out.2.mono HB3.out.size)⟩
    · have HM : Hid (∀ W, RMatchIs p t (.returned (.tuple #[.slice none 0 0, .bool false, .int .i64 1])) W) := fun W => .inl ⟨fun h => h2 h.2, rfl⟩
      have h2' : (t.rightW != 0) = true := by rw [bne_iff_ne]; exact h2
      clear h1 h2 hp ht hps hb2
      go_enter Try.func14, Try.ntmps14
      go_wp2_with (first
        | (go_at_call 23; refine hrt.mono ?_; rintro e W2 ⟨rfl, hb2'⟩)
        | (go_at_call 23; refine hrp.mono ?_; rintro e W1 ⟨rfl, hb1⟩; have a0 := kc hb1 (by simp; omega) p0; have a1 := kc hb1 (by simp; omega) p1; have a2 := kc hb1 (by simp; omega) p2; have b0 := kc hb1 (by simp) t0; have b1 := kc hb1 (by simp) t1; have b2 := kc hb1 (by simp) t2; have HB1 : Hid (Below w.heap.size w W1 ∧ (tbox2 w p (.slice pa p.args.length pc) t (.slice ta t.args.length tc)).heap.size ≤ W1.heap.size) := ⟨HB.out.trans (hb1.mono (by simp; omega)), hb1.size⟩; have hrt := HRt.out W1 HB1.out.1; clear hb1 hrp))
      refine bodyPost_ret (v := .tuple #[.slice none 0 0, .bool false, .int .i64 1]) (by simp [results, Try.results14, go_sem]) rfl ?_
      exact ⟨HM.out _, HB1.out.1.trans (hb2'.mono HB1.out.1.size)⟩
  · have HM : Hid (∀ W, RMatchIs p t (.returned (.tuple #[.slice none 0 0, .bool false, .int .i64 1])) W) := fun W => .inl ⟨fun h => h1 h.1, rfl⟩
    have h1' : (p.rightW != 0) = true := by rw [bne_iff_ne]; exact h1
    clear h1 hb2 hp ht hps
    go_enter Try.func14, Try.ntmps14
    go_wp2_with (go_at_call 23; refine hrp.mono ?_; rintro e W1 ⟨rfl, hb1⟩)
    refine bodyPost_ret (v := .tuple #[.slice none 0 0, .bool false, .int .i64 1]) (by simp [results, Try.results14, go_sem]) rfl ?_
    exact ⟨HM.out _, HB.out.trans (hb1.mono (by simp; omega))⟩

end Go.Proofs.Ytblfbmdnkgebdaa
