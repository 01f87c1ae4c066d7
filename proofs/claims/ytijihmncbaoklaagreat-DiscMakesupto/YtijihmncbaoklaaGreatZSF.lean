import Derived.Test.YtijihmncbaoklaaGreatZK

/-
  Binds in memory; subst.isVar and subst.Right.
-/
namespace Go.Proofs.YtijihmncbaoklaaGreat
open Go.RowKit
abbrev bdbox (b : Bd) (sl : Value) : Obj := .cells #[.int .i64 b.1, .int .i64 b.2.v, .string b.2.fn, sl] 116

abbrev bval (b : Bd) (sl : Value) : Value := .agg #[.int .i64 b.1, .int .i64 b.2.v, .string b.2.fn, sl]
/-- Is the bind the variable itself? -/
def own1 (x : Bd) : Bool := decide (x.2.fn.size = 0) && decide (x.2.v = x.1)
/-- May the bind stand behind one of that number? -/
def okb (last : Int) (x : Bd) : Bool := decide (last < x.1) && decide (x.1 < 1000000) && !own1 x && decide (x.2.rightW = 0)
/-- The number ahead of place j. -/
def prv (l : List Bd) : Nat → Int
  | 0 => -1
  | k + 1 => (l[k]?.map (·.1)).getD 0
/-- Is it a substitution? -/
def IsSub (l : List Bd) : Prop := l.length ≤ 4000 ∧ ∀ j (h : j < l.length), okb (prv l j) l[j] = true
open Classical in
noncomputable def isSub (l : List Bd) : Bool := decide (IsSub l)
theorem isSub_iff {l : List Bd} : isSub l = true ↔ IsSub l := by simp [isSub]
theorem isSub_false {l : List Bd} : isSub l = false ↔ ¬ IsSub l := by simp [isSub]
/-- What Right answers. -/
noncomputable def subW (l : List Bd) : Int := if isSub l then 0 else 1
theorem subW_t {l : List Bd} (h : isSub l = true) : subW l = 0 := by unfold subW; rw [h]; rfl
theorem subW_f {l : List Bd} (h : isSub l = false) : subW l = 1 := by unfold subW; rw [h]; rfl
theorem prv_succ (l : List Bd) (j : Nat) (h : j < l.length) : prv l (j + 1) = l[j].1 := by simp [prv, h]

theorem okb_false {last : Int} {x : Bd} (h : x.1 ≤ last ∨ 1000000 ≤ x.1 ∨ own1 x = true ∨ x.2.rightW ≠ 0) : okb last x = false := by
  unfold okb
  rcases h with h | h | h | h
  · rw [decide_eq_false (by omega : ¬ last < x.1)]; rfl
  · rw [decide_eq_false (by omega : ¬ x.1 < 1000000)]; simp
  · rw [h]; simp
  · rw [decide_eq_false h]; simp

theorem okb_true {last : Int} {x : Bd} (h1 : last < x.1) (h2 : x.1 < 1000000) (h3 : own1 x = false) (h4 : x.2.rightW = 0) : okb last x = true := by
  unfold okb
  simp [h1, h2, h3, h4]

theorem not_sub {l : List Bd} {j : Nat} (h : j < l.length) (hb : okb (prv l j) l[j] = false) : isSub l = false := by
  refine isSub_false.2 fun hs => ?_
  rw [hs.2 j h] at hb
  cases hb

set_option maxHeartbeats 400000 in
theorem sisVar_any (t : T) (n : Int) (sl : Value) (w : World) (hs : ∃ a n c, sl = .slice a n c) :
    Calls Tryz.prog 69 #[tval t sl, .int .i64 n] w fun e w' => e = .returned (.bool (decide (t.fn.size = 0) && decide (t.v = n))) ∧ w' = w.alloc (tbox t sl) := by
  obtain ⟨a, m, c, rfl⟩ := hs
  obtain ⟨t0, t1, t2⟩ := tbox_cells w t (.slice a m c)
  by_cases h0 : t.fn.size = 0
  · have hdd : t.fn.toList.isEmpty = true := by rw [ba_isEmpty]; simp [h0]
    have hd : Hid (decide (t.fn.size = 0) = true) := decide_eq_true h0
    clear h0
    go_enter Tryz.func69, Tryz.ntmps69
    go_wp2
    go_ret
    exact ⟨ret_bool (by rw [hd]; rfl), rfl⟩
  · have hdd : t.fn.toList.isEmpty = false := by rw [ba_isEmpty]; exact decide_eq_false h0
    have hd : Hid (decide (t.fn.size = 0) = false) := decide_eq_false h0
    clear h0
    go_enter Tryz.func69, Tryz.ntmps69
    go_wp2
    go_ret
    exact ⟨ret_bool (by rw [hd]; rfl), rfl⟩

theorem bdbox_cells (w : World) (x : Bd) (s : Value) : (w.alloc (bdbox x s)).cell? ⟨w.heap.size, 0, none⟩ = some (.int .i64 x.1) ∧ (w.alloc (bdbox x s)).cell? ⟨w.heap.size, 1, none⟩ = some (.int .i64 x.2.v) ∧ (w.alloc (bdbox x s)).cell? ⟨w.heap.size, 2, none⟩ = some (.string x.2.fn) ∧ (w.alloc (bdbox x s)).cell? ⟨w.heap.size, 3, none⟩ = some s := by
  refine ⟨?_, ?_, ?_, ?_⟩ <;> rw [World.cell?_alloc_new] <;> rfl

set_option maxRecDepth 100000 in
set_option maxHeartbeats 4000000 in
/-- subst.Right. -/
theorem sright_any (l : List Bd) (v : Value) (w : World) (hl : BindsAt w v l) (hS : ∀ x ∈ l, Short x.2) :
    Calls Tryz.prog 45 #[v] w fun e w' => e = .returned (.int .i64 (subW l)) ∧ Below w.heap.size w w' := by
  obtain ⟨a, c, rfl⟩ := hl.slice
  have hlen := hl.len
  have HL : Hid (BindsAt w (.slice a l.length c) l) := hl
  clear hl
  by_cases hbig : 4000 < l.length
  · have Hf : Hid (subW l = 1) := subW_f <| isSub_false.2 fun h => by have := h.1; omega
    go_enter Tryz.func45, Tryz.ntmps45
    go_wp2
    go_ret
    exact ⟨ret_i64 Hf.symm, Below.refl _ _⟩
  · go_enter Tryz.func45, Tryz.ntmps45
    go_wp2
    go_loopw [3, 11] (fun vl vi wr => ∃ i : Nat, vi = .int .i64 i ∧ i ≤ l.length ∧ vl = .int .i64 (prv l i) ∧ (∀ j (h : j < l.length), j < i → okb (prv l j) l[j] = true) ∧ Below w.heap.size w wr) (fun _ vi _ => l.length - (intOf vi).toNat)
    case atStart => exact ⟨0, rfl, Nat.zero_le _, rfl, fun j _ h => absurd h (by omega), Below.refl _ _⟩
    case round =>
      obtain ⟨i, rfl, hi, rfl, hok, hb⟩ := hrel
      by_cases hlt : i < l.length
      · obtain ⟨b, o, s, rfl, hB0⟩ := HL.out.nth hlt
        have hB := hB0.keep hb
        obtain ⟨k0, k1, k2, k3⟩ := bdbox_cells wr l[i] s
        obtain ⟨sa, sc, hsl, _, _⟩ := hB.sub.slice
        have hb1 := below_box wr (bdbox l[i] s)
        have hshort := hS l[i] (List.getElem_mem hlt)
        have hv := sisVar_any l[i].2 l[i].1 s (wr.alloc (bdbox l[i] s)) ⟨_, _, _, hsl⟩
        have hr : ∀ W, Below (wr.alloc (bdbox l[i] s)).heap.size (wr.alloc (bdbox l[i] s)) W → Calls Tryz.prog 27 #[tval l[i].2 s] W fun e w' => e = .returned (.int .i64 l[i].2.rightW) ∧ Below W.heap.size W w' := fun W hW => tright_any l[i].2 s W (ArgsAt.keep hW (Nat.le_refl _) (ArgsAt.keep hb1 (Nat.le_refl _) hB.sub)) hshort
        have hb2 := below_box (wr.alloc (bdbox l[i] s)) (tbox l[i].2 s)
        have hr2 := hr _ hb2
        have hkk : ∀ n : Nat, (wr.alloc (bdbox l[i] s)).cell? ⟨wr.heap.size, n, none⟩ = ((wr.alloc (bdbox l[i] s)).alloc (tbox l[i].2 s)).cell? ⟨wr.heap.size, n, none⟩ := fun n => (hb2.cell (p := ⟨wr.heap.size, n, none⟩) (by simp)).symm
        have m0 := (hkk 0).symm.trans k0
        have m1 := (hkk 1).symm.trans k1
        have m2 := (hkk 2).symm.trans k2
        have m3 := (hkk 3).symm.trans k3
        have HB : Hid (Below w.heap.size w ((wr.alloc (bdbox l[i] s)).alloc (tbox l[i].2 s))) := hb.trans ((hb1.mono hb.size).trans (hb2.mono (by have := hb.size; simp; omega)))
        have HB1 : Hid (Below w.heap.size w (wr.alloc (bdbox l[i] s))) := hb.trans (hb1.mono hb.size)
        have hn : Hid (okb (prv l i) l[i] = false → isSub l = false) := not_sub hlt
        have hps : Hid (prv l (i + 1) = l[i].1) := prv_succ l i hlt
        have HO : Hid (∀ j (h : j < l.length), j < i → okb (prv l j) l[j] = true) := hok
        obtain ⟨g0, g1, g2, g3⟩ : wr.cell? ⟨b, o + i * 4, none⟩ = some (.int .i64 l[i].1) ∧ wr.cell? ⟨b, o + i * 4 + 1, none⟩ = some (.int .i64 l[i].2.v) ∧ wr.cell? ⟨b, o + i * 4 + 2, none⟩ = some (.string l[i].2.fn) ∧ wr.cell? ⟨b, o + i * 4 + 3, none⟩ = some s := ⟨hB.c0, hB.c1, hB.c2, hB.c3⟩
        subst hsl
        clear hB hB0 hr hkk hb hb1 hb2 hok
        by_cases h1 : l[i].1 ≤ prv l i
        · have Hf : Hid (subW l = 1) := subW_f <| hn.out (okb_false (.inl h1))
          go_wp2
          go_ret
          exact ⟨ret_i64 Hf.symm, HB1⟩
        · by_cases h2 : 1000000 ≤ l[i].1
          · have Hf : Hid (subW l = 1) := subW_f <| hn.out (okb_false (.inr (.inl h2)))
            go_wp2
            go_ret
            exact ⟨ret_i64 Hf.symm, HB1⟩
          · have ho : own1 l[i] = (decide (l[i].2.fn.size = 0) && decide (l[i].2.v = l[i].1)) := rfl
            rw [← ho] at hv
            cases h3 : own1 l[i]
            · by_cases h4 : l[i].2.rightW = 0
              · have Hk : Hid (okb (prv l i) l[i] = true) := okb_true (by omega) (by omega) h3 h4
                rw [h3] at hv
                rw [h4] at hr2
                clear h3 h4 ho
                go_wp2_with (first
                  | (go_at_call 69; refine hv.mono ?_; rintro e w2 ⟨rfl, rfl⟩)
                  | (go_at_call 27; refine hr2.mono ?_; rintro e w3 ⟨rfl, hb3⟩; have q0 := kc hb3 (by simp; omega) m0))
                go_roundw
                case rel => exact ⟨i + 1, by go_num, by omega, by rw [hps], fun j h hj => by
                  by_cases e : j = i
                  · subst e; exact Hk
                  · exact HO j h (by omega), HB.out.trans (hb3.mono (by have := HB.out.size; omega))⟩
                case measure => simp [intOf]; omega
              · have Hf : Hid (subW l = 1) := subW_f <| hn.out (okb_false (.inr (.inr (.inr h4))))
                rw [h3] at hv
                have hd4 : decide (l[i].2.rightW = 0) = false := decide_eq_false h4
                obtain ⟨rr, hrr⟩ : ∃ rr, l[i].2.rightW = rr := ⟨_, rfl⟩
                rw [hrr] at hr2 hd4 h4
                clear h3 ho hrr
                go_wp2_with (first
                  | (go_at_call 69; refine hv.mono ?_; rintro e w2 ⟨rfl, rfl⟩)
                  | (go_at_call 27; refine hr2.mono ?_; rintro e w3 ⟨rfl, hb3⟩))
                go_ret
                exact ⟨ret_i64 Hf.symm, HB.out.trans (hb3.mono (by have := HB.out.size; omega))⟩
            · have Hf : Hid (subW l = 1) := subW_f <| hn.out (okb_false (.inr (.inr (.inl h3))))
              rw [h3] at hv
              clear h3 ho
              go_wp2_with (first
                | (go_at_call 69; refine hv.mono ?_; rintro e w2 ⟨rfl, rfl⟩))
              go_ret
              exact ⟨ret_i64 Hf.symm, HB.out⟩
      · have Hf : Hid (subW l = 0) := subW_t <| isSub_iff.2 ⟨by omega, fun j h => hok j h (by omega)⟩
        go_wp2
        go_ret
        exact ⟨ret_i64 Hf.symm, hb⟩

end Go.Proofs.YtijihmncbaoklaaGreat

/-
  subst.replaced.
-/
namespace Go.Proofs.YtijihmncbaoklaaGreat
open Go.RowKit

/-- The term with what σ tells in place of each variable. -/
def T.app (σ : Int → T) : T → T
  | .mk v fn args => if fn.size = 0 then σ v else .mk 0 fn (apps args)
where apps : List T → List T
  | [] => []
  | a :: r => T.app σ a :: apps r

theorem T.app_eq (σ : Int → T) (t : T) : t.app σ = if t.fn.size = 0 then σ t.v else .mk 0 t.fn (t.args.map (T.app σ)) := by
  have h : ∀ l : List T, T.app.apps σ l = l.map (T.app σ) := by
    intro l
    induction l with
    | nil => rfl
    | cons a r ih => simp [T.app.apps, ih]
  cases t with
  | mk v fn args => simp [T.app, T.v, T.fn, T.args, h]

/-- A function that tells, in new memory, what stands for a variable. -/
def StandAt (W0 : World) (g : Nat) (lb : Array Value) (σ : Int → T) : Prop :=
  ∀ (n : Int) (W : World), Below W0.heap.size W0 W → Calls Tryz.prog g (#[.int .i64 n] ++ lb) W fun e W' => ∃ sl, e = .returned (tval (σ n) sl) ∧ ArgsFr W.heap.size W' sl (σ n).args ∧ Below W.heap.size W W'

set_option maxRecDepth 100000 in
set_option maxHeartbeats 2000000 in
/-- At a variable. -/
theorem rep_var (W0 : World) (g : Nat) (lb : Array Value) (σ : Int → T) (eg : ∀ args w, (callFunc g args).run Tryz.prog w = .ok (.enter g args) w) (hst : StandAt W0 g lb σ) (t : T) (a : Option Addr) (m c : Nat) (w : World) (hw : Below W0.heap.size W0 w) (h0 : t.fn.size = 0) :
    Calls Tryz.prog 48 #[tval t (.slice a m c), .func (.func g) #[] lb] w fun e W' => ∃ sl, e = .returned (tval (t.app σ) sl) ∧ ArgsFr w.heap.size W' sl (t.app σ).args ∧ Below w.heap.size w W' := by
  have hap : t.app σ = σ t.v := by rw [T.app_eq, if_pos h0]
  rw [hap]
  have hdd : t.fn.toList.isEmpty = true := by rw [ba_isEmpty]; exact decide_eq_true h0
  obtain ⟨W2, hW2⟩ : ∃ W2, (w.alloc (tbox t (.slice a m c))).alloc (.cells #[.int .i64 0, .string ⟨#[]⟩, .slice none 0 0] 32) = W2 := ⟨_, rfl⟩
  have hb2 : Below w.heap.size w W2 := by rw [← hW2]; exact below_box2 w _ _
  have hz : W2.heap[w.heap.size + 1]? = some (.cells #[.int .i64 0, .string ⟨#[]⟩, .slice none 0 0] 32 (0, 0)) := by
    have := (MapKept.heap_alloc (w.alloc (tbox t (.slice a m c))) (.cells #[.int .i64 0, .string ⟨#[]⟩, .slice none 0 0] 32)).1
    rw [World.size_alloc] at this
    rw [← hW2]
    exact this
  have hsz : W2.heap.size = w.heap.size + 2 := by rw [← hW2]; simp
  have hc := hst t.v W2 (hw.trans (hb2.mono hw.size))
  obtain ⟨t0, t1, t2⟩ := tbox_cells w t (.slice a m c)
  have hbb := below_box (w.alloc (tbox t (.slice a m c))) (.cells #[.int .i64 0, .string ⟨#[]⟩, .slice none 0 0] 32)
  have t0' := kc hbb (by simp) t0
  have t1' := kc hbb (by simp) t1
  clear t0 t1 t2 hbb hap h0
  subst hW2
  go_enter Tryz.func48, Tryz.ntmps48
  go_wp2_with (first | (go_at_fn g; refine hc.mono ?_; rintro e w3 ⟨sl, rfl, hfr, hb3⟩; obtain ⟨pa, pc, rfl⟩ := hfr.slice; have hz3 := (hb3.block (w.heap.size + 1) (by simp)).trans hz; obtain ⟨⟨z0, z1, z2⟩, y0, y1, y2⟩ := box_facts hz3; have HF : Hid (ArgsFr ((w.alloc (tbox t (.slice a m c))).alloc (.cells #[.int .i64 0, .string ⟨#[]⟩, .slice none 0 0] 32)).heap.size w3 (.slice pa (σ t.v).args.length pc) (σ t.v).args ∧ Below ((w.alloc (tbox t (.slice a m c))).alloc (.cells #[.int .i64 0, .string ⟨#[]⟩, .slice none 0 0] 32)).heap.size ((w.alloc (tbox t (.slice a m c))).alloc (.cells #[.int .i64 0, .string ⟨#[]⟩, .slice none 0 0] 32)) w3) := ⟨hfr, hb3⟩; clear hfr hb3 hz3))
  refine bodyPost_ret (v := tval (σ t.v) (.slice pa (σ t.v).args.length pc)) (by simp [results, Tryz.results48, go_sem, *]) rfl ⟨_, rfl, ?_, ?_⟩
  · refine (HF.out.1.keep (W' := set3 w3 (w.heap.size + 1) 0 _ _ _) (by simp) (fun k hk _ => set3_other _ _ _ _ _ _ k (by simp at hk; omega))).low (by simp; omega)
  · exact set3_below (hb2.trans (HF.out.2.mono (by simp; omega))) _ 0 _ _ _ (Nat.le_succ _)

end Go.Proofs.YtijihmncbaoklaaGreat

/-
  subst.replaced, at every term.
-/
namespace Go.Proofs.YtijihmncbaoklaaGreat
open Go.RowKit

set_option maxRecDepth 100000 in
set_option maxHeartbeats 2000000 in
/-- At a name alone. -/
theorem rep_nil (g : Nat) (lb : Array Value) (σ : Int → T) (t : T) (a : Option Addr) (c : Nat) (w : World) (h0 : t.fn.size ≠ 0) (hn : t.args = []) :
    Calls Tryz.prog 48 #[tval t (.slice a 0 c), .func (.func g) #[] lb] w fun e W' => ∃ sl, e = .returned (tval (t.app σ) sl) ∧ ArgsFr w.heap.size W' sl (t.app σ).args ∧ Below w.heap.size w W' := by
  have hap : t.app σ = .mk 0 t.fn [] := by rw [T.app_eq, if_neg h0, hn]; rfl
  rw [hap]
  have hdd : t.fn.toList.isEmpty = false := by rw [ba_isEmpty]; exact decide_eq_false h0
  obtain ⟨t0, t1, t2⟩ := tbox_cells w t (.slice a 0 c)
  have hbb := below_box (w.alloc (tbox t (.slice a 0 c))) (.cells #[.int .i64 0, .string ⟨#[]⟩, .slice none 0 0] 32)
  have t0' := kc hbb (by simp) t0
  have t1' := kc hbb (by simp) t1
  have t2' := kc hbb (by simp) t2
  clear t0 t1 t2 hbb hap h0 hn
  go_enter Tryz.func48, Tryz.ntmps48
  go_wp2
  refine bodyPost_ret (v := tval (.mk 0 t.fn []) (.slice none 0 0)) (by simp [results, Tryz.results48, go_sem, *, T.v, T.fn]) rfl ⟨_, rfl, ArgsFr.nil _ _, ?_⟩
  first | exact set3_below (below_box2 w _ _) _ 0 _ _ _ (Nat.le_succ _) | exact below_box2 w _ _

/-- What replaced does at a term. -/
def RepAt (W0 : World) (g : Nat) (lb : Array Value) (σ : Int → T) (t : T) : Prop :=
  ∀ (sl : Value) (w : World), Below W0.heap.size W0 w → ArgsAt w sl t.args → t.shape = true →
    Calls Tryz.prog 48 #[tval t sl, .func (.func g) #[] lb] w fun e W' => ∃ sl', e = .returned (tval (t.app σ) sl') ∧ ArgsFr w.heap.size W' sl' (t.app σ).args ∧ Below w.heap.size w W'

set_option maxRecDepth 100000 in
set_option maxHeartbeats 4000000 in
/-- At a name with arguments. -/
theorem rep_args (W0 : World) (g : Nat) (lb : Array Value) (σ : Int → T) (t : T) (ih : ∀ a ∈ t.args, RepAt W0 g lb σ a) (a : Option Addr) (c : Nat) (w : World) (hw : Below W0.heap.size W0 w) (ha : ArgsAt w (.slice a t.args.length c) t.args) (hsh : t.shape = true) (h0 : t.fn.size ≠ 0) (hn : 0 < t.args.length) :
    Calls Tryz.prog 48 #[tval t (.slice a t.args.length c), .func (.func g) #[] lb] w fun e W' => ∃ sl, e = .returned (tval (t.app σ) sl) ∧ ArgsFr w.heap.size W' sl (t.app σ).args ∧ Below w.heap.size w W' := by
  have hap : t.app σ = .mk 0 t.fn (t.args.map (T.app σ)) := by rw [T.app_eq, if_neg h0]
  have hdd : t.fn.toList.isEmpty = false := by rw [ba_isEmpty]; exact decide_eq_false h0
  have h16 : t.args.length ≤ 16 ∧ t.args.all T.shape = true := by
    rw [T.shape_eq, if_neg h0] at hsh
    simp only [Bool.and_eq_true, decide_eq_true_eq] at hsh
    exact ⟨hsh.1.2, hsh.2⟩
  obtain ⟨h16, hall⟩ := h16
  have HAll : Hid (∀ x ∈ t.args, x.shape = true) := List.all_eq_true.1 hall
  obtain ⟨t0, t1, t2⟩ := tbox_cells w t (.slice a t.args.length c)
  have hbb := below_box (w.alloc (tbox t (.slice a t.args.length c))) (.cells #[.int .i64 0, .string ⟨#[]⟩, .slice none 0 0] 32)
  have t0' := kc hbb (by simp) t0
  have t1' := kc hbb (by simp) t1
  have t2' := kc hbb (by simp) t2
  have hz : ((w.alloc (tbox t (.slice a t.args.length c))).alloc (.cells #[.int .i64 0, .string ⟨#[]⟩, .slice none 0 0] 32)).heap[w.heap.size + 1]? = some (.cells #[.int .i64 0, .string ⟨#[]⟩, .slice none 0 0] 32 (0, 0)) := by
    have := (MapKept.heap_alloc (w.alloc (tbox t (.slice a t.args.length c))) (.cells #[.int .i64 0, .string ⟨#[]⟩, .slice none 0 0] 32)).1
    rw [World.size_alloc] at this
    exact this
  have hb2 : Below w.heap.size w ((w.alloc (tbox t (.slice a t.args.length c))).alloc (.cells #[.int .i64 0, .string ⟨#[]⟩, .slice none 0 0] 32)) := below_box2 w _ _
  have hS2 : ((w.alloc (tbox t (.slice a t.args.length c))).alloc (.cells #[.int .i64 0, .string ⟨#[]⟩, .slice none 0 0] 32)).heap.size = w.heap.size + 1 + 1 := by simp
  obtain ⟨i0, hi, hz0, hz1, hz2⟩ := info_parts Tryz.info32
  obtain ⟨arr, harr⟩ : ∃ arr, madeCells (Value.agg #[.int .i64 0, .string ⟨#[]⟩, .slice none 0 0]).cells (t.args.length * 3) = arr := ⟨_, rfl⟩
  have hs : arr.size = t.args.length * 3 := by rw [← harr]; simp [madeCells]
  have hmk : ∀ W : World, (Instr.makeSlice 23 (.int .i64 t.args.length) (.int .i64 t.args.length)).run Tryz.prog W = .ok (.slice (some ⟨W.heap.size, 0, none⟩) t.args.length t.args.length) (W.alloc (.cells arr 32)) := by
    intro W
    have := run_make (P := Tryz.prog) W 23 32 i0 _ Tryz.underlying23 hi hz0 .i64 .i64 t.args.length t.args.length (by omega) (Int.le_refl _) (by rw [hz2]; omega) (by omega)
    rw [hz1] at this
    simp only [Int.toNat_natCast, harr] at this
    exact this
  have HA : Hid (ArgsAt w (.slice a t.args.length c) t.args) := ha
  obtain ⟨f, hf⟩ : ∃ f : Nat → T, ∀ j (hj : j < t.args.length), t.args[j].app σ = f j := ⟨fun j => ((t.args[j]?).map (T.app σ)).getD t, fun j hj => by simp [hj]⟩
  have HF : Hid (∀ j (hj : j < t.args.length), t.args[j].app σ = f j) := hf
  have HI0 : Hid (LoopI w (((w.alloc (tbox t (.slice a t.args.length c))).alloc (.cells #[.int .i64 0, .string ⟨#[]⟩, .slice none 0 0] 32)).alloc (.cells arr 32)) t f 0 (((w.alloc (tbox t (.slice a t.args.length c))).alloc (.cells #[.int .i64 0, .string ⟨#[]⟩, .slice none 0 0] 32)).alloc (.cells arr 32))) := by
    refine ⟨⟨⟨arr, ?_, hs⟩, fun j hj => absurd hj (by omega)⟩, Below.refl _ _, by simp⟩
    have := (MapKept.heap_alloc ((w.alloc (tbox t (.slice a t.args.length c))).alloc (.cells #[.int .i64 0, .string ⟨#[]⟩, .slice none 0 0] 32)) (.cells arr 32)).1
    rw [World.size_alloc, World.size_alloc] at this
    exact this
  have hb3 := below_box ((w.alloc (tbox t (.slice a t.args.length c))).alloc (.cells #[.int .i64 0, .string ⟨#[]⟩, .slice none 0 0] 32)) (.cells arr 32)
  have HZ : Hid ((((w.alloc (tbox t (.slice a t.args.length c))).alloc (.cells #[.int .i64 0, .string ⟨#[]⟩, .slice none 0 0] 32)).alloc (.cells arr 32)).heap[w.heap.size + 1]? = some (.cells #[.int .i64 0, .string ⟨#[]⟩, .slice none 0 0] 32 (0, 0)) ∧ (((w.alloc (tbox t (.slice a t.args.length c))).alloc (.cells #[.int .i64 0, .string ⟨#[]⟩, .slice none 0 0] 32)).alloc (.cells arr 32)).cell? ⟨w.heap.size, 1, none⟩ = some (.string t.fn) ∧ Below w.heap.size w (((w.alloc (tbox t (.slice a t.args.length c))).alloc (.cells #[.int .i64 0, .string ⟨#[]⟩, .slice none 0 0] 32)).alloc (.cells arr 32))) := ⟨(hb3.block _ (by simp)).trans hz, kc hb3 (by simp; omega) t1', hb2.trans (hb3.mono (by simp; omega))⟩
  have e0 := kc hb3 (by simp; omega) t0'
  have e1 := kc hb3 (by simp; omega) t1'
  have e2 := kc hb3 (by simp; omega) t2'
  obtain ⟨W1, hW1⟩ : ∃ W1, (((w.alloc (tbox t (.slice a t.args.length c))).alloc (.cells #[.int .i64 0, .string ⟨#[]⟩, .slice none 0 0] 32)).alloc (.cells arr 32)) = W1 := ⟨_, rfl⟩
  rw [hW1] at HI0 HZ
  have HW1 : Hid (_ = W1) := hW1
  have hd0 : ((t.args.length : Int) == 0) = false := by rw [beq_eq_false_iff_ne]; omega
  clear hW1
  clear t0 t1 t2 hbb h0 hsh hall harr hi hz0 hz1 hz2 ha hf hb3 hz hb2 hs
  go_enter Tryz.func48, Tryz.ntmps48
  go_wp2
  go_loopw [29] (fun vi wr => ∃ i : Nat, vi = .int .i64 i ∧ i ≤ t.args.length ∧ LoopI w W1 t f i wr) (fun vi _ => t.args.length - (intOf vi).toNat)
  case atStart => exact ⟨0, rfl, Nat.zero_le _, by rw [HW1.out]; exact HI0⟩
  case round =>
    obtain ⟨i, rfl, hi, hI⟩ := hrel
    have hbw : Below w.heap.size w wr := HZ.out.2.2.trans (hI.bel.mono (by omega))
    by_cases hlt : i < t.args.length
    · obtain ⟨ba, oa, s, e', hba, a0, a1, a2, hs⟩ := (ArgsAt.keep hbw (Nat.le_refl _) HA.out).nth hlt
      cases e'
      obtain ⟨x, hx⟩ : ∃ x, t.args[i] = x := ⟨_, rfl⟩
      have hfx : x.app σ = f i := by rw [← hx]; exact HF.out i hlt
      have hxs : x.shape = true := by rw [← hx]; exact HAll.out _ (List.getElem_mem hlt)
      have ihx := ih t.args[i] (List.getElem_mem hlt)
      rw [hx] at a0 a1 hs ihx
      obtain ⟨sa, sc, rfl, _, _⟩ := hs.slice
      have hb1 := below_box wr (tbox x (.slice sa x.args.length sc))
      have hcall := ihx (.slice sa x.args.length sc) (wr.alloc (tbox x (.slice sa x.args.length sc))) (hw.trans ((hbw.trans (hb1.mono hbw.size)).mono hw.size)) (ArgsAt.keep hb1 (Nat.le_refl _) hs) hxs
      rw [hfx] at hcall
      have hI1 := hI.al hb1
      have HI1 : Hid (LoopI w W1 t f i (wr.alloc (tbox x (.slice sa x.args.length sc)))) := hI1
      obtain ⟨k0, k1, k2⟩ := tbox_cells wr x (.slice sa x.args.length sc)
      clear hx hfx hxs ihx hs hb1 hI1 hI ih
      go_wp2_with (first | (go_at_call 48; refine hcall.mono ?_; rintro e w3 ⟨sl, rfl, hfr, hb3⟩; obtain ⟨pa, pc, rfl⟩ := hfr.slice; have hI3 := HI1.out.al hb3; obtain ⟨_, ⟨u0, u1, u2, c0, c1, c2⟩, y0, y1, y2⟩ := hI3.row.facts hlt; have H3 : Hid (LoopI w W1 t f i w3 ∧ ArgsFr (w.heap.size + 1 + 1 + 1) w3 (.slice pa (f i).args.length pc) (f i).args) := ⟨hI3, hfr.low (by have := HI1.out.siz; omega)⟩; clear hfr hb3 hI3))
      go_roundw
      case rel => exact ⟨i + 1, by go_num, by omega, H3.out.1.row.step hlt _ H3.out.2, set3_below H3.out.1.bel _ _ _ _ _ (Nat.le_refl _), by have := H3.out.1.siz; simp; omega⟩
      case measure => simp [intOf]; omega
    · have hz3 := (hI.bel.block (w.heap.size + 1) (by omega)).trans HZ.out.1
      obtain ⟨⟨z0, z1, z2⟩, y0, y1, y2⟩ := box_facts hz3
      have q1 := kc hI.bel (by omega) HZ.out.2.1
      have HI : Hid (LoopI w W1 t f t.args.length wr ∧ Below w.heap.size w wr) := ⟨by rw [show t.args.length = i by omega]; exact hI, hbw⟩
      clear hI hbw hz3 ih
      go_wp2
      rw [hap]
      refine bodyPost_ret (v := tval (.mk 0 t.fn (t.args.map (T.app σ))) (.slice (some ⟨w.heap.size + 1 + 1, 0, none⟩) t.args.length t.args.length)) (by simp [results, Tryz.results48, go_sem, *, T.v, T.fn]) rfl ⟨_, rfl, ?_, ?_⟩
      · have := HI.out.1.row.fr (l := t.args.map (T.app σ)) (by simp) (fun i hi => by simp at hi; simp [HF.out i hi]) (by omega)
        exact (this.keep (W' := set3 wr (w.heap.size + 1) 0 _ _ _) (by simp) (fun k hk _ => set3_other _ _ _ _ _ _ k (by omega))).low (by omega)
      · exact set3_below HI.out.2 _ 0 _ _ _ (Nat.le_succ _)

theorem rep_any (W0 : World) (g : Nat) (lb : Array Value) (σ : Int → T) (eg : ∀ args w, (callFunc g args).run Tryz.prog w = .ok (.enter g args) w) (hst : StandAt W0 g lb σ) (t : T) : RepAt W0 g lb σ t := by
  induction t using T.ind with
  | _ t ih =>
    intro sl w hw ha hsh
    obtain ⟨a, c, rfl, _, _⟩ := ha.slice
    by_cases h0 : t.fn.size = 0
    · exact rep_var W0 g lb σ eg hst t a _ c w hw h0
    · by_cases hn : t.args.length = 0
      · rw [hn]
        exact rep_nil g lb σ t a c w h0 (List.eq_nil_of_length_eq_zero hn)
      · exact rep_args W0 g lb σ t ih a c w hw ha hsh h0 (by omega)

end Go.Proofs.YtijihmncbaoklaaGreat
