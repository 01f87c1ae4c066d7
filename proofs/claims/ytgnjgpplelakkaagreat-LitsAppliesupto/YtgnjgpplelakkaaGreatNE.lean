/-
  Binds in memory; the document's Of and Put.
-/
import Derived.Test.YtgnjgpplelakkaaGreatLV
import Derived.Test.YtgnjgpplelakkaaGreatUH
namespace Go.Proofs.YtgnjgpplelakkaaGreat
open Go.RowKit Go.Maps

/-- A bind: a variable's number, and what stands for it. -/
abbrev Bd := Int × T
/-- What is read of one bind. -/
structure BindAt (W : World) (b o : Nat) (x : Bd) (s : Value) : Prop where
  lt : b < W.heap.size
  c0 : W.cell? ⟨b, o, none⟩ = some (.int .i64 x.1)
  c1 : W.cell? ⟨b, o + 1, none⟩ = some (.int .i64 x.2.v)
  c2 : W.cell? ⟨b, o + 2, none⟩ = some (.string x.2.fn)
  c3 : W.cell? ⟨b, o + 3, none⟩ = some s
  sub : ArgsAt W s x.2.args

theorem BindAt.keep {W W' : World} {b o : Nat} {x : Bd} {s : Value} (h : BindAt W b o x s) (hb : Below W.heap.size W W') : BindAt W' b o x s :=
  ⟨Nat.lt_of_lt_of_le h.lt hb.size, kc hb h.lt h.c0, kc hb h.lt h.c1, kc hb h.lt h.c2, kc hb h.lt h.c3, ArgsAt.keep hb (Nat.le_refl _) h.sub⟩

/-- A slice of binds, as it lies in memory. -/
def BindsAt (W : World) (v : Value) (l : List Bd) : Prop :=
  ∃ a c, v = .slice a l.length c ∧ l.length ≤ c ∧ c ≤ 9223372036854775807 ∧ (0 < l.length → ∃ b o, a = some ⟨b, o, none⟩ ∧ ∀ i (h : i < l.length), ∃ s, BindAt W b (o + i * 4) l[i] s)

theorem BindsAt.keep {W W' : World} {v : Value} {l : List Bd} (h : BindsAt W v l) (hb : Below W.heap.size W W') : BindsAt W' v l := by
  obtain ⟨a, c, rfl, h1, h2, h3⟩ := h
  refine ⟨a, c, rfl, h1, h2, fun h0 => ?_⟩
  obtain ⟨b, o, rfl, h4⟩ := h3 h0
  exact ⟨b, o, rfl, fun i hi => by obtain ⟨s, hs⟩ := h4 i hi; exact ⟨s, hs.keep hb⟩⟩

theorem BindsAt.slice {W : World} {v : Value} {l : List Bd} (h : BindsAt W v l) : ∃ a c, v = .slice a l.length c := by
  obtain ⟨a, c, rfl, _⟩ := h
  exact ⟨a, c, rfl⟩

theorem BindsAt.nth {W : World} {a : Option Addr} {c n : Nat} {l : List Bd} (h : BindsAt W (.slice a n c) l) {i : Nat} (hi : i < l.length) : ∃ b o s, a = some ⟨b, o, none⟩ ∧ BindAt W b (o + i * 4) l[i] s := by
  obtain ⟨a', c', e, h1, h2, h3⟩ := h
  cases e
  obtain ⟨b, o, rfl, h4⟩ := h3 (by omega)
  obtain ⟨s, hs⟩ := h4 i hi
  exact ⟨b, o, s, rfl, hs⟩

theorem BindsAt.len {W : World} {v : Value} {l : List Bd} (h : BindsAt W v l) : l.length ≤ 9223372036854775807 := by
  obtain ⟨a, c, rfl, h1, h2, _⟩ := h
  omega

/-- What stands for a variable. -/
def img (l : List Bd) (n : Int) : T := ((l.find? (fun b => decide (b.1 = n))).map (·.2)).getD (var n)

theorem img_no {l : List Bd} {n : Int} (h : ∀ k (h : k < l.length), l[k].1 ≠ n) : img l n = var n := by
  unfold img
  rw [List.find?_eq_none.2]
  · rfl
  · intro b hb
    obtain ⟨j, hj, rfl⟩ := List.mem_iff_getElem.1 hb
    simpa using h j hj

theorem img_first {l : List Bd} {n : Int} {i : Nat} (hi : i < l.length) (h : ∀ j (hj : j < l.length), j < i → l[j].1 ≠ n) (e : l[i].1 = n) : img l n = l[i].2 := by
  have h3 : l = l.take i ++ l[i] :: l.drop (i + 1) := by rw [List.getElem_cons_drop, List.take_append_drop]
  have h4 : (l.take i).find? (fun b => decide (b.1 = n)) = none := List.find?_eq_none.2 (by
    intro b hb
    obtain ⟨j, hj, rfl⟩ := List.mem_iff_getElem.1 hb
    have hj' : j < i ∧ j < l.length := by simp at hj; omega
    rw [List.getElem_take]
    simpa using h j hj'.2 hj'.1)
  have h5 := congrArg (List.find? (fun b => decide (b.1 = n))) h3
  rw [List.find?_append, h4, Option.none_or, List.find?_cons_of_pos (by simpa using e)] at h5
  unfold img
  rw [h5]
  rfl

set_option maxRecDepth 100000 in
set_option maxHeartbeats 2000000 in
theorem of_any (W0 : World) (l : List Bd) (n : Int) (v : Value) (hl : BindsAt W0 v l) (w : World) (hw : Below W0.heap.size W0 w) :
    Calls Tryz.prog 80 #[v, .int .i64 n] w fun e w' => ∃ sl, e = .returned (tval (img l n) sl) ∧ ArgsAt W0 sl (img l n).args ∧ Below w.heap.size w w' := by
  have hlen := hl.len
  obtain ⟨a, c, rfl⟩ := hl.slice
  have HL : Hid (BindsAt W0 (.slice a l.length c) l) := hl
  have hz : (w.alloc (.cells #[.int .i64 0, .string ⟨#[]⟩, .slice none 0 0] 28)).heap[w.heap.size]? = some (.cells #[.int .i64 0, .string ⟨#[]⟩, .slice none 0 0] 28 (0, 0)) := (MapKept.heap_alloc w _).1
  clear hl
  go_enter Tryz.func80, Tryz.ntmps80
  go_wp2
  go_loopw [5] (fun vi wr => ∃ i : Nat, vi = .int .i64 i ∧ i ≤ l.length ∧ (∀ j (hj : j < l.length), j < i → l[j].1 ≠ n) ∧ wr = w.alloc (.cells #[.int .i64 0, .string ⟨#[]⟩, .slice none 0 0] 28)) (fun vi _ => l.length - (intOf vi).toNat)
  case atStart => exact ⟨0, rfl, Nat.zero_le _, fun j _ h => absurd h (by omega), rfl⟩
  case round =>
    obtain ⟨i, rfl, hi, hno, hwr⟩ := hrel
    have hb0 : Below w.heap.size w wr := by rw [hwr]; exact below_box w _
    have hzr : wr.heap[w.heap.size]? = some (.cells #[.int .i64 0, .string ⟨#[]⟩, .slice none 0 0] 28 (0, 0)) := by rw [hwr]; exact hz
    obtain ⟨⟨z0, z1, z2⟩, y0, y1, y2⟩ := box_facts hzr
    by_cases hlt : i < l.length
    · obtain ⟨b, o, s, e', hB0⟩ := HL.out.nth hlt
      cases e'
      have hB := hB0.keep (hw.trans (hb0.mono hw.size))
      have HI : Hid (l[i].1 = n → img l n = l[i].2) := img_first hlt hno
      have HN : Hid (l[i].1 ≠ n → ∀ j (hj : j < l.length), j < i + 1 → l[j].1 ≠ n) := fun hne j hj hji => by
        by_cases e : j = i
        · subst e; exact hne
        · exact hno j hj (by omega)
      obtain ⟨x, hx⟩ : ∃ x, l[i] = x := ⟨_, rfl⟩
      rw [hx] at hB hB0 HI HN
      obtain ⟨sa, sc, rfl, _, _⟩ := hB.sub.slice
      obtain ⟨g0, g1, g2, g3⟩ : wr.cell? ⟨b, o + i * 4, none⟩ = some (.int .i64 x.1) ∧ wr.cell? ⟨b, o + i * 4 + 1, none⟩ = some (.int .i64 x.2.v) ∧ wr.cell? ⟨b, o + i * 4 + 2, none⟩ = some (.string x.2.fn) ∧ wr.cell? ⟨b, o + i * 4 + 3, none⟩ = some (.slice sa x.2.args.length sc) := ⟨hB.c0, hB.c1, hB.c2, hB.c3⟩
      have HA : Hid (ArgsAt W0 (.slice sa x.2.args.length sc) x.2.args ∧ Below w.heap.size w wr ∧ wr = w.alloc (.cells #[.int .i64 0, .string ⟨#[]⟩, .slice none 0 0] 28)) := ⟨hB0.sub, hb0, hwr⟩
      clear hB hB0 hx hb0 hno hwr hzr hz
      by_cases he : x.1 = n
      · have hd : (x.1 == n) = true := decide_eq_true he
        have HE : Hid (img l n = x.2) := HI.out he
        clear he HI HN
        go_wp2
        refine bodyPost_ret (v := tval x.2 (.slice sa x.2.args.length sc)) (by simp [results, Tryz.results80, go_sem, *]) rfl ⟨_, by rw [HE], by rw [HE]; exact HA.out.1, ?_⟩
        exact set3_below HA.out.2.1 _ 0 _ _ _ (Nat.le_refl _)
      · have hd : (x.1 == n) = false := decide_eq_false he
        have HE : Hid (∀ j (hj : j < l.length), j < i + 1 → l[j].1 ≠ n) := HN.out he
        clear he HI HN
        go_wp2
        go_roundw
        case rel => exact ⟨i + 1, by go_num, by omega, HE, HA.out.2.2⟩
        case measure => simp [intOf]; omega
    · have HE : Hid (img l n = var n) := img_no fun k hk => hno k hk (by omega)
      have HB : Hid (Below w.heap.size w wr) := hb0
      clear hno hwr hzr hz hb0
      go_wp2
      refine bodyPost_ret (v := tval (var n) (.slice none 0 0)) (by simp [results, Tryz.results80, go_sem, *, var, T.v, T.fn]) rfl ⟨_, by rw [HE], by rw [HE]; exact (ArgsFr.nil 0 _).args, ?_⟩
      exact set3_below HB.out _ 0 _ _ _ (Nat.le_refl _)

/-- What Put does at a term. -/
def PutAt (W0 : World) (v : Value) (l : List Bd) (t : T) : Prop :=
  ∀ (sl : Value) (w : World), Below W0.heap.size W0 w → ArgsAt W0 sl t.args → t.shape = true →
    Calls Tryz.prog 53 #[v, tval t sl] w fun e W' => ∃ sl', e = .returned (tval (t.app (img l)) sl') ∧ ArgsP (fun b => b < W0.heap.size ∨ w.heap.size ≤ b) W' sl' (t.app (img l)).args ∧ Below w.heap.size w W'

set_option maxRecDepth 100000 in
set_option maxHeartbeats 2000000 in
theorem put_var (W0 : World) (v : Value) (l : List Bd) (hl : BindsAt W0 v l) (t : T) (a : Option Addr) (m c : Nat) (w : World) (hw : Below W0.heap.size W0 w) (h0 : t.fn.size = 0) :
    Calls Tryz.prog 53 #[v, tval t (.slice a m c)] w fun e W' => ∃ sl', e = .returned (tval (t.app (img l)) sl') ∧ ArgsP (fun b => b < W0.heap.size ∨ w.heap.size ≤ b) W' sl' (t.app (img l)).args ∧ Below w.heap.size w W' := by
  have hap : t.app (img l) = img l t.v := by rw [T.app_eq, if_pos h0]
  rw [hap]
  have hdd : t.fn.toList.isEmpty = true := by rw [ba_isEmpty]; exact decide_eq_true h0
  have hb2 : Below w.heap.size w ((w.alloc (tbox t (.slice a m c))).alloc (.cells #[.int .i64 0, .string ⟨#[]⟩, .slice none 0 0] 28)) := below_box2 w _ _
  have hz := (MapKept.heap_alloc (w.alloc (tbox t (.slice a m c))) (.cells #[.int .i64 0, .string ⟨#[]⟩, .slice none 0 0] 28)).1
  rw [World.size_alloc] at hz
  have hc := of_any W0 l t.v v hl _ (hw.trans (hb2.mono hw.size))
  obtain ⟨a', c', rfl⟩ := hl.slice
  obtain ⟨t0, t1, t2⟩ := tbox_cells w t (.slice a m c)
  have hbb := below_box (w.alloc (tbox t (.slice a m c))) (.cells #[.int .i64 0, .string ⟨#[]⟩, .slice none 0 0] 28)
  have t0' := kc hbb (by simp) t0
  have t1' := kc hbb (by simp) t1
  obtain ⟨u, hu⟩ : ∃ u, img l t.v = u := ⟨_, rfl⟩
  rw [hu] at hc ⊢
  clear t0 t1 t2 hbb hap h0 hu hl
  go_enter Tryz.func53, Tryz.ntmps53
  go_wp2_with (first | (go_at_call 80; refine hc.mono ?_; rintro e w3 ⟨sl, rfl, hA3, hb3⟩; obtain ⟨pa, pc, rfl, _, _⟩ := hA3.slice; have hz3 := (hb3.block (w.heap.size + 1) (by simp)).trans hz; obtain ⟨⟨z0, z1, z2⟩, y0, y1, y2⟩ := box_facts hz3; have HF : Hid (ArgsAt W0 (.slice pa u.args.length pc) u.args ∧ Below w.heap.size w w3) := ⟨hA3, hb2.trans (hb3.mono (by simp; omega))⟩; clear hA3 hb3 hz3))
  refine bodyPost_ret (v := tval u (.slice pa u.args.length pc)) (by simp [results, Tryz.results53, go_sem, *]) rfl ⟨_, rfl, ?_, ?_⟩
  · have hfin : Below W0.heap.size W0 (set3 w3 (w.heap.size + 1) 0 (.int .i64 u.v) (.string u.fn) (.slice pa u.args.length pc)) := hw.trans ((set3_below HF.out.2 (w.heap.size + 1) 0 _ _ _ (Nat.le_succ _)).mono hw.size)
    exact HF.out.1.belowP.keep hfin.size (fun k hk _ => ⟨.inl hk, hfin.block k hk⟩)
  · exact set3_below HF.out.2 _ 0 _ _ _ (Nat.le_succ _)

/-- What a round of Put leaves. -/
structure PutI (W0 w : World) (t : T) (sl : Value) (σ : Int → T) (k : Nat) (v : Value) (ps : List (T × Value)) (W : World) : Prop where
  args : ps.map (·.1) = (t.args.take k).map (T.app σ)
  ok : ∀ p ∈ ps, ArgsP (fun b => (b < W0.heap.size ∨ w.heap.size + 3 ≤ b) ∧ v.ownBlock ≠ some b) W p.2 p.1.args
  row : W.ownsRow (w.heap.size + 3) 28 3 v k (flatT ps)
  out : W.heap[w.heap.size + 1 + 1]? = some (.cells #[.int .i64 0, .string t.fn, v] 28 (0, 0))
  tb : W.heap[w.heap.size]? = some (.cells #[.int .i64 t.v, .string t.fn, sl] 28 (0, 0))
  rb : W.heap[w.heap.size + 1]? = some (.cells #[.int .i64 0, .string ⟨#[]⟩, .slice none 0 0] 28 (0, 0))
  bel : Below w.heap.size w W
  siz : w.heap.size + 3 ≤ W.heap.size

theorem put_end {W0 w : World} {t : T} {sl : Value} {σ : Int → T} {k : Nat} {v : Value} {ps : List (T × Value)} {wr : World} (h : PutI W0 w t sl σ k v ps wr) (hW0 : W0.heap.size ≤ w.heap.size) (hlt : k < t.args.length) (u : T) (hu : t.args[k].app σ = u) (s5 : Value) (W5 X w6 : World) (hX : Below wr.heap.size wr W5) (hX5 : Below W5.heap.size W5 X) (hA : ArgsP (fun b => b < W0.heap.size ∨ wr.heap.size ≤ b) W5 s5 u.args) (v' : Value)
    (hown : w6.ownsRow (w.heap.size + 3) 28 3 v' (k + 1) (flatT ps ++ [.int .i64 u.v, .string u.fn, s5])) (hg : X.grownBy w6 v.ownBlock) (hat : v'.ownBlock = v.ownBlock ∨ v'.ownBlock = some X.heap.size) :
    PutI W0 w t sl σ (k + 1) v' (ps ++ [(u, s5)]) (w6.setCell ⟨w.heap.size + 1 + 1, 2, none⟩ v') := by
  have hsz := h.siz
  have hXs := hX.size
  have hX5s := hX5.size
  have hgs := hg.size
  have hvl : ∀ g, v.ownBlock = some g → w.heap.size + 3 ≤ g ∧ g < wr.heap.size := fun g e => h.row.lt g e
  have hv'l : ∀ g, v'.ownBlock = some g → w.heap.size + 3 ≤ g := fun g e => (hown.lt g e).1
  -- what lies in an older block, other than the row's and the box', is kept
  have kp : ∀ k, k < wr.heap.size → v.ownBlock ≠ some k → k ≠ w.heap.size + 1 + 1 → (w6.setCell ⟨w.heap.size + 1 + 1, 2, none⟩ v').heap[k]? = wr.heap[k]? := fun k hk hv hb => by
    rw [Below.heap_setCell _ _ _ k hb, hg.block k (by omega) (fun e => hv e.symm), hX5.block k (by omega), hX.block k hk]
  have kp5 : ∀ k, k < W5.heap.size → v.ownBlock ≠ some k → k ≠ w.heap.size + 1 + 1 → (w6.setCell ⟨w.heap.size + 1 + 1, 2, none⟩ v').heap[k]? = W5.heap[k]? := fun k hk hv hb => by
    rw [Below.heap_setCell _ _ _ k hb, hg.block k (by omega) (fun e => hv e.symm), hX5.block k hk]
  have hn : ∀ j, j < w.heap.size + 3 → v.ownBlock ≠ some j := fun j hj e => by have := hvl j e; omega
  have hv'b : ∀ b, b < X.heap.size → v.ownBlock ≠ some b → v'.ownBlock ≠ some b := fun b hb hne => by
    rcases hat with e | e
    · rw [e]; exact hne
    · rw [e]; intro e2; have := Option.some.inj e2; omega
  have hout : w6.heap[w.heap.size + 1 + 1]? = some (.cells #[.int .i64 0, .string t.fn, v] 28 (0, 0)) := by
    rw [hg.block _ (by omega) (fun e => hn _ (by omega) e.symm), hX5.block _ (by omega), hX.block _ (by omega)]
    exact h.out
  refine ⟨?_, fun p hp => ?_, ?_, ?_, ?_, ?_, ?_, ?_⟩
  · rw [List.map_append, h.args, List.take_succ_eq_append_getElem hlt, List.map_append]
    simp [hu]
  · rcases List.mem_append.1 hp with hp | hp
    · refine (h.ok p hp).keep (by simp; omega) (fun b ⟨hb, hne⟩ hlt => ⟨⟨hb, hv'b b (by omega) hne⟩, kp b hlt hne ?_⟩)
      rcases hb with hb | hb <;> omega
    · simp at hp
      subst hp
      refine hA.keep (by simp; omega) (fun b hb hlt => ?_)
      have hne : v.ownBlock ≠ some b := fun e => by have := hvl b e; rcases hb with hb | hb <;> omega
      refine ⟨⟨?_, hv'b b (by omega) hne⟩, kp5 b hlt hne ?_⟩
      · rcases hb with hb | hb
        · exact .inl hb
        · exact .inr (by omega)
      · rcases hb with hb | hb <;> omega
  · rw [flatT_snoc]
    exact row_keep hown (fun g hg => Below.heap_setCell _ _ _ g (by have := hv'l g hg; intro e; have : g = w.heap.size + 1 + 1 := e; omega))
  · have := heap_setCell_same w6 (w.heap.size + 1 + 1) 2 _ 28 v' hout
    simpa using this
  · rw [kp _ (by omega) (hn _ (by omega)) (by omega)]; exact h.tb
  · rw [kp _ (by omega) (hn _ (by omega)) (by omega)]; exact h.rb
  · exact h.bel.trans ⟨by rw [show (w6.setCell ⟨w.heap.size + 1 + 1, 2, none⟩ v').os = w6.os from rfl, hg.os, hX5.os, hX.os], by rw [show (w6.setCell ⟨w.heap.size + 1 + 1, 2, none⟩ v').tape = w6.tape from rfl, hg.tape, hX5.tape, hX.tape], by rw [show (w6.setCell ⟨w.heap.size + 1 + 1, 2, none⟩ v').output = w6.output from rfl, hg.output, hX5.output, hX.output], by simp; omega, fun j hj => kp j (by omega) (hn j (by omega)) (by omega)⟩
  · simp; omega

theorem put_start (W0 w : World) (t : T) (sl : Value) (σ : Int → T) : PutI W0 w t sl σ 0 (.slice none 0 0) []
    (((w.alloc (.cells #[.int .i64 t.v, .string t.fn, sl] 28)).alloc (.cells #[.int .i64 0, .string ⟨#[]⟩, .slice none 0 0] 28)).alloc (.cells #[.int .i64 0, .string t.fn, .slice none 0 0] 28)) := by
  have h1 := (MapKept.heap_alloc w (.cells #[.int .i64 t.v, .string t.fn, sl] 28)).1
  have h2 := (MapKept.heap_alloc (w.alloc (.cells #[.int .i64 t.v, .string t.fn, sl] 28)) (.cells #[.int .i64 0, .string ⟨#[]⟩, .slice none 0 0] 28)).1
  have h3 := (MapKept.heap_alloc ((w.alloc (.cells #[.int .i64 t.v, .string t.fn, sl] 28)).alloc (.cells #[.int .i64 0, .string ⟨#[]⟩, .slice none 0 0] 28)) (.cells #[.int .i64 0, .string t.fn, .slice none 0 0] 28)).1
  rw [World.size_alloc] at h2
  rw [World.size_alloc, World.size_alloc] at h3
  refine ⟨rfl, fun p hp => absurd hp (by simp), World.ownsRow_nil _ _ _ _, h3, ?_, ?_, (below_box2 w _ _).trans ((below_box _ _).mono (by simp; omega)), by simp⟩
  · rw [Below.heap_alloc _ _ _ (by simp; omega), Below.heap_alloc _ _ _ (by simp)]
    exact h1
  · rw [Below.heap_alloc _ _ _ (by simp)]
    exact h2

theorem put_last {W0 w : World} {t : T} {sl : Value} {σ : Int → T} {v : Value} {ps : List (T × Value)} {wr : World} (h : PutI W0 w t sl σ t.args.length v ps wr) (hW0 : W0.heap.size ≤ w.heap.size) : ArgsP (fun b => b < W0.heap.size ∨ w.heap.size ≤ b) (set3 wr (w.heap.size + 1) 0 (.int .i64 0) (.string t.fn) v) v (t.args.map (T.app σ)) ∧ Below w.heap.size w (set3 wr (w.heap.size + 1) 0 (.int .i64 0) (.string t.fn) v) := by
  have hvl : ∀ g, v.ownBlock = some g → w.heap.size + 3 ≤ g ∧ g < wr.heap.size := fun g e => h.row.lt g e
  refine ⟨argsP_of_row (row_keep h.row fun g hg => set3_other _ _ _ _ _ _ g (by have := hvl g hg; omega)) (by simp) (by rw [h.args, List.take_length]) (fun b hb => .inr (by omega)) (fun p hp => (h.ok p hp).keep (by rw [set3_size]; exact Nat.le_refl _) (fun b ⟨hb, _⟩ _ => ⟨?_, set3_other _ _ _ _ _ _ b ?_⟩)), set3_below h.bel _ 0 _ _ _ (Nat.le_succ _)⟩
  · rcases hb with hb | hb
    · exact .inl hb
    · exact .inr (by omega)
  · rcases hb with hb | hb <;> omega

set_option maxRecDepth 100000 in
set_option maxHeartbeats 2000000 in
theorem put_fn (W0 : World) (v : Value) (l : List Bd) (hl : BindsAt W0 v l) (t : T) (ih : ∀ a ∈ t.args, PutAt W0 v l a) (a : Option Addr) (c : Nat) (w : World) (hw : Below W0.heap.size W0 w) (ha : ArgsAt W0 (.slice a t.args.length c) t.args) (hsh : t.shape = true) (h0 : t.fn.size ≠ 0) :
    Calls Tryz.prog 53 #[v, tval t (.slice a t.args.length c)] w fun e W' => ∃ sl', e = .returned (tval (t.app (img l)) sl') ∧ ArgsP (fun b => b < W0.heap.size ∨ w.heap.size ≤ b) W' sl' (t.app (img l)).args ∧ Below w.heap.size w W' := by
  have hap : t.app (img l) = .mk 0 t.fn (t.args.map (T.app (img l))) := by rw [T.app_eq, if_neg h0]
  rw [hap]
  have hdd : t.fn.toList.isEmpty = false := by rw [ba_isEmpty]; exact decide_eq_false h0
  rw [T.shape_eq, if_neg h0] at hsh
  simp only [Bool.and_eq_true, decide_eq_true_eq, List.all_eq_true] at hsh
  obtain ⟨⟨hx16, h16⟩, hshs⟩ := hsh
  clear hx16
  obtain ⟨a', c', rfl⟩ := hl.slice
  obtain ⟨t0, t1, t2⟩ := tbox_cells w t (.slice a t.args.length c)
  have hbb := below_box (w.alloc (tbox t (.slice a t.args.length c))) (.cells #[.int .i64 0, .string ⟨#[]⟩, .slice none 0 0] 28)
  have t0' := kc hbb (by simp) t0
  have t1' := kc hbb (by simp) t1
  have HAA : Hid (ArgsAt W0 (.slice a t.args.length c) t.args) := ha
  have HIH : Hid (∀ a ∈ t.args, PutAt W0 (.slice a' l.length c') l a) := ih
  clear t0 t1 t2 hbb hap h0 hl ih ha
  go_enter Tryz.func53, Tryz.ntmps53
  go_wp2
  go_loopw [6] (fun i wr => ∃ k : Nat, k ≤ t.args.length ∧ i = .int .i64 k ∧ Hid (∃ vv ps, PutI W0 w t (.slice a t.args.length c) (img l) k vv ps wr)) (fun i _ => t.args.length - (intOf i).toNat)
  case atStart =>
    refine ⟨0, Nat.zero_le _, rfl, .slice none 0 0, [], ?_⟩
    exact put_start W0 w t (.slice a t.args.length c) (img l)
  case round =>
    obtain ⟨k, hk, rfl, vv, ps, HI⟩ := hrel
    have HP : Hid (PutI W0 w t (.slice a t.args.length c) (img l) k vv ps wr) := HI
    obtain ⟨⟨b0, b1, b2⟩, y0, y1, y2⟩ := box_facts HI.tb
    obtain ⟨⟨o0, o1, o2⟩, x0, x1, x2⟩ := box_facts HI.out
    clear HI
    by_cases hlt : k < t.args.length
    · have hki : ((k : Int) < (t.args.length : Int)) := by omega
      obtain ⟨b, o, s, e1, hbl, c0, c1, c2, hs⟩ := HAA.out.nth hlt
      cases e1
      have hW : Below W0.heap.size W0 wr := hw.trans (HP.out.bel.mono hw.size)
      have hcall := HIH.out t.args[k] (List.getElem_mem hlt) s wr.drew hW.drew hs (hshs _ (List.getElem_mem hlt))
      obtain ⟨sa, sc, rfl, _, _⟩ := hs.slice
      have c0' := kc hW hbl c0
      have c1' := kc hW hbl c1
      have c2' := kc hW hbl c2
      obtain ⟨u, hu⟩ : ∃ u, t.args[k].app (img l) = u := ⟨_, rfl⟩
      rw [hu] at hcall
      have HU : Hid (t.args[k].app (img l) = u) := hu
      obtain ⟨q, hq⟩ : ∃ q, t.args[k] = q := ⟨_, rfl⟩
      simp only [hq] at hcall c0' c1' c2'
      have hcall2 := hcall.mono (R' := fun e' W5 => ∃ a5 c5, e' = .returned (.agg #[.int .i64 u.v, .string u.fn, .slice a5 u.args.length c5]) ∧ W5.cell? ⟨w.heap.size + 1 + 1, 2, none⟩ = some vv ∧ (∀ o, (W5.alloc o).cell? ⟨w.heap.size + 1 + 1, 2, none⟩ = some vv) ∧ Hid (∀ o, (W5.alloc o).ownsRow (w.heap.size + 3) 28 3 vv k (flatT ps)) ∧ Hid (∀ o, (W5.alloc o).heap[w.heap.size + 1 + 1]? = some (.cells #[.int .i64 0, .string t.fn, vv] 28 (0, 0))) ∧ Hid (Below wr.heap.size wr W5 ∧ ArgsP (fun b => b < W0.heap.size ∨ wr.heap.size ≤ b) W5 (.slice a5 u.args.length c5) u.args)) (by
        rintro e' W5 ⟨s5, he5, hA5, hb5⟩
        obtain ⟨a5, c5, rfl⟩ := hA5.slice
        have hb5' : Below wr.heap.size wr W5 := (Below.refl _ _).drew.trans hb5
        have hb6 : ∀ o, Below wr.heap.size wr (W5.alloc o) := fun o => hb5'.trans ((below_box W5 o).mono hb5'.size)
        have hol := (Array.getElem?_eq_some_iff.1 HP.out.out).1
        exact ⟨a5, c5, he5, kc hb5' hol o2, fun o => kc (hb6 o) hol o2, fun o => row_keep HP.out.row (fun g hg => (hb6 o).block g (HP.out.row.lt g hg).2), fun o => ((hb6 o).block _ hol).trans HP.out.out, hb5', hA5⟩)
      obtain ⟨i0, hi0, hz0, hz1, hz2⟩ := info_parts Tryz.info28
      have o2d : wr.drew.cell? ⟨w.heap.size + 1 + 1, 2, none⟩ = some vv := o2
      have HV : Hid (vv.ownBlock ≠ some (w.heap.size + 1 + 1) ∧ w.heap.size + 3 ≤ wr.heap.size) := ⟨fun e => by have := (HP.out.row.lt _ e).1; omega, HP.out.siz⟩
      clear hcall hu HIH hq hs
      go_wp2
      go_region_law (first
        | (refine step_append_own _ rfl (.tmp 25) (.tmp 33) 26 rfl (w.heap.size + 3) 28 i0 _ 3 48 Tryz.underlying26 hi0 hz0 hz1 hz2 rfl (by decide) vv k (flatT ps) rfl (HW5.out _) ⟨W5.heap.size, 0, none⟩ 1 1 [.int .i64 u.v, .string u.fn, .slice a5 u.args.length c5] rfl rfl (fun j x hj => by { rw [Addr.add_mid, Nat.zero_add, cell_of_row _ _ _ _ 28 (0, 0) (MapKept.heap_alloc W5 _).1]; simpa using hj }) (by { intro x hx; simp only [List.mem_cons, List.not_mem_nil, or_false] at hx; rcases hx with rfl | rfl | rfl <;> rfl }) (by unfold maxLen; omega) (by omega) (by { have := HB5.out.1.size; have := HV.out.2; simp; omega }) ?_; intro v' w6 hrow6 hg6 hb6; obtain ⟨a6, c6, rfl⟩ := row_slice hrow6; have hb66 := (hg6.block (w.heap.size + 1 + 1) (Array.getElem?_eq_some_iff.1 (HX5.out _)).1 (fun h => HV.out.1 h.symm)).trans (HX5.out _); have hc6 : w6.cell? ⟨w.heap.size + 1 + 1, 2, none⟩ = some vv := by { rw [cell_of_row _ _ _ #[Value.int .i64 0, .string t.fn, vv] 28 (0, 0) hb66]; rfl }; have hf6 : w6.frozen? ⟨w.heap.size + 1 + 1, 2, none⟩ = false := by { simp [World.frozen?, hb66] })
        | (go_simp; go_at_call 53; refine hcall2.mono ?_; rintro _ W5 ⟨a5, c5, rfl, hcell5, hcell5', HW5, HX5, HB5⟩; go_simp))
      all_goals (
        have HE : Hid (PutI W0 w t (.slice (some ⟨b, o, none⟩) t.args.length c) (img l) (k + 1) (.slice a6 (k + 1) c6) (ps ++ [(u, .slice a5 u.args.length c5)]) (w6.setCell ⟨w.heap.size + 1 + 1, 2, none⟩ (.slice a6 (k + 1) c6))) := put_end HP.out hw.size hlt u HU.out _ W5 _ w6 HB5.out.1 (below_box W5 _) HB5.out.2 _ hrow6 hg6 hb6
        go_wp2
        go_roundw
        case rel => exact ⟨k + 1, by omega, by go_num, _, _, HE.out⟩
        case measure => simp [intOf]; omega)
    · have hke : k = t.args.length := by omega
      subst hke
      obtain ⟨av, cv, rfl⟩ := row_slice HP.out.row
      obtain ⟨⟨d0, d1, d2⟩, z0, z1, z2⟩ := box_facts HP.out.rb
      have HA : Hid (ArgsP (fun b => b < W0.heap.size ∨ w.heap.size ≤ b) (set3 wr (w.heap.size + 1) 0 (.int .i64 0) (.string t.fn) (.slice av t.args.length cv)) (.slice av t.args.length cv) (t.args.map (T.app (img l))) ∧ Below w.heap.size w (set3 wr (w.heap.size + 1) 0 (.int .i64 0) (.string t.fn) (.slice av t.args.length cv))) := put_last HP.out hw.size
      clear HIH
      go_wp2
      exact bodyPost_ret (v := tval (.mk 0 t.fn (t.args.map (T.app (img l)))) (.slice av t.args.length cv)) (by simp [results, Tryz.results53, go_sem, *, T.v, T.fn]) rfl ⟨_, rfl, HA.out⟩

theorem put_any (W0 : World) (v : Value) (l : List Bd) (hl : BindsAt W0 v l) (t : T) : PutAt W0 v l t := by
  induction t using T.ind with
  | _ t ih =>
    intro sl w hw ha hsh
    obtain ⟨a, c, rfl, _, _⟩ := ha.slice
    by_cases h0 : t.fn.size = 0
    · exact put_var W0 v l hl t a _ c w hw h0
    · exact put_fn W0 v l hl t ih a c w hw ha hsh h0

end Go.Proofs.YtgnjgpplelakkaaGreat
