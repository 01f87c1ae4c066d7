/-
  Features in memory; finger.featureAt and the document's feature.
-/
import Derived.Test.YtiklbkkimmgbcaaC
import Derived.Test.YtiklbkkimmgbcaaQF
import Derived.Test.YtiklbkkimmgbcaaLM
import Derived.Deep.RegionHeld3
namespace Go.Proofs.Ytiklbkkimmgbcaa
open Go.RowKit Go.Maps

/-- A row in memory, one cell an element. -/
def RowAt {α : Type} (f : α → Value) (W : World) (v : Value) (l : List α) : Prop :=
  ∃ a c, v = .slice a l.length c ∧ l.length ≤ c ∧ c ≤ 9223372036854775807 ∧ (0 < l.length → ∃ b o, b < W.heap.size ∧ a = some ⟨b, o, none⟩ ∧ ∀ i (h : i < l.length), W.cell? ⟨b, o + i, none⟩ = some (f l[i]))
section
variable {α : Type} {f : α → Value} {W W' : World} {v : Value} {l : List α}
theorem RowAt.keep {n : Nat} (h : RowAt f W v l) (hb : Below n W W') (hn : W.heap.size ≤ n) : RowAt f W' v l := by
  obtain ⟨a, c, h1, h2, h3, h4⟩ := h
  refine ⟨a, c, h1, h2, h3, fun h0 => ?_⟩
  obtain ⟨b, o, hlt, ha, hc⟩ := h4 h0
  exact ⟨b, o, Nat.lt_of_lt_of_le hlt hb.size, ha, fun i hi => kc hb (Nat.lt_of_lt_of_le hlt hn) (hc i hi)⟩
theorem RowAt.slice (h : RowAt f W v l) : ∃ a c, v = .slice a l.length c ∧ l.length ≤ c ∧ c ≤ 9223372036854775807 := by
  obtain ⟨a, c, h1, h2, h3, h4⟩ := h
  exact ⟨a, c, h1, h2, h3⟩
theorem RowAt.nth {a : Option Addr} {n c : Nat} (h : RowAt f W (.slice a n c) l) {i : Nat} (hi : i < l.length) : ∃ b o, a = some ⟨b, o, none⟩ ∧ b < W.heap.size ∧ W.cell? ⟨b, o + i, none⟩ = some (f l[i]) := by
  obtain ⟨a', c', h1, h2, h3, h4⟩ := h
  obtain ⟨b, o, hlt, ha, hc⟩ := h4 (by omega)
  cases h1
  exact ⟨b, o, ha, hlt, hc i hi⟩
end

theorem only_setCell (W : World) (p o : Nat) (v : Value) : Only [p] W (W.setCell ⟨p, o, none⟩ v) :=
  ⟨rfl, rfl, rfl, by simp, fun k _ hn => Below.heap_setCell _ _ _ k (by simpa using hn)⟩
/-- Cells in the midst of a block are put. -/
theorem heap_put (b : Nat) (ty : TypeId) : ∀ (vs : List Value) (o : Nat) (w : World) (cur : Array Value), w.heap[b]? = some (.cells cur ty (0, 0)) → o + vs.length ≤ cur.size →
    ∃ cur' : Array Value, (w.setCells b o vs).heap[b]? = some (.cells cur' ty (0, 0)) ∧ cur'.toList = cur.toList.take o ++ vs ++ cur.toList.drop (o + vs.length) ∧ Only [b] w (w.setCells b o vs)
  | [], o, w, cur, h, _ => ⟨cur, h, by simp, Only.refl _ _⟩
  | v :: r, o, w, cur, h, hl => by
    have h1 := Go.heap_setCell_same w b o cur ty v h
    have hlo : o < cur.toList.length := by simp at hl ⊢; omega
    obtain ⟨cur', g1, g2, g3⟩ := heap_put b ty r (o + 1) _ _ h1 (by simp at hl ⊢; omega)
    refine ⟨cur', g1, ?_, (only_setCell w b o v).trans g3 (by simp)⟩
    rw [g2]
    have e : (cur.setIfInBounds o v).toList = cur.toList.take o ++ v :: cur.toList.drop (o + 1) := by
      rw [Array.toList_setIfInBounds, List.set_eq_take_append_cons_drop, if_pos hlo]
    have hto : (cur.toList.take o).length = o := by rw [List.length_take]; omega
    rw [e]
    have e1 : (cur.toList.take o ++ v :: cur.toList.drop (o + 1)).take (o + 1) = cur.toList.take o ++ [v] := by
      rw [List.take_append, hto, List.take_of_length_le (by omega)]
      simp
    have e2 : (cur.toList.take o ++ v :: cur.toList.drop (o + 1)).drop (o + 1 + r.length) = cur.toList.drop (o + (v :: r).length) := by
      rw [List.drop_append, hto, List.drop_eq_nil_of_le (by omega), List.nil_append, show o + 1 + r.length - o = r.length + 1 by omega, List.drop_succ_cons, List.drop_drop]
      congr 1
      simp
      omega
    rw [e1, e2]
    simp
/-- A thing of several cells is stored into its box. -/
theorem agg_store (ty : TypeId) (Y : World) (bx : Nat) (cur : Array Value) (vs : List Value) (h : Y.heap[bx]? = some (.cells cur ty (0, 0))) (hl : cur.size = vs.length) (hi : (Try.prog.info? ty).map (·.size) = some vs.length) (h1 : ∀ u ∈ vs, u.oneCell' = true) :
    ∃ Y', (Instr.storeAt ty (.pointer (some ⟨bx, 0, none⟩)) (.agg vs.toArray)).run Try.prog Y = .ok () Y' ∧ Y'.heap[bx]? = some (.cells vs.toArray ty (0, 0)) ∧ Only [bx] Y Y' := by
  obtain ⟨cur', p1, p2, p3⟩ := heap_put bx ty vs 0 Y _ h (by omega)
  have hr := run_storeAt_mid (P := Try.prog) Y bx 0 ty vs.toArray (fun j hj => by
    have hj3 : j < cur.size := by rw [hl]; simpa using hj
    simp [World.cell?, World.frozen?, h, hj3]) (by simpa using hi) (all_oneCell_toArray h1)
  have e : cur' = vs.toArray := by
    apply Array.toList_inj.1
    rw [p2]
    have : cur.toList.drop (0 + vs.length) = [] := List.drop_eq_nil_of_le (by simp [hl])
    rw [this]
    simp
  rw [e] at p1
  exact ⟨_, hr, p1, p3⟩

/-- wpAnyH_take, the operation laid out. -/
theorem take_mk {P : Program} {md : Region.Mode} {ops : Array Oper} {Q : Exit → Act → World → Prop} {S : World → Prop} (i : Nat) (v : Value) {d : Option Tmp} {op : Op} {ty : TypeId} {pos : String} {aft} {gd} {fuel : Nat} {listed : Array Bool} {a : Act} {w : World} (hi : ops[i]? = some ⟨d, op, ty, pos, aft, gd⟩)
    (hs : Region.noSelect ops = true) (hf : Region.free md ops listed i = true) (hr : (Region.ready md ops listed).contains i = true)
    (hQ : ∀ c a w, Q (.panic c) (a.put d v) w → Q (.panic c) a w) (hy : YieldsIf P ops S ⟨d, op, ty, pos, aft, gd⟩ v a) (hS : S w)
    (h : wpAnyH P md ops Q S fuel (listed.setIfInBounds i true) (a.put d v) w) : wpAnyH P md ops Q S (fuel + 1) listed a w :=
  wpAnyH_take hi hs hf hr hQ hy hS h

/-- A store, by its run. -/
theorem wp_store_run {op : Oper} {a : Act} {w w' : World} {K : Act → World → Prop} {Q : Exit → Act → World → Prop} (ty : TypeId) (x y : Operand) (ho : op.op = .store ty x y) (xv yv : Value) (hx : a.eval x = xv) (hy : a.eval y = yv)
    (hrun : (Instr.storeAt ty xv yv).run Try.prog w = .ok () w') (h : K (a.put op.dst undef) w') : Oper.wp Try.prog op a w K Q := by
  unfold Oper.wp execOp
  simp only [ho, hx, hy, Sem.run_bind, hrun, Result.andThen_ok, Sem.run_pure]
  exact h

theorem wpList_store_run {ops : Array Oper} {rest : List Oper} {op : Oper} {a : Act} {w w' : World} {Q : Exit → Act → World → Prop} (hgd : op.guard = none) (ty : TypeId) (x y : Operand) (ho : op.op = .store ty x y) (xv yv : Value) (hx : a.eval x = xv) (hy : a.eval y = yv)
    (hrun : (Instr.storeAt ty xv yv).run Try.prog w = .ok () w') (h : wpList Try.prog ops Q rest (a.put op.dst undef) w') : wpList Try.prog ops Q (op :: rest) a w :=
  wpList_plain hgd fun _ hK => wp_store_run ty x y ho xv yv hx hy hrun (hK _ _ h)

/-- A feature. -/
structure Ft where
  kind : Int
  ar : Int
  fn : ByteArray
abbrev fcs (f : Ft) : List Value := [.int .i64 f.kind, .int .i64 f.ar, .string f.fn]
abbrev fval (f : Ft) : Value := .agg #[.int .i64 f.kind, .int .i64 f.ar, .string f.fn]
/-- What stands at a place. -/
def feat : T → List Nat → Ft
  | t, [] => if t.fn.size = 0 then ⟨2, 0, ⟨#[]⟩⟩ else ⟨1, t.args.length, t.fn⟩
  | t, k :: ks => if t.fn.size = 0 then ⟨3, 0, ⟨#[]⟩⟩ else if h : k < t.args.length then feat t.args[k] ks else ⟨4, 0, ⟨#[]⟩⟩
theorem feat_var {t : T} {pl : List Nat} {i : Nat} (h : t.fn.size = 0) (hi : i < pl.length) : feat t (pl.drop i) = ⟨3, 0, ⟨#[]⟩⟩ := by
  rw [List.drop_eq_getElem_cons hi]; simp [feat, h]
theorem feat_none {t : T} {pl : List Nat} {i : Nat} (h : ¬ t.fn.size = 0) (hi : i < pl.length) (hk : ¬ pl[i] < t.args.length) : feat t (pl.drop i) = ⟨4, 0, ⟨#[]⟩⟩ := by
  rw [List.drop_eq_getElem_cons hi]; simp [feat, h, hk]
theorem feat_down {t : T} {pl : List Nat} {i : Nat} (h : ¬ t.fn.size = 0) (hi : i < pl.length) (hk : pl[i] < t.args.length) : feat t (pl.drop i) = feat t.args[pl[i]] (pl.drop (i + 1)) := by
  rw [List.drop_eq_getElem_cons hi]; simp [feat, h, hk]
theorem feat_end {t : T} {pl : List Nat} {i : Nat} (hi : pl.length ≤ i) : feat t (pl.drop i) = if t.fn.size = 0 then ⟨2, 0, ⟨#[]⟩⟩ else ⟨1, t.args.length, t.fn⟩ := by
  rw [List.drop_eq_nil_of_le hi]; simp [feat]
/-- Where a look stands: the term's box, the answer's. -/
structure Lk (w : World) (ty : TypeId) (t : T) (s : Value) (W : World) : Prop where
  bel : Below w.heap.size w W
  tb : W.heap[w.heap.size]? = some (.cells #[.int .i64 t.v, .string t.fn, s] 24 (0, 0))
  fb : W.heap[w.heap.size + 1]? = some (.cells #[.int .i64 0, .int .i64 0, .string ⟨#[]⟩] ty (0, 0))
  ar : ArgsAt w s t.args
theorem Try.info24z : (Try.prog.info? 24).map (·.size) = some 3 := by kernel_rfl
theorem Try.info63z : (Try.prog.info? 63).map (·.size) = some 3 := by kernel_rfl
theorem Try.info64z : (Try.prog.info? 64).map (·.size) = some 3 := by kernel_rfl
theorem Lk.cells {w W : World} {ty : TypeId} {t : T} {s : Value} (h : Lk w ty t s W) : W.cell? ⟨w.heap.size, 0, none⟩ = some (.int .i64 t.v) ∧ W.cell? ⟨w.heap.size, 1, none⟩ = some (.string t.fn) ∧ W.cell? ⟨w.heap.size, 2, none⟩ = some s := by
  refine ⟨?_, ?_, ?_⟩ <;> simp [World.cell?, h.tb]
theorem Lk.new (w : World) (ty : TypeId) (t : T) (s : Value) (ha : ArgsAt w s t.args) : Lk w ty t s ((w.alloc (tbox t s)).alloc (.cells #[.int .i64 0, .int .i64 0, .string ⟨#[]⟩] ty)) := by
  refine ⟨below_box2 w _ _, ?_, ?_, ha⟩
  · have := (below_box (w.alloc (tbox t s)) (.cells #[.int .i64 0, .int .i64 0, .string ⟨#[]⟩] ty)).block w.heap.size (by simp)
    rw [this]
    exact (MapKept.heap_alloc w _).1
  · have := (MapKept.heap_alloc (w.alloc (tbox t s)) (.cells #[.int .i64 0, .int .i64 0, .string ⟨#[]⟩] ty)).1
    simpa using this
/-- The next term is laid into the box. -/
theorem Lk.next {w W : World} {ty : TypeId} {t u : T} {s r : Value} (h : Lk w ty t s W) (hr : ArgsAt w r u.args) :
    ∃ W', (Instr.storeAt 24 (.pointer (some ⟨w.heap.size, 0, none⟩)) (tval u r)).run Try.prog W = .ok () W' ∧ Lk w ty u r W' := by
  obtain ⟨a, c, rfl, _, _⟩ := hr.slice
  obtain ⟨W', h1, h2, h3⟩ := agg_store 24 W w.heap.size _ [.int .i64 u.v, .string u.fn, .slice a u.args.length c] h.tb rfl Try.info24z (by intro z hz; simp only [List.mem_cons, List.not_mem_nil, or_false] at hz; rcases hz with rfl | rfl | rfl <;> rfl)
  refine ⟨W', h1, ⟨h.bel.trans (h3.below h.bel.size (by simp)), h2, ?_, hr⟩⟩
  rw [h3.block _ (Array.getElem?_eq_some_iff.1 h.fb).1 (by simp)]
  exact h.fb
/-- The answer is laid into its box. -/
theorem Lk.told {w W : World} {ty : TypeId} {t : T} {s : Value} (h : Lk w ty t s W) (hi : (Try.prog.info? ty).map (·.size) = some 3) (f : Ft) :
    ∃ W', (Instr.storeAt ty (.pointer (some ⟨w.heap.size + 1, 0, none⟩)) (fval f)).run Try.prog W = .ok () W' ∧ (W'.cell? ⟨w.heap.size + 1, 0, none⟩ = some (.int .i64 f.kind) ∧ W'.cell? ⟨w.heap.size + 1, 1, none⟩ = some (.int .i64 f.ar) ∧ W'.cell? ⟨w.heap.size + 1, 2, none⟩ = some (.string f.fn)) ∧ Below w.heap.size w W' := by
  obtain ⟨W', h1, h2, h3⟩ := agg_store ty W (w.heap.size + 1) _ (fcs f) h.fb rfl hi (by intro z hz; simp only [fcs, List.mem_cons, List.not_mem_nil, or_false] at hz; rcases hz with rfl | rfl | rfl <;> rfl)
  refine ⟨W', h1, ⟨?_, ?_, ?_⟩, h.bel.trans (h3.below h.bel.size (by simp))⟩ <;> simp [World.cell?, h2]

set_option maxRecDepth 100000 in
set_option maxHeartbeats 4000000 in
theorem featureAt_any (t : T) (s : Value) (pl : List Nat) (vp : Value) (w : World) (ha : ArgsAt w s t.args) (hp : RowAt (fun k : Nat => .int .i64 (k : Int)) w vp pl) :
    Calls Try.prog 57 #[tval t s, vp] w fun e w' => e = .returned (fval (feat t pl)) ∧ Below w.heap.size w w' := by
  have HL0 : Hid (Lk w 63 t s ((w.alloc (tbox t s)).alloc (.cells #[.int .i64 0, .int .i64 0, .string ⟨#[]⟩] 63))) := Lk.new w 63 t s ha
  obtain ⟨pa, pc, rfl, hpc, hpm⟩ := hp.slice
  have HP : Hid (RowAt (fun k : Nat => .int .i64 (k : Int)) w (.slice pa pl.length pc) pl) := hp
  obtain ⟨W1, h1⟩ : ∃ X, (w.alloc (tbox t s)).alloc (.cells #[.int .i64 0, .int .i64 0, .string ⟨#[]⟩] 63) = X := ⟨_, rfl⟩
  rw [h1] at HL0
  obtain ⟨sa, sc, rfl, _, _⟩ := ha.slice
  clear ha hp
  go_enter Try.func57, Try.ntmps57
  try rw [h1]
  go_wp2
  try rw [h1]
  go_loopw [9] (fun vi wr => ∃ (i : Nat) (u : T) (r : Value), vi = .int .i64 i ∧ i ≤ pl.length ∧ Hid (Lk w 63 u r wr ∧ feat t pl = feat u (pl.drop i))) (fun vi _ => pl.length - (intOf vi).toNat)
  case atStart => exact ⟨0, t, _, rfl, Nat.zero_le _, HL0.out, by simp⟩
  case round =>
    obtain ⟨i, u, r, rfl, hi, HI⟩ := hrel
    have HL : Hid (Lk w 63 u r wr) := HI.out.1
    obtain ⟨c0, c1, c2⟩ := HL.out.cells
    have har : ArgsAt w r u.args := HL.out.ar
    obtain ⟨ra, rc, rfl, _, hrm⟩ := har.slice
    have HA : Hid (ArgsAt w (.slice ra u.args.length rc) u.args) := har
    have hB := HL.out.bel
    clear har HL0
    by_cases hlt : i < pl.length
    · have hiI : (i : Int) < (pl.length : Int) := by omega
      obtain ⟨pb, po, rfl, hpb, hpcell⟩ := HP.out.nth hlt
      have hpc' := kc hB hpb hpcell
      by_cases h0 : u.fn.size = 0
      · have h00 : u.fn.toList.isEmpty = true := by rw [ba_isEmpty, h0]; rfl
        have HF : Hid (feat t pl = ⟨3, 0, ⟨#[]⟩⟩) := by show _ = _; rw [HI.out.2, feat_var h0 hlt]
        obtain ⟨W2, hrun, ⟨k0, k1, k2⟩, hb2⟩ := HL.out.told Try.info63z ⟨3, 0, ⟨#[]⟩⟩
        clear HI HL h0 hB
        go_wp2_with (first | (refine wpList_store_run rfl 63 _ _ rfl (.pointer (some ⟨w.heap.size + 1, 0, none⟩)) (fval ⟨3, 0, ⟨#[]⟩⟩) rfl rfl hrun ?_))
        refine bodyPost_ret (v := fval ⟨3, 0, ⟨#[]⟩⟩) (by simp [results, Try.results57, go_sem, *]) rfl ⟨by rw [HF.out], hb2⟩
      · have h00 : u.fn.toList.isEmpty = false := by rw [ba_isEmpty]; simpa using h0
        by_cases hk : pl[i] < u.args.length
        · have hkI : ¬ ((u.args.length : Int) ≤ (pl[i] : Int)) := by omega
          have hkN : ¬ (u.args.length ≤ pl[i]) := by omega
          have hkL : (pl[i] : Int) < (u.args.length : Int) := by omega
          have HF : Hid (feat t pl = feat u.args[pl[i]] (pl.drop (i + 1))) := by show _ = _; rw [HI.out.2, feat_down h0 hlt hk]
          obtain ⟨b, o, s2, rfl, hbl, d0, d1, d2, hs2⟩ := HA.out.nth hk
          replace d0 := kc hB hbl d0
          replace d1 := kc hB hbl d1
          replace d2 := kc hB hbl d2
          have hn0 : (0 : Int) ≤ (pl[i] : Int) := by omega
          obtain ⟨W2, hrun, hL2⟩ := HL.out.next hs2
          obtain ⟨ea, ec, rfl, _, _⟩ := hs2.slice
          have HL2 : Hid (Lk w 63 u.args[pl[i]] (.slice ea (u.args[pl[i]]).args.length ec) W2) := hL2
          obtain ⟨k, hkk⟩ : ∃ k, pl[i] = k := ⟨_, rfl⟩
          simp only [hkk] at *
          clear HI HL h0 hB hs2 hL2
          go_wp2_with (first | (refine wpList_store_run rfl 24 _ _ rfl (.pointer (some ⟨w.heap.size, 0, none⟩)) (tval u.args[k] (.slice ea (u.args[k]).args.length ec)) rfl rfl hrun ?_))
          go_roundw
          case rel => exact ⟨i + 1, _, _, by go_num, by omega, HL2.out, HF.out⟩
          case measure => simp [intOf]; omega
        · have hkI : ((u.args.length : Int) ≤ (pl[i] : Int)) := by omega
          have hkN : (u.args.length ≤ pl[i]) := by omega
          have HF : Hid (feat t pl = ⟨4, 0, ⟨#[]⟩⟩) := by show _ = _; rw [HI.out.2, feat_none h0 hlt hk]
          obtain ⟨W2, hrun, ⟨k0, k1, k2⟩, hb2⟩ := HL.out.told Try.info63z ⟨4, 0, ⟨#[]⟩⟩
          clear HI HL h0 hB hk
          go_wp2_with (first | (refine wpList_store_run rfl 63 _ _ rfl (.pointer (some ⟨w.heap.size + 1, 0, none⟩)) (fval ⟨4, 0, ⟨#[]⟩⟩) rfl rfl hrun ?_))
          refine bodyPost_ret (v := fval ⟨4, 0, ⟨#[]⟩⟩) (by simp [results, Try.results57, go_sem, *]) rfl ⟨by rw [HF.out], hb2⟩
    · have hiI : ¬ (i : Int) < (pl.length : Int) := by omega
      by_cases h0 : u.fn.size = 0
      · have h00 : u.fn.toList.isEmpty = true := by rw [ba_isEmpty, h0]; rfl
        have HF : Hid (feat t pl = ⟨2, 0, ⟨#[]⟩⟩) := by show _ = _; rw [HI.out.2, feat_end (by omega), if_pos h0]
        obtain ⟨W2, hrun, ⟨k0, k1, k2⟩, hb2⟩ := HL.out.told Try.info63z ⟨2, 0, ⟨#[]⟩⟩
        clear HI HL h0 hB
        go_wp2_with (first | (refine wpList_store_run rfl 63 _ _ rfl (.pointer (some ⟨w.heap.size + 1, 0, none⟩)) (fval ⟨2, 0, ⟨#[]⟩⟩) rfl rfl hrun ?_))
        refine bodyPost_ret (v := fval ⟨2, 0, ⟨#[]⟩⟩) (by simp [results, Try.results57, go_sem, *]) rfl ⟨by rw [HF.out], hb2⟩
      · have h00 : u.fn.toList.isEmpty = false := by rw [ba_isEmpty]; simpa using h0
        have HF : Hid (feat t pl = ⟨1, u.args.length, u.fn⟩) := by show _ = _; rw [HI.out.2, feat_end (by omega), if_neg h0]
        obtain ⟨W2, hrun, ⟨k0, k1, k2⟩, hb2⟩ := HL.out.told Try.info63z ⟨1, u.args.length, u.fn⟩
        clear HI HL h0 hB
        go_wp2_with (first | (refine wpList_store_run rfl 63 _ _ rfl (.pointer (some ⟨w.heap.size + 1, 0, none⟩)) (fval ⟨1, u.args.length, u.fn⟩) rfl rfl hrun ?_))
        refine bodyPost_ret (v := fval ⟨1, u.args.length, u.fn⟩) (by simp [results, Try.results57, go_sem, *]) rfl ⟨by rw [HF.out], hb2⟩

end Go.Proofs.Ytiklbkkimmgbcaa
