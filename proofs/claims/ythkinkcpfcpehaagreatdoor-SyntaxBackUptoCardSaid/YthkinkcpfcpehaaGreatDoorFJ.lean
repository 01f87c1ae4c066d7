import Derived.Test.YthkinkcpfcpehaaGreatDoorFG
import Derived.Maps.AppendAt
import Derived.Deep.RegionHeld3
import Derived.Deep.RegionLaw
namespace Go.Proofs.YthkinkcpfcpehaaGreatDoor
set_option maxRecDepth 100000
set_option maxHeartbeats 8000000
section
open Go.RowKit Go.Maps
open Lx (Tk ofL KsAt flK flK_snoc row_keep row_block row_slice lit3 one3)
theorem max_big : 2097155 < maxLen := by decide
theorem ofL_len {s : List UInt8} (h : s.length ≤ maxLen) : (ofL s).size ≤ maxLen := h
section
variable {E : Env} {w : World} {l : List Tk} {bd : List (List UInt8)} {fr : List Tk} {kb : Nat} {fv c5 : Value}
theorem PSt.fresh (h : PSt E w l bd fr kb fv c5) {k : Nat} (hk : w.heap.size ≤ k) : ¬ Own E fv k := fun ho => by have := (h.ownlt ho).2; omega
theorem fput_count {g : ByteArray → Option Int} {fr : List Tk} (hg : ∀ s, (g (ofL s)).getD 0 = ((fr.map Tk.t).count s : Nat)) (t : Tk) (s : List UInt8) : (fput g (ofL t.t) ((g (ofL t.t)).getD 0 + 1) (ofL s)).getD 0 = (((fr ++ [t]).map Tk.t).count s : Nat) := by
  rw [List.map_append, List.count_append, List.map_cons, List.map_nil, List.count_cons, List.count_nil]
  unfold fput
  by_cases h : s = t.t
  · subst h
    rw [if_pos rfl, hg]
    simp
  · rw [if_neg (fun e => h (ofL_inj e)), hg, if_neg (by simpa using fun e => h e.symm)]
    simp
/-- A name that is bound here. -/
theorem pmeet_bound (h : PSt E w l bd fr kb fv c5) {s : List UInt8} (hs : s.length ≤ maxLen) (hm : s ∈ bd) :
    Calls Tryz.prog 121 #[.agg #[.map (some E.mb), .map (some E.mm)], .string (ofL s)] w fun e w' => e = .returned (.bool false) ∧ PSt E w' l bd fr kb fv c5 ∧ Stay E w fv w' fv := by
  obtain ⟨f, hf, hf2⟩ := h.bnd
  refine (meet_bound (mm := E.mm) hf (ofL s) (ofL_len hs) (by rw [hf2]; have := List.count_pos_iff.2 hm; omega)).mono ?_
  rintro e w' ⟨he, hb⟩
  exact ⟨he, h.keep hb, Stay.of_below hb⟩
/-- A free one. -/
theorem pmeet_free (h : PSt E w l bd fr kb fv c5) {t : Tk} (ht : t.t.length ≤ maxLen) (hN : fr.length + 1 + l.length ≤ E.N) (hm : t.t ∉ bd) :
    Calls Tryz.prog 121 #[.agg #[.map (some E.mb), .map (some E.mm)], .string (ofL t.t)] w fun e w' => e = .returned (.bool (decide (t.t ∉ fr.map Tk.t))) ∧ (∃ g, Nm w' E.mm g (fr.length + 1) ∧ ∀ s, (g (ofL s)).getD 0 = (((fr ++ [t]).map Tk.t).count s : Nat)) ∧ Only [E.mm] w w' := by
  obtain ⟨f, hf, hf2⟩ := h.bnd
  obtain ⟨g, hg, hg2⟩ := h.met
  have hmx := h.mx
  have hb := max_big
  have hc : (fr.map Tk.t).count t.t ≤ fr.length := by have := List.count_le_length (a := t.t) (l := fr.map Tk.t); simpa using this
  refine (meet_free hf hg (by omega) (ofL t.t) (ofL_len ht) (by rw [hf2, List.count_eq_zero.2 hm]; simp) (by rw [hg2]; omega) (by rw [hg2]; omega)).mono ?_
  rintro e w' ⟨he, h1, h2⟩
  refine ⟨?_, ⟨_, h1, fun s => fput_count hg2 t s⟩, h2⟩
  rw [he]
  congr 2
  by_cases hq : t.t ∈ fr.map Tk.t
  · have := List.count_pos_iff.2 hq
    rw [decide_eq_false (by rw [hg2]; omega), decide_eq_false (by simpa using hq)]
  · rw [decide_eq_true (by rw [hg2, List.count_eq_zero.2 hq]; rfl), decide_eq_true hq]
/-- It was met before. -/
theorem PSt.again (h : PSt E w l bd fr kb fv c5) {t : Tk} {w' : World} (hN : fr.length + 1 + l.length ≤ E.N) (hg : ∃ g, Nm w' E.mm g (fr.length + 1) ∧ ∀ s, (g (ofL s)).getD 0 = (((fr ++ [t]).map Tk.t).count s : Nat)) (ho : Only [E.mm] w w') (hm : t.t ∈ fr.map Tk.t) : PSt E w' l bd (fr ++ [t]) kb fv c5 ∧ Stay E w fv w' fv := by
  obtain ⟨f, hf, hf2⟩ := h.bnd
  obtain ⟨g, hg, hg2⟩ := hg
  obtain ⟨rv, b1, b2, b3⟩ := h.bx.ks
  have hlo := h.lo.2
  have hBl := (Array.getElem?_eq_some_iff.1 b1).1
  refine ⟨⟨⟨⟨rv, (ho.block _ hBl (by simpa using fun e => h.mmB e.symm)).trans b1, KsAt_same b2 ho.size (fun b hb => ?_), b3⟩, h.bx.mB⟩, ⟨f, hf.same (ho.block _ hf.lt (by simpa using h.ne)), hf2⟩, ⟨g, by simpa using hg, hg2⟩, ?_, h.bud, by simpa using hN, h.mx, h.tok, h.ne, h.lo⟩, Stay.of_only ho (fun r hr => by simp at hr; exact .inr (.inr (.inl hr)))⟩
  · have := b3 b hb
    have := h.bx.mB
    exact ho.block b (by omega) (by simp; omega)
  · rw [firsts_snoc, if_pos ((mem_firsts _ _).2 hm)]
    exact row_keep h.row (fun r hr => ho.block r (h.fvlt hr).2 (fun hm => by simp at hm; subst hm; exact h.fvm hr))
/-- Behind the append of a name that is met for the first time. -/
theorem PSt.pushed (h : PSt E w l bd fr kb fv c5) {t : Tk} {w' w2 w3 : World} {v' : Value} (hN : fr.length + 1 + l.length ≤ E.N) (hg : ∃ g, Nm w' E.mm g (fr.length + 1) ∧ ∀ s, (g (ofL s)).getD 0 = (((fr ++ [t]).map Tk.t).count s : Nat)) (ho : Only [E.mm] w w') (hm : t.t ∉ fr.map Tk.t) (hb : Below w'.heap.size w' w2)
    (hown : w3.ownsRow E.n0 57 3 v' ((firsts fr).length + 1) (flK (firsts fr) ++ [.int .i64 t.k, .int .i64 (t.a : Nat), .string (ofL t.t)])) (hgr : w2.grownBy w3 fv.ownBlock) (hat : v'.ownBlock = fv.ownBlock ∨ v'.ownBlock = some w2.heap.size) :
    (w3.cell? ⟨E.B, 4, none⟩ = some fv ∧ w3.frozen? ⟨E.B, 4, none⟩ = false) ∧ PSt E (w3.setCell ⟨E.B, 4, none⟩ v') l bd (fr ++ [t]) kb v' c5 ∧ Stay E w fv (w3.setCell ⟨E.B, 4, none⟩ v') v' := by
  obtain ⟨f, hf, hf2⟩ := h.bnd
  obtain ⟨g, hg, hg2⟩ := hg
  obtain ⟨rv, b1, b2, b3⟩ := h.bx.ks
  have hlo := h.lo
  have hBl := (Array.getElem?_eq_some_iff.1 b1).1
  have hs1 := ho.size
  have hs2 := hb.size
  have hs3 := hgr.size
  -- what is neither the free row's nor the met names' stays up to the store
  have same : ∀ k, k < w.heap.size → k ≠ E.mm → fv.ownBlock ≠ some k → w3.heap[k]? = w.heap[k]? := fun k hk h1 h2 =>
    ((hgr.block k (by omega) (fun e => h2 e.symm)).trans (hb.block k (by omega))).trans (ho.block k hk (by simpa using h1))
  have hB3 : w3.heap[E.B]? = some (.cells #[rv, .int .i64 (E.n : Nat), .map (some E.mb), .map (some E.mm), fv, c5] 55 (0, 0)) := (same E.B hBl (fun e => h.mmB e.symm) h.fvB).trans b1
  have hset : (w3.setCell ⟨E.B, 4, none⟩ v').heap[E.B]? = some (.cells #[rv, .int .i64 (E.n : Nat), .map (some E.mb), .map (some E.mm), v', c5] 55 (0, 0)) := by have := heap_setCell_same w3 E.B 4 _ 55 v' hB3; simpa using this
  have oth : ∀ k, k ≠ E.B → (w3.setCell ⟨E.B, 4, none⟩ v').heap[k]? = w3.heap[k]? := fun k hk => Below.heap_setCell _ _ _ k hk
  have hmm3 : w3.heap[E.mm]? = w'.heap[E.mm]? := (hgr.block _ (by have := hg.lt; omega) (fun e => h.fvm e.symm)).trans (hb.block _ hg.lt)
  have hv'B : v'.ownBlock ≠ some E.B := fun e => by
    rcases hat with h1 | h1
    · exact h.fvB (h1 ▸ e)
    · rw [h1] at e; have := Option.some.inj e; omega
  refine ⟨⟨cell_store (vs := [_, _, _, _, _, _]) hB3 rfl, frozen_cells hB3⟩, ⟨⟨⟨rv, hset, KsAt_same b2 (by simp; omega) (fun b hbb => ?_), b3⟩, h.bx.mB⟩, ⟨f, hf.same ((oth _ h.mbB).trans (same _ hf.lt h.ne h.fvb)), hf2⟩, ⟨g, by rw [List.length_append]; exact hg.same ((oth _ h.mmB).trans hmm3), hg2⟩, ?_, h.bud, by simpa using hN, h.mx, h.tok, h.ne, h.lo⟩, ?_⟩
  · have h3 := b3 b hbb
    have h4 := h.bx.mB
    exact (oth b (by omega)).trans (same b (by omega) (by omega) (fun e => by have := (h.fvlt e).1; omega))
  · rw [firsts_snoc, if_neg (fun hx => hm ((mem_firsts _ _).1 hx)), flK_snoc, List.length_append]
    exact row_keep hown (fun r hr => oth r (fun e => hv'B (e ▸ hr)))
  · refine ⟨hgr.os.trans (hb.os.trans ho.os), hgr.tape.trans (hb.tape.trans ho.tape), hgr.output.trans (hb.output.trans ho.output), by simp; omega, fun k hk hn => ?_⟩
    have n1 : k ≠ E.B := fun e => hn (.inl e)
    have n2 : k ≠ E.mm := fun e => hn (.inr (.inr (.inl e)))
    have n3 : fv.ownBlock ≠ some k := fun e => hn (.inr (.inr (.inr e)))
    refine ⟨(oth k n1).trans (same k hk n2 n3), ?_⟩
    rintro (e | e | e | e)
    · exact n1 e
    · exact hn (.inr (.inl e))
    · exact n2 e
    · rcases hat with h1 | h1
      · exact n3 (h1 ▸ e)
      · rw [h1] at e; cases e; omega
end
end
section
open Go.RowKit Go.Maps
open Lx (Tk ofL KsAt flK flK_snoc row_keep row_block row_slice lit3 one3)
theorem fld0 (k a : Int) (s : ByteArray) (W : World) : Sem.run Tryz.prog (Instr.field 57 (.agg #[.int .i64 k, .int .i64 a, .string s]) 0) W = .ok (.int .i64 k) W := by kernel_rfl
theorem fld2 (k a : Int) (s : ByteArray) (W : World) : Sem.run Tryz.prog (Instr.field 57 (.agg #[.int .i64 k, .int .i64 a, .string s]) 2) W = .ok (.string s) W := by kernel_rfl
attribute [local go_sem] fld0 fld2
abbrev tmV (t : T) (sl : Value) : Value := .agg #[.int .i64 t.v, .string t.fn, sl]
theorem res_cells {w : World} {R : Nat} {a b c : Value} (h : w.heap[R]? = some (.cells #[a, b, c] 24 (0, 0))) : (w.cell? ⟨R, 0, none⟩ = some a ∧ w.cell? ⟨R, 1, none⟩ = some b ∧ w.cell? ⟨R, 2, none⟩ = some c) ∧ w.frozen? ⟨R, 0, none⟩ = false ∧ w.frozen? ⟨R, 1, none⟩ = false ∧ w.frozen? ⟨R, 2, none⟩ = false :=
  ⟨⟨cell_store (vs := [_, _, _]) h rfl, cell_store (vs := [_, _, _]) h rfl, cell_store (vs := [_, _, _]) h rfl⟩, frozen_cells h, frozen_cells h, frozen_cells h⟩
theorem box3 {X : World} {g : Nat} {u v s : Value} {ty : TypeId} (h : X.heap[g]? = some (.cells #[u, v, s] ty (0, 0))) (x y z : Value) :
    (((X.setCell ⟨g, 0, none⟩ x).setCell ⟨g, 1, none⟩ y).setCell ⟨g, 2, none⟩ z).heap[g]? = some (.cells #[x, y, z] ty (0, 0)) := by
  have e1 := heap_setCell_same X g 0 _ ty x h
  have e2 := heap_setCell_same _ g 1 _ ty y e1
  have e3 := heap_setCell_same _ g 2 _ ty z e2
  simpa using e3
theorem only3 (X : World) (g : Nat) (x y z : Value) : Only [g] X (((X.setCell ⟨g, 0, none⟩ x).setCell ⟨g, 1, none⟩ y).setCell ⟨g, 2, none⟩ z) :=
  ((only_cell (Below.refl _ X) g 0 x).trans (only_cell (Below.refl _ _) g 1 y) (fun _r hr => .inl hr)).trans (only_cell (Below.refl _ _) g 2 z) (fun _r hr => .inl hr)
theorem PSt.write {E : Env} {W W' : World} {l : List Tk} {bd : List (List UInt8)} {fr : List Tk} {kb : Nat} {fv c5 : Value} (h : PSt E W l bd fr kb fv c5) {R : Nat} (ho : Only [R] W W') (hR : ¬ Own E fv R) (hn : E.n0 ≤ R) : PSt E W' l bd fr kb fv c5 := by
  obtain ⟨f, hf, hf2⟩ := h.bnd
  obtain ⟨g, hg, hg2⟩ := h.met
  obtain ⟨rv, b1, b2, b3⟩ := h.bx.ks
  have hBl := (Array.getElem?_eq_some_iff.1 b1).1
  have key : ∀ k, Own E fv k → k < W.heap.size → W'.heap[k]? = W.heap[k]? := fun k hk hl => ho.block k hl (fun hm => by simp at hm; subst hm; exact hR hk)
  exact ⟨⟨⟨rv, (key _ (.inl rfl) hBl).trans b1, KsAt_same b2 ho.size (fun b hb => ho.block b (by have := b3 b hb; have := h.bx.mB; omega) (fun hm => by simp at hm; have := b3 b hb; omega)), b3⟩, h.bx.mB⟩, ⟨f, hf.same (key _ (.inr (.inl rfl)) hf.lt), hf2⟩, ⟨g, hg.same (key _ (.inr (.inr (.inl rfl))) hg.lt), hg2⟩, row_keep h.row (fun r hr => key r (.inr (.inr (.inr hr))) (h.fvlt hr).2), h.bud, h.bud2, h.mx, h.tok, h.ne, h.lo⟩
theorem Stay.write {E : Env} {w W W' : World} {fv fv' : Value} (h : Stay E w fv W fv') {R : Nat} (ho : Only [R] W W') (hR : w.heap.size ≤ R) : Stay E w fv W' fv' :=
  ⟨ho.os.trans h.os, ho.tape.trans h.tape, ho.output.trans h.output, Nat.le_trans h.size ho.size, fun k hk hn => ⟨(ho.block k (by have := h.size; omega) (fun hm => by simp at hm; omega)).trans (h.blk k hk hn).1, (h.blk k hk hn).2⟩⟩
theorem ptake_k {E : Env} {w : World} {t : Tk} {r : List Tk} {bd : List (List UInt8)} {fr : List Tk} {kb : Nat} {fv c5 : Value} (h : PSt E w (t :: r) bd fr kb fv c5) {k : Int} (hk : t.k = k) :
    Calls Tryz.prog 207 #[.pointer (some ⟨E.B, 0, none⟩), .int .i64 k] w fun e w' => e = .returned (tokV E.n (t :: r)) ∧ PSt E w' r bd fr kb fv c5 ∧ Stay E w fv w' fv := by
  subst hk
  exact ptake_yes h
theorem term_known {E : Env} {w : World} {t : Tk} {r : List Tk} {bd : List (List UInt8)} {fr : List Tk} {kb : Nat} {fv c5 : Value} (h : PSt E w (t :: r) bd fr kb fv c5) (hk : t.k = 2) {fr' : List Tk} (hq : ∀ X, PSt E X r bd fr kb fv c5 → Calls Tryz.prog 121 #[.agg #[.map (some E.mb), .map (some E.mm)], .string (ofL t.t)] X fun e w' => e = .returned (.bool false) ∧ PSt E w' r bd fr' kb fv c5 ∧ Stay E X fv w' fv) :
    Calls Tryz.prog 199 #[.pointer (some ⟨E.B, 0, none⟩)] w fun e w' => e = .returned (tmV (.mk 0 (ofL t.t) []) (.slice none 0 0)) ∧ PSt E w' r bd fr' kb fv c5 ∧ Stay E w fv w' fv := by
  have hb0 := below_box w (.cells #[.int .i64 0, .string ⟨#[]⟩, .slice none 0 0] 24)
  have h0 := h.keep hb0
  have hz := (MapKept.heap_alloc w (.cells #[.int .i64 0, .string ⟨#[]⟩, .slice none 0 0] 24)).1
  have HR : Hid (¬ Own E fv w.heap.size) := h.fresh (Nat.le_refl _)
  have HRn : Hid (E.n0 ≤ w.heap.size) := by show E.n0 ≤ w.heap.size; have := h.ownlt (k := E.B) (.inl rfl); omega
  obtain ⟨W0, hW0⟩ : ∃ X, w.alloc (.cells #[.int .i64 0, .string ⟨#[]⟩, .slice none 0 0] 24) = X := ⟨_, rfl⟩
  rw [hW0] at h0 hb0 hz
  obtain ⟨R, hR⟩ : ∃ R, w.heap.size = R := ⟨_, rfl⟩
  have ha := pahead h0
  have hRl : R < W0.heap.size := by rw [hR] at hz; exact (Array.getElem?_eq_some_iff.1 hz).1
  rw [hR] at hz HR HRn
  have H0 : Hid (W0.heap[R]? = some (.cells #[.int .i64 0, .string ⟨#[]⟩, .slice none 0 0] 24 (0, 0)) ∧ R < W0.heap.size ∧ Stay E w fv W0 fv) := ⟨hz, hRl, Stay.of_below hb0⟩
  obtain ⟨tx, htx⟩ : ∃ x, ofL t.t = x := ⟨_, rfl⟩
  simp only [tokV, hk, htx] at ha
  clear hb0 hz h0 h hRl
  go_enter Tryz.func199, Tryz.ntmps199
  go_upto_region 1 with fail
  try simp only [hR]
  try rw [hW0]
  clear hW0
  go_wp2_with fail
  refine ha.mono ?_
  rintro e W1 ⟨rfl, h1, s1⟩
  have H1 : Hid (W1.heap[R]? = some (.cells #[.int .i64 0, .string ⟨#[]⟩, .slice none 0 0] 24 (0, 0)) ∧ R < W1.heap.size ∧ Stay E w fv W1 fv) := ⟨(s1.blk R H0.out.2.1 HR.out).1.trans H0.out.1, Nat.lt_of_lt_of_le H0.out.2.1 s1.size, H0.out.2.2.trans s1⟩
  have ha2 := ptake_k h1 hk
  simp only [tokV, hk, htx] at ha2
  clear ha h1 s1 H0
  go_wp2_with fail
  refine ha2.mono ?_
  rintro e W2 ⟨rfl, h2, s2⟩
  have H2 : Hid (W2.heap[R]? = some (.cells #[.int .i64 0, .string ⟨#[]⟩, .slice none 0 0] 24 (0, 0)) ∧ R < W2.heap.size ∧ Stay E w fv W2 fv) := ⟨(s2.blk R H1.out.2.1 HR.out).1.trans H1.out.1, Nat.lt_of_lt_of_le H1.out.2.1 s2.size, H1.out.2.2.trans s2⟩
  clear ha2 s2 H1
  go_upto_region 3 with fail
  have hb3 := below_box W2 (.cells #[.int .i64 2, .int .i64 (t.a : Nat), .string tx] 57)
  have hz3 := (MapKept.heap_alloc W2 (.cells #[.int .i64 2, .int .i64 (t.a : Nat), .string tx] 57)).1
  have h3 := h2.keep hb3
  have hG : ¬ Own E fv W2.heap.size := h2.fresh (Nat.le_refl _)
  have hGR : R ≠ W2.heap.size := fun e => by have := H2.out.2.1; omega
  obtain ⟨G, hGe⟩ : ∃ G, W2.heap.size = G := ⟨_, rfl⟩
  rw [hGe] at hz3 hG hGR
  try simp only [hGe]
  obtain ⟨W3, hW3⟩ : ∃ X, W2.alloc (.cells #[.int .i64 2, .int .i64 (t.a : Nat), .string tx] 57) = X := ⟨_, rfl⟩
  rw [hW3] at h3 hb3 hz3 ⊢
  have H3 : Hid (W3.heap[R]? = some (.cells #[.int .i64 0, .string ⟨#[]⟩, .slice none 0 0] 24 (0, 0)) ∧ R < W3.heap.size ∧ Stay E w fv W3 fv ∧ W3.heap[G]? = some (.cells #[.int .i64 2, .int .i64 (t.a : Nat), .string tx] 57 (0, 0)) ∧ ¬ Own E fv G ∧ R ≠ G) := ⟨(hb3.block R H2.out.2.1).trans H2.out.1, Nat.lt_of_lt_of_le H2.out.2.1 hb3.size, H2.out.2.2.trans (Stay.of_below hb3), hz3, hG, hGR⟩
  obtain ⟨rv, hbx⟩ := h3.boxAt
  have x2 : W3.cell? ⟨E.B, 2, none⟩ = some (.map (some E.mb)) := cell_store (vs := [_, _, _, _, _, _]) hbx rfl
  have x3 : W3.cell? ⟨E.B, 3, none⟩ = some (.map (some E.mm)) := cell_store (vs := [_, _, _, _, _, _]) hbx rfl
  have xg : W3.cell? ⟨G, 2, none⟩ = some (.string tx) := cell_store (vs := [_, _, _]) hz3 rfl
  have hd := (Below.refl W3.heap.size W3).drew
  have hme : Calls Tryz.prog 121 #[.agg #[.map (some E.mb), .map (some E.mm)], .string tx] W3.drew fun e w' => e = .returned (.bool false) ∧ Hid (PSt E w' r bd fr' kb fv c5 ∧ Stay E w fv w' fv ∧ w'.heap[R]? = some (.cells #[.int .i64 0, .string ⟨#[]⟩, .slice none 0 0] 24 (0, 0))) ∧ w'.cell? ⟨E.B, 2, none⟩ = some (.map (some E.mb)) ∧ w'.cell? ⟨E.B, 3, none⟩ = some (.map (some E.mm)) ∧ w'.cell? ⟨G, 2, none⟩ = some (.string tx) := by
    rw [← htx]
    refine (hq _ (h3.keep hd)).mono ?_
    rintro e W4 ⟨rfl, h4, s4⟩
    obtain ⟨rv4, hb4⟩ := h4.boxAt
    have hR4 := (s4.blk R H3.out.2.1 HR.out).1.trans H3.out.1
    have hG4 := (s4.blk G (Array.getElem?_eq_some_iff.1 H3.out.2.2.2.1).1 H3.out.2.2.2.2.1).1.trans H3.out.2.2.2.1
    exact ⟨rfl, ⟨h4, H3.out.2.2.1.trans ((Stay.of_below hd).trans s4), hR4⟩, cell_store (vs := [_, _, _, _, _, _]) hb4 rfl, cell_store (vs := [_, _, _, _, _, _]) hb4 rfl, by rw [htx]; exact cell_store (vs := [_, _, _]) hG4 rfl⟩
  clear hb3 hz3 h3 h2 hG hGR hGe hW3 H2 hbx hd
  go_region_held3 (fun X => X.cell? ⟨E.B, 2, none⟩ = some (.map (some E.mb)) ∧ X.cell? ⟨E.B, 3, none⟩ = some (.map (some E.mm)) ∧ X.cell? ⟨G, 2, none⟩ = some (.string tx)) (first | exact ⟨x2, x3, xg⟩ | exact ⟨y2, y3, yg⟩) (first | (go_at_call 121; refine hme.mono ?_; rintro e W4 ⟨rfl, HF, y2, y3, yg⟩))
  obtain ⟨⟨r0, r1, r2⟩, f0, f1, f2⟩ := res_cells HF.out.2.2
  clear x2 x3 xg hme
  go_wp2
  have hbx5 := box3 HF.out.2.2 (.int .i64 0) (.string tx) (.slice none 0 0)
  have ho5 := only3 W4 R (.int .i64 0) (.string tx) (.slice none 0 0)
  obtain ⟨⟨p0, p1, p2⟩, _⟩ := res_cells hbx5
  refine bodyPost_ret (v := tmV (.mk 0 tx []) (.slice none 0 0)) (by simp [results, Tryz.results199, go_sem, p0, p1, p2, T.v, T.fn]) rfl ?_
  exact ⟨by rw [htx], HF.out.1.write ho5 HR.out HRn.out, HF.out.2.1.write ho5 (by omega)⟩
/-- A variable that is bound, or was met before. -/
theorem term_bound {E : Env} {w : World} {t : Tk} {r : List Tk} {bd : List (List UInt8)} {fr : List Tk} {kb : Nat} {fv c5 : Value} (h : PSt E w (t :: r) bd fr kb fv c5) (hk : t.k = 2) (hm : t.t ∈ bd) :
    Calls Tryz.prog 199 #[.pointer (some ⟨E.B, 0, none⟩)] w fun e w' => e = .returned (tmV (.mk 0 (ofL t.t) []) (.slice none 0 0)) ∧ PSt E w' r bd fr kb fv c5 ∧ Stay E w fv w' fv :=
  term_known h hk fun _ hX => pmeet_bound hX (h.tok t (List.mem_cons_self ..)).len hm
theorem term_again {E : Env} {w : World} {t : Tk} {r : List Tk} {bd : List (List UInt8)} {fr : List Tk} {kb : Nat} {fv c5 : Value} (h : PSt E w (t :: r) bd fr kb fv c5) (hk : t.k = 2) (hm : t.t ∉ bd) (hq : t.t ∈ fr.map Tk.t) :
    Calls Tryz.prog 199 #[.pointer (some ⟨E.B, 0, none⟩)] w fun e w' => e = .returned (tmV (.mk 0 (ofL t.t) []) (.slice none 0 0)) ∧ PSt E w' r bd (fr ++ [t]) kb fv c5 ∧ Stay E w fv w' fv :=
  have hN : fr.length + 1 + r.length ≤ E.N := by have := h.bud2; simp only [List.length_cons] at this; omega
  term_known h hk fun X hX => by
    refine (pmeet_free hX (h.tok t (List.mem_cons_self ..)).len hN hm).mono ?_
    rintro e w' ⟨he, hg, ho⟩
    refine ⟨?_, hX.again hN hg ho hq⟩
    rw [he, decide_eq_false (by simpa using hq)]
end
section
open Go.RowKit Go.Maps
open Lx (Tk ofL KsAt flK flK_snoc row_keep row_block row_slice lit3 one3)
attribute [local go_sem] fld0 fld2
theorem step_append_own (w : World) {ops : Array Oper} {o : Oper} {a : Act} {K : Act → World → Prop} {Q : Exit → Act → World → Prop} {X : Prop} (hgd : o.guard = none) (s x : Operand) (t : TypeId)
    (ho : o.op = .call { callee := .builtin .append, args := #[s, x], argTypes := #[t, t] })
    (base : Nat) (e : TypeId) (i : TypeInfo) (z : Value) (size bytes : Nat) (ht : Tryz.prog.underlying t = some (.slice e)) (hi : Tryz.prog.info? e = some i) (hz : i.zero = some z)
    (hsize : i.size = size) (hby : i.bytes = bytes) (hzs : z.cells.size = size) (hsz : 0 < size)
    (v : Value) (n : Nat) (xs : List Value) (hs : a.eval s = v) (hown : w.ownsRow base e size v n xs)
    (ad : Addr) (m c : Nat) (news : List Value) (hx : a.eval x = .slice (some ad) m c) (hl : news.length = m * size) (hnews : ∀ j u, news[j]? = some u → w.cell? (ad.add j) = some u) (h1 : ∀ u ∈ news, u.oneCell' = true)
    (h63 : n + m ≤ maxLen) (hbytes : (n + m) * bytes ≤ 140737488355328) (hbase : base ≤ w.heap.size)
    (h : ∀ v' w', w'.ownsRow base e size v' (n + m) (xs ++ news) → w.grownBy w' v.ownBlock → (v'.ownBlock = v.ownBlock ∨ v'.ownBlock = some w.heap.size) → K (a.put o.dst v') w') :
    if Region.wanted o (yielded ops a.tmps) = true then Oper.wp Tryz.prog o a w K Q else X := by
  rw [if_pos (by simp [Region.wanted, hgd])]
  obtain ⟨v', w', hr, h2, h3, _, h5⟩ := run_append_own_at (P := Tryz.prog) w base t o.type e i z size bytes ht hi hz hsize hby hzs hsz v n xs hown ad m c news hl hnews h1 h63 hbytes hbase
  unfold Oper.wp execOp
  simp only [ho, resolve, invoke, builtin, Sem.run_bind, Sem.run_pure, Result.andThen_ok, List.map_toArray, List.map_cons, List.map_nil, hs, hx, hr]
  exact h v' w' h2 h3 h5
theorem below_drewA (W : World) (o : Obj) : Below W.heap.size W (W.alloc o).drew := (below_box W o).drew
theorem term_new {E : Env} {w : World} {t : Tk} {r : List Tk} {bd : List (List UInt8)} {fr : List Tk} {kb : Nat} {fv c5 : Value} (h : PSt E w (t :: r) bd fr kb fv c5) (hk : t.k = 2) (hm : t.t ∉ bd) (hnew : t.t ∉ fr.map Tk.t) :
    Calls Tryz.prog 199 #[.pointer (some ⟨E.B, 0, none⟩)] w fun e w' => ∃ fv', e = .returned (tmV (.mk 0 (ofL t.t) []) (.slice none 0 0)) ∧ PSt E w' r bd (fr ++ [t]) kb fv' c5 ∧ Stay E w fv w' fv' := by
  have hN : fr.length + 1 + r.length ≤ E.N := by have := h.bud2; simp only [List.length_cons] at this; omega
  have ht := (h.tok t (List.mem_cons_self ..)).len
  have hmx := h.mx
  have hfl : (firsts fr).length ≤ fr.length := by have := firsts_len fr []; simpa [firsts] using this
  obtain ⟨va, vc, hfv⟩ := row_slice h.row
  have hb0 := below_box w (.cells #[.int .i64 0, .string ⟨#[]⟩, .slice none 0 0] 24)
  have h0 := h.keep hb0
  have hz := (MapKept.heap_alloc w (.cells #[.int .i64 0, .string ⟨#[]⟩, .slice none 0 0] 24)).1
  have HR : Hid (¬ Own E fv w.heap.size) := h.fresh (Nat.le_refl _)
  have HRn : Hid (E.n0 ≤ w.heap.size) := by show E.n0 ≤ w.heap.size; have := h.ownlt (k := E.B) (.inl rfl); omega
  obtain ⟨W0, hW0⟩ : ∃ X, w.alloc (.cells #[.int .i64 0, .string ⟨#[]⟩, .slice none 0 0] 24) = X := ⟨_, rfl⟩
  rw [hW0] at h0 hb0 hz
  obtain ⟨R, hR⟩ : ∃ R, w.heap.size = R := ⟨_, rfl⟩
  have ha := pahead h0
  have hRl : R < W0.heap.size := by rw [hR] at hz; exact (Array.getElem?_eq_some_iff.1 hz).1
  rw [hR] at hz HR HRn
  have H0 : Hid (W0.heap[R]? = some (.cells #[.int .i64 0, .string ⟨#[]⟩, .slice none 0 0] 24 (0, 0)) ∧ R < W0.heap.size ∧ Stay E w fv W0 fv) := ⟨hz, hRl, Stay.of_below hb0⟩
  obtain ⟨tx, htx⟩ : ∃ x, ofL t.t = x := ⟨_, rfl⟩
  simp only [tokV, hk, htx] at ha
  clear hb0 hz h0 h hRl
  go_enter Tryz.func199, Tryz.ntmps199
  go_upto_region 1 with fail
  try simp only [hR]
  try rw [hW0]
  clear hW0
  go_wp2_with fail
  refine ha.mono ?_
  rintro e W1 ⟨rfl, h1, s1⟩
  have H1 : Hid (W1.heap[R]? = some (.cells #[.int .i64 0, .string ⟨#[]⟩, .slice none 0 0] 24 (0, 0)) ∧ R < W1.heap.size ∧ Stay E w fv W1 fv) := ⟨(s1.blk R H0.out.2.1 HR.out).1.trans H0.out.1, Nat.lt_of_lt_of_le H0.out.2.1 s1.size, H0.out.2.2.trans s1⟩
  have ha2 := ptake_k h1 hk
  simp only [tokV, hk, htx] at ha2
  clear ha h1 s1 H0
  go_wp2_with fail
  refine ha2.mono ?_
  rintro e W2 ⟨rfl, h2, s2⟩
  have H2 : Hid (W2.heap[R]? = some (.cells #[.int .i64 0, .string ⟨#[]⟩, .slice none 0 0] 24 (0, 0)) ∧ R < W2.heap.size ∧ Stay E w fv W2 fv) := ⟨(s2.blk R H1.out.2.1 HR.out).1.trans H1.out.1, Nat.lt_of_lt_of_le H1.out.2.1 s2.size, H1.out.2.2.trans s2⟩
  clear ha2 s2 H1
  go_upto_region 3 with fail
  have hb3 := below_box W2 (.cells #[.int .i64 2, .int .i64 (t.a : Nat), .string tx] 57)
  have hz3 := (MapKept.heap_alloc W2 (.cells #[.int .i64 2, .int .i64 (t.a : Nat), .string tx] 57)).1
  have h3 := h2.keep hb3
  have hG : ¬ Own E fv W2.heap.size := h2.fresh (Nat.le_refl _)
  have hGR : R ≠ W2.heap.size := fun e => by have := H2.out.2.1; omega
  obtain ⟨G, hGe⟩ : ∃ G, W2.heap.size = G := ⟨_, rfl⟩
  rw [hGe] at hz3 hG hGR
  try simp only [hGe]
  obtain ⟨W3, hW3⟩ : ∃ X, W2.alloc (.cells #[.int .i64 2, .int .i64 (t.a : Nat), .string tx] 57) = X := ⟨_, rfl⟩
  rw [hW3] at h3 hb3 hz3 ⊢
  have H3 : Hid (W3.heap[R]? = some (.cells #[.int .i64 0, .string ⟨#[]⟩, .slice none 0 0] 24 (0, 0)) ∧ R < W3.heap.size ∧ Stay E w fv W3 fv ∧ W3.heap[G]? = some (.cells #[.int .i64 2, .int .i64 (t.a : Nat), .string tx] 57 (0, 0)) ∧ ¬ Own E fv G ∧ R ≠ G) := ⟨(hb3.block R H2.out.2.1).trans H2.out.1, Nat.lt_of_lt_of_le H2.out.2.1 hb3.size, H2.out.2.2.trans (Stay.of_below hb3), hz3, hG, hGR⟩
  obtain ⟨rv, hbx⟩ := h3.boxAt
  have x2 : W3.cell? ⟨E.B, 2, none⟩ = some (.map (some E.mb)) := cell_store (vs := [_, _, _, _, _, _]) hbx rfl
  have x3 : W3.cell? ⟨E.B, 3, none⟩ = some (.map (some E.mm)) := cell_store (vs := [_, _, _, _, _, _]) hbx rfl
  have xg : W3.cell? ⟨G, 2, none⟩ = some (.string tx) := cell_store (vs := [_, _, _]) hz3 rfl
  have hd := (Below.refl W3.heap.size W3).drew
  have h3d := h3.keep hd
  have hme : Calls Tryz.prog 121 #[.agg #[.map (some E.mb), .map (some E.mm)], .string tx] W3.drew fun e w' => e = .returned (.bool true) ∧ Hid ((∃ g, Nm w' E.mm g (fr.length + 1) ∧ ∀ s, (g (ofL s)).getD 0 = (((fr ++ [t]).map Tk.t).count s : Nat)) ∧ Only [E.mm] W3.drew w') ∧ w'.cell? ⟨E.B, 2, none⟩ = some (.map (some E.mb)) ∧ w'.cell? ⟨E.B, 3, none⟩ = some (.map (some E.mm)) ∧ w'.cell? ⟨G, 2, none⟩ = some (.string tx) := by
    rw [← htx]
    refine (pmeet_free h3d ht hN hm).mono ?_
    rintro e W4 ⟨rfl, hg4, o4⟩
    have hB4 := (o4.block E.B (h3d.ownlt (.inl rfl)).2 (by simpa using fun e => h3d.mmB e.symm)).trans hbx
    have hG4 := (o4.block G (Array.getElem?_eq_some_iff.1 H3.out.2.2.2.1).1 (fun hx => by simp at hx; exact H3.out.2.2.2.2.1 (.inr (.inr (.inl hx))))).trans H3.out.2.2.2.1
    exact ⟨by rw [decide_eq_true hnew], ⟨hg4, o4⟩, cell_store (vs := [_, _, _, _, _, _]) hB4 rfl, cell_store (vs := [_, _, _, _, _, _]) hB4 rfl, by rw [htx]; exact cell_store (vs := [_, _, _]) hG4 rfl⟩
  have HP := hid (And.intro h3d hbx)
  clear hb3 hz3 h3 h2 hG hGR hGe hW3 H2 hbx hd h3d
  go_region_held3 (fun X => X.cell? ⟨E.B, 2, none⟩ = some (.map (some E.mb)) ∧ X.cell? ⟨E.B, 3, none⟩ = some (.map (some E.mm)) ∧ X.cell? ⟨G, 2, none⟩ = some (.string tx)) (first | exact ⟨x2, x3, xg⟩ | exact ⟨y2, y3, yg⟩) (first | (go_at_call 121; refine hme.mono ?_; rintro e W4 ⟨rfl, HF, y2, y3, yg⟩))
  clear x2 x3 xg hme y2 y3
  subst hfv
  have hB4 : W4.heap[E.B]? = _ := (HF.out.2.block E.B (HP.out.1.ownlt (.inl rfl)).2 (by simpa using fun e => HP.out.1.mmB e.symm)).trans HP.out.2
  have hG4 : W4.heap[G]? = _ := (HF.out.2.block G (Array.getElem?_eq_some_iff.1 H3.out.2.2.2.1).1 (fun hx => by simp at hx; exact H3.out.2.2.2.2.1 (.inr (.inr (.inl hx))))).trans H3.out.2.2.2.1
  have hR4 : W4.heap[R]? = _ := (HF.out.2.block R H3.out.2.1 (fun hx => by simp at hx; exact HR.out (.inr (.inr (.inl hx))))).trans H3.out.1
  have y4 : W4.cell? ⟨E.B, 4, none⟩ = some (.slice va (firsts fr).length vc) := cell_store (vs := [_, _, _, _, _, _]) hB4 rfl
  have y4a : ∀ o : Obj, (W4.alloc o).cell? ⟨E.B, 4, none⟩ = some (.slice va (firsts fr).length vc) := fun o => kc (below_box W4 o) (World.block_lt_of_cell? W4 _ y4) y4
  have g0 : W4.cell? ⟨G, 0, none⟩ = some (.int .i64 2) := cell_store (vs := [_, _, _]) hG4 rfl
  have g1 : W4.cell? ⟨G, 1, none⟩ = some (.int .i64 (t.a : Nat)) := cell_store (vs := [_, _, _]) hG4 rfl
  have HGR := hid (And.intro hG4 hR4)
  clear hB4 hG4 hR4
  obtain ⟨i0, hi0, hz0, hz1, hz2⟩ := info_parts Lx.Tryz.info57
  go_upto_region 4 with fail
  obtain ⟨m, hmm⟩ : ∃ m, (firsts fr).length = m := ⟨_, rfl⟩
  have hrow : W4.ownsRow E.n0 57 3 (.slice va m vc) m (flK (firsts fr)) := by
    rw [← hmm]
    exact row_keep HP.out.1.row (fun g hg => HF.out.2.block g (HP.out.1.fvlt hg).2 (fun hx => by simp at hx; subst hx; exact HP.out.1.fvm hg))
  have HROW : Hid (∀ Y : World, Below W4.heap.size W4 Y → Y.ownsRow E.n0 57 3 (.slice va m vc) m (flK (firsts fr))) := fun Y hY => Lx.row_below hrow hY
  have hsz4 : E.n0 ≤ W4.heap.size := by have h1 := HP.out.1.ownlt (k := E.B) (.inl rfl); have h2 := HF.out.2.size; omega
  have HPU : Hid (∀ (w2 w3 : World) (v' : Value), Below W4.heap.size W4 w2 → w3.ownsRow E.n0 57 3 v' (m + 1) (flK (firsts fr) ++ [.int .i64 2, .int .i64 (t.a : Nat), .string tx]) → w2.grownBy w3 (Value.slice va m vc).ownBlock → (v'.ownBlock = (Value.slice va m vc).ownBlock ∨ v'.ownBlock = some w2.heap.size) →
      (w3.cell? ⟨E.B, 4, none⟩ = some (.slice va m vc) ∧ w3.frozen? ⟨E.B, 4, none⟩ = false) ∧ PSt E (w3.setCell ⟨E.B, 4, none⟩ v') r bd (fr ++ [t]) kb v' c5 ∧ Stay E w (.slice va m vc) (w3.setCell ⟨E.B, 4, none⟩ v') v' ∧ (w3.setCell ⟨E.B, 4, none⟩ v').heap[R]? = some (.cells #[.int .i64 0, .string ⟨#[]⟩, .slice none 0 0] 24 (0, 0)) ∧ (w3.setCell ⟨E.B, 4, none⟩ v').heap[G]? = some (.cells #[.int .i64 2, .int .i64 (t.a : Nat), .string tx] 57 (0, 0)) ∧ ¬ Own E v' R) := by
    rintro w2 w3 v' q1 q2 q3 q4
    rw [← hmm] at q2 q3 q4 ⊢
    rw [← htx, ← hk] at q2
    obtain ⟨a1, a2, a3⟩ := HP.out.1.pushed hN HF.out.1 HF.out.2 hnew q1 q2 q3 q4
    have hR4l := (Array.getElem?_eq_some_iff.1 HGR.out.2).1
    have hG4l := (Array.getElem?_eq_some_iff.1 HGR.out.1).1
    have far : ∀ k, k < W4.heap.size → ¬ Own E (.slice va (firsts fr).length vc) k → (w3.setCell ⟨E.B, 4, none⟩ v').heap[k]? = W4.heap[k]? := fun k hk hn => (Below.heap_setCell _ _ _ k (fun e => hn (.inl e))).trans ((q3.block k (Nat.lt_of_lt_of_le hk q1.size) (fun e => hn (.inr (.inr (.inr e.symm))))).trans (q1.block k hk))
    have hRd : R < W3.drew.heap.size := H3.out.2.1
    exact ⟨a1, a2, (H3.out.2.2.1.trans (Stay.of_below ((Below.refl W3.heap.size W3).drew))).trans a3, (far R hR4l HR.out).trans HGR.out.2, (far G hG4l H3.out.2.2.2.2.1).trans HGR.out.1, (a3.blk R hRd HR.out).2⟩
  rw [hmm] at y4 y4a hfl
  clear hrow
  try simp only [hmm]
  go_region_law (refine step_append_own _ rfl (.tmp 26) (.tmp 28) 47 rfl E.n0 57 i0 _ 3 32 Tryz.underlying47 hi0 hz0 hz1 hz2 rfl (by decide) (.slice va m vc) m (flK (firsts fr)) rfl (HROW.out _ (below_drewA W4 _)) ⟨W4.heap.size, 0, none⟩ 1 1 [.int .i64 2, .int .i64 (t.a : Nat), .string tx] rfl rfl (lit3 W4 _ _ _ _ 57 rfl) one3 (by unfold maxLen; omega) (by omega) (by simp; omega) ?_; intro v' w6 hrow6 hg6 hb6; obtain ⟨a6x, c6x, rfl⟩ := row_slice hrow6; obtain ⟨⟨hc6, hf6⟩, hst6⟩ := HPU.out _ w6 _ (below_drewA W4 _) hrow6 hg6 hb6)
  all_goals (
    obtain ⟨W7, hW7⟩ : ∃ X, w6.setCell ⟨E.B, 4, none⟩ (.slice a6x (m + 1) c6x) = X := ⟨_, rfl⟩
    rw [hW7] at hst6 ⊢
    have HS := hid hst6
    have xg7 : W7.cell? ⟨G, 2, none⟩ = some (.string tx) := cell_store (vs := [_, _, _]) HS.out.2.2.2.1 rfl
    obtain ⟨⟨r0, r1, r2⟩, f0, f1, f2⟩ := res_cells HS.out.2.2.1
    clear hst6 hW7 hrow6 hg6 hb6 hc6 hf6 y4 y4a g0 g1 yg
    go_wp2
    have hbx5 := box3 HS.out.2.2.1 (.int .i64 0) (.string tx) (.slice none 0 0)
    have ho5 := only3 W7 R (.int .i64 0) (.string tx) (.slice none 0 0)
    obtain ⟨⟨p0, p1, p2⟩, _⟩ := res_cells hbx5
    refine bodyPost_ret (v := tmV (.mk 0 tx []) (.slice none 0 0)) (by simp [results, Tryz.results199, go_sem, p0, p1, p2, T.v, T.fn]) rfl ?_
    exact ⟨_, by rw [htx], HS.out.1.write ho5 HS.out.2.2.2.2 HRn.out, by rw [hmm]; exact HS.out.2.1.write ho5 (by omega)⟩)
end
