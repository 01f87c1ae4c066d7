import Derived.Test.YthkinkcpfcpehaaGreatDoorGI
namespace Go.Proofs.YthkinkcpfcpehaaGreatDoor
set_option maxRecDepth 100000
set_option maxHeartbeats 8000000
section
open Go.RowKit Go.Maps
open Lx (Tk ofL KsAt LexP lexL lex_any row_keep row_block)
theorem run_makeMap0 (t : TypeId) (w : World) : (Instr.makeMap t none).run Tryz.prog w = .ok (.map (some w.heap.size)) (w.alloc (.map #[] 0)) := by
  simp [Instr.makeMap, Result.andThen]
theorem Nm.made (w : World) : Nm (w.alloc (.map #[] 0)) w.heap.size (fun _ => none) 0 := by
  refine ⟨0, Nat.le_refl _, ?_⟩
  have h := MapIs.made w 9
  have e : smp (fun _ => none) = fun _ => none := by
    funext v
    cases v <;> rfl
  rw [e]
  exact h
theorem newScope_any (w : World) : Calls Tryz.prog 44 #[] w fun e w' => ∃ mb mm, e = .returned (.agg #[.map (some mb), .map (some mm)]) ∧ mb ≠ mm ∧ w.heap.size ≤ mb ∧ w.heap.size ≤ mm ∧ Nm w' mb (fun _ => none) 0 ∧ Nm w' mm (fun _ => none) 0 ∧ Below w.heap.size w w' := by
  have hm := fun w => run_makeMap0 50 w
  have hb1 := below_box w (.cells #[.map none, .map none] 52)
  have hz1 := (MapKept.heap_alloc w (.cells #[.map none, .map none] 52)).1
  have hs1 : (w.alloc (.cells #[.map none, .map none] 52)).heap.size = w.heap.size + 1 := World.size_alloc _ _
  obtain ⟨W1, hW1⟩ : ∃ X, w.alloc (.cells #[.map none, .map none] 52) = X := ⟨_, rfl⟩
  rw [hW1] at hb1 hz1 hs1
  have n2 := Nm.made W1
  have hb2 := below_box W1 (.map #[] 0)
  have hs2 : (W1.alloc (.map #[] 0)).heap.size = w.heap.size + 2 := by rw [World.size_alloc, hs1]
  obtain ⟨W2, hW2⟩ : ∃ X, W1.alloc (.map #[] 0) = X := ⟨_, rfl⟩
  rw [hW2] at n2 hb2 hs2
  have n3 := Nm.made W2
  have hb3 := below_box W2 (.map #[] 0)
  obtain ⟨W3, hW3⟩ : ∃ X, W2.alloc (.map #[] 0) = X := ⟨_, rfl⟩
  rw [hW3] at n3 hb3
  have hz3 : W3.heap[w.heap.size]? = some (.cells #[.map none, .map none] 52 (0, 0)) := ((hb3.block _ (by omega)).trans (hb2.block _ (by omega))).trans hz1
  have n2' := n2.same (hb3.block _ n2.lt)
  have f0 : ∀ j, W3.frozen? ⟨w.heap.size, j, none⟩ = false := fun j => frozen_cells hz3
  have f00 := f0 0
  have f01 := f0 1
  have c0 : W3.cell? ⟨w.heap.size, 0, none⟩ = some (.map none) := cell_store (vs := [_, _]) hz3 rfl
  have c1 : W3.cell? ⟨w.heap.size, 1, none⟩ = some (.map none) := cell_store (vs := [_, _]) hz3 rfl
  rw [hs1] at n2'
  rw [hs2] at n3
  have e1 := heap_setCell_same W3 w.heap.size 0 _ 52 (.map (some (w.heap.size + 1))) hz3
  have e2 := heap_setCell_same _ w.heap.size 1 _ 52 (.map (some (w.heap.size + 2))) e1
  have H : Hid (((W3.setCell ⟨w.heap.size, 0, none⟩ (.map (some (w.heap.size + 1)))).setCell ⟨w.heap.size, 1, none⟩ (.map (some (w.heap.size + 2)))).cell? ⟨w.heap.size, 0, none⟩ = some (.map (some (w.heap.size + 1))) ∧ ((W3.setCell ⟨w.heap.size, 0, none⟩ (.map (some (w.heap.size + 1)))).setCell ⟨w.heap.size, 1, none⟩ (.map (some (w.heap.size + 2)))).cell? ⟨w.heap.size, 1, none⟩ = some (.map (some (w.heap.size + 2))) ∧ Nm ((W3.setCell ⟨w.heap.size, 0, none⟩ (.map (some (w.heap.size + 1)))).setCell ⟨w.heap.size, 1, none⟩ (.map (some (w.heap.size + 2)))) (w.heap.size + 1) (fun _ => none) 0 ∧ Nm ((W3.setCell ⟨w.heap.size, 0, none⟩ (.map (some (w.heap.size + 1)))).setCell ⟨w.heap.size, 1, none⟩ (.map (some (w.heap.size + 2)))) (w.heap.size + 2) (fun _ => none) 0 ∧ Below w.heap.size w ((W3.setCell ⟨w.heap.size, 0, none⟩ (.map (some (w.heap.size + 1)))).setCell ⟨w.heap.size, 1, none⟩ (.map (some (w.heap.size + 2))))) := by
    have key : ∀ k, k ≠ w.heap.size → ((W3.setCell ⟨w.heap.size, 0, none⟩ (.map (some (w.heap.size + 1)))).setCell ⟨w.heap.size, 1, none⟩ (.map (some (w.heap.size + 2)))).heap[k]? = W3.heap[k]? := fun k hk => (Below.heap_setCell _ _ _ k hk).trans (Below.heap_setCell _ _ _ k hk)
    have e2' : ((W3.setCell ⟨w.heap.size, 0, none⟩ (.map (some (w.heap.size + 1)))).setCell ⟨w.heap.size, 1, none⟩ (.map (some (w.heap.size + 2)))).heap[w.heap.size]? = some (.cells #[.map (some (w.heap.size + 1)), .map (some (w.heap.size + 2))] 52 (0, 0)) := by simpa using e2
    have hb := hb1.trans ((hb2.mono (by omega)).trans (hb3.mono (by omega)))
    have hsz := hb.size
    exact ⟨cell_store (vs := [_, _]) e2' rfl, cell_store (vs := [_, _]) e2' rfl, n2'.same (key _ (by omega)), n3.same (key _ (by omega)), hb.os, hb.tape, hb.output, by simpa using hsz, fun k hk => (key k (by omega)).trans (hb.block k hk)⟩
  have HW1 := hid hW1
  have HW2 := hid hW2
  have HW3 := hid hW3
  have HS1 := hid hs1
  have HS2 := hid hs2
  clear hb1 hb2 hb3 hz1 hz3 n2 n2' n3 f0 e1 e2 hW1 hW2 hW3 hs1 hs2
  go_enter Tryz.func44, Tryz.ntmps44
  go_upto_region 1 with fail
  rw [show _ = W1 from HW1.out]
  have hm1 := hm W1
  have hm2 := hm W2
  rw [show W1.alloc _ = W2 from HW2.out, HS1.out] at hm1
  rw [show W2.alloc _ = W3 from HW3.out, HS2.out] at hm2
  clear hm HW1 HW2 HW3 HS1 HS2
  go_wp2
  refine bodyPost_ret (v := .agg #[.map (some (w.heap.size + 1)), .map (some (w.heap.size + 2))]) (by simp [results, Tryz.results44, go_sem, H.out.1, H.out.2.1]) rfl ?_
  exact ⟨_, _, rfl, by omega, by omega, by omega, H.out.2.2.1, H.out.2.2.2.1, H.out.2.2.2.2⟩
theorem tok_place (n : Nat) (l : List Tk) : ∃ (kd : Int) (s : ByteArray), tokV n l = .agg #[.int .i64 kd, .int .i64 (plc n l : Nat), .string s] := by
  cases l with
  | nil => exact ⟨0, ⟨#[]⟩, rfl⟩
  | cons t r => exact ⟨t.k, ofL t.t, rfl⟩
theorem fld1 (a b c : Value) (w : World) : (Instr.field 57 (.agg #[a, b, c]) 1).run Tryz.prog w = .ok b w := by kernel_rfl
attribute [local go_sem] fld1
/-- What comes of reading a text. -/
def ReadP (s : ByteArray) (w : World) (e : Ending) (w' : World) : Prop :=
  Below w.heap.size w w' ∧
  (((lexL 0 s.data.toList).2.2 ≠ 0 ∧ e = .returned (.tuple #[.pointer none, .int .i64 ((lexL 0 s.data.toList).2.1 : Nat), .int .i64 (lexL 0 s.data.toList).2.2])) ∨
  ((lexL 0 s.data.toList).2.2 = 0 ∧ ∃ q, (PF [] (lexL 0 s.data.toList).1 (.no q) ∨ ∃ f fr, PF [] (lexL 0 s.data.toList).1 (.ok f fr q) ∧ q ≠ []) ∧ e = .returned (.tuple #[.pointer none, .int .i64 (plc s.size q : Nat), .int .i64 21])) ∨
  ((lexL 0 s.data.toList).2.2 = 0 ∧ ∃ f fr E kb fv p, PF [] (lexL 0 s.data.toList).1 (.ok f fr []) ∧ e = .returned (.tuple #[.pointer (some ⟨E.B, 0, none⟩), .int .i64 0, .int .i64 (limE f.wide f.size f.depth)]) ∧ PcP (Good E w.heap.size fv) w' p f ∧ PSt E w' [] [] fr kb fv (.pointer (some ⟨p, 0, none⟩)) ∧ w.heap.size ≤ E.n0))
theorem Stay.toBelow {E : Env} {W W' : World} {fv fv' : Value} (h : Stay E W fv W' fv') {m : Nat} (hm : m ≤ W.heap.size) (ho : ∀ k, Own E fv k → m ≤ k) : Below m W W' :=
  ⟨h.os, h.tape, h.output, h.size, fun k hk => (h.blk k (by omega) (fun h1 => by have := ho k h1; omega)).1⟩
theorem read_any (s : ByteArray) (w : World) (hs : s.size ≤ 2097154) (hsg : Sg w) : Calls Tryz.prog 25 #[.string s] w (ReadP s w) := by
  have hlen : (lexL 0 s.data.toList).1.length ≤ 2097154 := Nat.le_trans (lex_len _) (by simpa using hs)
  have hlx := lex_any s w hs (by unfold Lx.itms; rw [List.length_append, List.length_map]; have := hlen; split <;> simp <;> omega)
  have hok := lex_ok s.data.toList
  obtain ⟨⟨L, pl, er⟩, hq⟩ : ∃ q, lexL 0 s.data.toList = q := ⟨_, rfl⟩
  rw [hq] at hlx hlen hok
  simp only at hlen hok hlx
  have h0 : 1 ≤ w.heap.size := by have := (Array.getElem?_eq_some_iff.1 hsg).1; omega
  have HQ := hid hq
  clear hq
  have HSg := hid hsg
  have HL := hid hlen
  have HOK := hid hok
  have H0 := hid h0
  clear hsg hlen hok h0
  go_enter Tryz.func25, Tryz.ntmps25
  go_wp2_with fail
  refine hlx.mono ?_
  rintro e W1 ⟨rv, rfl, ⟨hk, hkb⟩, hb1⟩
  clear hlx
  by_cases he : er = 0
  case neg =>
    have HB := hid hb1
    have hne : (er != 0) = true := by simpa using he
    have HE := hid he
    clear hk hkb hb1 he
    go_wp2
    refine bodyPost_ret (v := .tuple #[.pointer none, .int .i64 (pl : Nat), .int .i64 er]) (by simp [results, Tryz.results25, go_sem]) rfl ?_
    unfold ReadP
    rw [HQ.out]
    exact ⟨HB.out, .inl ⟨HE.out, rfl⟩⟩
  case pos =>
  subst he
  simp only [if_true] at hk
  have hns := newScope_any W1
  have HK := hid (And.intro hk (And.intro hkb hb1))
  obtain ⟨a, c, rfl, hlc, hcm⟩ := hk.slice
  clear hk hkb hb1
  go_wp2_with fail
  refine hns.mono ?_
  rintro e W2 ⟨mb, mm, rfl, hne, hmb, hmm, n1, n2, hb2⟩
  have hb3 := below_box W2 (.cells #[.slice a L.length c, .int .i64 (s.size : Nat), .map (some mb), .map (some mm), .slice none 0 0, .pointer none] 55)
  have hz3 := (MapKept.heap_alloc W2 (.cells #[.slice a L.length c, .int .i64 (s.size : Nat), .map (some mb), .map (some mm), .slice none 0 0, .pointer none] 55)).1
  obtain ⟨B, hB⟩ : ∃ B, W2.heap.size = B := ⟨_, rfl⟩
  obtain ⟨W3, hW3⟩ : ∃ X, W2.alloc (.cells #[.slice a L.length c, .int .i64 (s.size : Nat), .map (some mb), .map (some mm), .slice none 0 0, .pointer none] 55) = X := ⟨_, rfl⟩
  rw [hW3] at hb3 hz3
  rw [hB] at hz3
  obtain ⟨E, hEB, hE⟩ : ∃ E : Env, E.B = B ∧ E = ⟨B, mb, mm, W1.heap.size, s.size, L.length⟩ := ⟨_, rfl, rfl⟩
  have hs1 := HK.out.2.2.size
  have hs2 := hb2.size
  have hst : PSt E W3 L [] [] 0 (.slice none 0 0) (.pointer none) := by
    subst hE
    refine ⟨⟨⟨_, hz3, (HK.out.1.keep (hb2.trans (hb3.mono hs2)) (Nat.le_refl _)), HK.out.2.1⟩, by show W1.heap.size ≤ B; omega⟩, ⟨_, n1.same (hb3.block _ n1.lt), fun s => by simp⟩, ⟨_, n2.same (hb3.block _ n2.lt), fun s => by simp⟩, ⟨rfl, .inl ⟨rfl, rfl⟩⟩, by simp, by simp, by show L.length ≤ 2097155; have := HL.out; omega, HOK.out, hne, ⟨hmb, hmm⟩⟩
  have hb123 := HK.out.2.2.trans ((hb2.trans (hb3.mono hs2)).mono hs1)
  have hn0 : w.heap.size ≤ E.n0 := by subst hE; exact hs1
  have hN : L.length ≤ E.N := by subst hE; exact Nat.le_refl _
  have hEn : E.n = s.size := by subst hE; rfl
  have hsg3 : Sg W3 := (hb123.block 0 H0.out).trans HSg.out
  have hrd := reads_any (by have := H0.out; omega) hst hN hsg3
  have hwl : Hid (∀ W4 fv', Stay E W3 (.slice none 0 0) W4 fv' → Below w.heap.size w W4) := fun W4 fv' hy =>
    hb123.trans (hy.toBelow hb123.size (fun k hk => by have := (hst.ownlt hk).1; omega))
  have HN0 := hid hn0
  have HLE : Hid (w.heap.size ≤ W3.heap.size) := hb123.size
  have HW := hid hW3
  clear hE hst hb123 hN hn0 hsg3 hW3 hz3 hb3 n1 n2 hb2 hne hmb hmm hs1 hs2 hns HK HSg HL HOK H0
  rw [hEB] at hrd
  go_wp2_with fail
  rw [show _ = W3 from HW.out]
  refine hrd.mono ?_
  clear hrd HW
  rintro e W4 (⟨f, p, fr', kb', fv', hpf, rfl, hp, h4, y4⟩ | ⟨q, fv', c5', hq, rfl, b4, y4⟩)
  case inr =>
    have hah := ahead_any b4
    obtain ⟨kd, sx, htk⟩ := tok_place E.n q
    rw [htk, hEB, hEn] at hah
    have HF := hid (And.intro hq (hwl.out W4 fv' y4))
    have HLE4 : Hid (w.heap.size ≤ W4.heap.size) := (hwl.out W4 fv' y4).size
    obtain ⟨x, hx⟩ : ∃ x, plc s.size q = x := ⟨_, rfl⟩
    rw [hx] at hah
    have HX := hid hx
    clear hq b4 y4 htk hx hEB hEn hwl
    go_wp2_with fail
    refine hah.mono ?_
    clear hah
    rintro e W5 ⟨rfl, hb5⟩
    have HB5 := hid hb5
    clear hb5
    go_wp2
    refine bodyPost_ret (v := .tuple #[.pointer none, .int .i64 (x : Nat), .int .i64 21]) (by simp [results, Tryz.results25, go_sem]) rfl ?_
    unfold ReadP
    rw [HQ.out]
    exact ⟨HF.out.2.trans (HB5.out.mono HLE4.out), .inr (.inl ⟨rfl, q, HF.out.1, by rw [HX.out]⟩)⟩
  case inl =>
    obtain ⟨rvb, hbx⟩ := h4.boxAt
    rw [hEB] at hbx
    have x5 : W4.cell? ⟨B, 5, none⟩ = some (.pointer (some ⟨p, 0, none⟩)) := cell_storeR (vs := [_, _, _, _, _, _]) hbx rfl
    obtain ⟨sl, sr, sk, hpc, hfm⟩ := hp.at_
    have p9 : W4.cell? ⟨p, 9, none⟩ = some (.bool f.wide) := cell_storeR (vs := [_, _, _, _, _, _, _, _, _, _, _, _]) hpc rfl
    have p10 : W4.cell? ⟨p, 10, none⟩ = some (.int .i64 f.size) := cell_storeR (vs := [_, _, _, _, _, _, _, _, _, _, _, _]) hpc rfl
    have p11 : W4.cell? ⟨p, 11, none⟩ = some (.int .i64 f.depth) := cell_storeR (vs := [_, _, _, _, _, _, _, _, _, _, _, _]) hpc rfl
    have hli := plimited_any p9 p10 p11
    have HF := hid (And.intro hpf (And.intro hp (And.intro h4 (hwl.out W4 fv' y4))))
    have HLE4 : Hid (w.heap.size ≤ W4.heap.size) := (hwl.out W4 fv' y4).size
    obtain ⟨x, hx⟩ : ∃ x, limE f.wide f.size f.depth = x := ⟨_, rfl⟩
    rw [hx] at hli
    have HX := hid hx
    have HEB := hid hEB
    clear hpf hp h4 y4 hx hEB hEn hwl p9 p10 p11 hpc hfm hbx
    go_wp2_with fail
    refine hli.mono ?_
    clear hli
    rintro e W5 ⟨rfl, hb5⟩
    have HB5 := hid hb5
    clear hb5
    go_wp2
    refine bodyPost_ret (v := .tuple #[.pointer (some ⟨B, 0, none⟩), .int .i64 0, .int .i64 x]) (by simp [results, Tryz.results25, go_sem]) rfl ?_
    unfold ReadP
    rw [HQ.out]
    refine ⟨HF.out.2.2.2.trans (HB5.out.mono HLE4.out), .inr (.inr ⟨rfl, f, fr', E, kb', fv', p, HF.out.1, by rw [HX.out, HEB.out], ?_, HF.out.2.2.1.keep HB5.out, HN0.out⟩)⟩
    exact (HF.out.2.1.low HLE.out).grow HB5.out
end
section
open Go.RowKit Go.Maps
open Lx (Tk ofL KsAt lexL agg_store wpList_store_run row_slice row_block)
theorem info27s : (Tryz.prog.info? 27).map (·.size) = some 9 := by kernel_rfl
/-- No formula at all. -/
abbrev fz : Fm := .mk 0 e0 t0 t0 []
abbrev zbox : Obj := .cells #[.int .i64 0, .string ⟨#[]⟩, .int .i64 0, .string ⟨#[]⟩, .slice none 0 0, .int .i64 0, .string ⟨#[]⟩, .slice none 0 0, .slice none 0 0] 27
abbrev zval : Value := .agg #[.int .i64 0, .string ⟨#[]⟩, .int .i64 0, .string ⟨#[]⟩, .slice none 0 0, .int .i64 0, .string ⟨#[]⟩, .slice none 0 0, .slice none 0 0]
theorem FmP.fz (P : Nat → Prop) (W : World) : FmP P W fz (.slice none 0 0) (.slice none 0 0) (.slice none 0 0) := ⟨ArgsP.nil P W, ArgsP.nil P W, KidsP.nil P W⟩
section
variable {P : Nat → Prop} {X Y : World} {n bx : Nat} {f : Fm} {sl sr sk : Value}
theorem FmP.one (h : FmP P X f sl sr sk) : ∀ u ∈ fcells f sl sr sk, u.oneCell' = true := by
  obtain ⟨la, lc, rfl, _, _⟩ := h.l.slice'
  obtain ⟨ra, rc, rfl, _, _⟩ := h.r.slice'
  obtain ⟨ka, kc, rfl, _, _⟩ := h.k.slice
  intro u hu
  simp only [fcells, List.mem_cons, List.not_mem_nil, or_false] at hu
  rcases hu with rfl | rfl | rfl | rfl | rfl | rfl | rfl | rfl | rfl <;> rfl
theorem f_store {cur : Array Value} {ty : TypeId} (hty : ty = 27) (h : Y.heap[bx]? = some (.cells cur ty (0, 0))) (hl : cur.size = 9) (hf : FmP P X f sl sr sk) :
    ∃ Y', (Instr.storeAt 27 (.pointer (some ⟨bx, 0, none⟩)) (fval f sl sr sk)).run Tryz.prog Y = .ok () Y' ∧ Y'.heap[bx]? = some (fbox f sl sr sk) ∧ Only [bx] Y Y' := by
  subst hty
  obtain ⟨Y', h1, h2, h3⟩ := agg_store 27 Y bx cur (fcells f sl sr sk) h hl info27s hf.one
  exact ⟨Y', h1, h2, ⟨h3.os, h3.tape, h3.output, h3.size, h3.block⟩⟩
theorem f_cells (h : X.heap[n]? = some (fbox f sl sr sk)) : (X.cell? ⟨n, 0, none⟩ = some (.int .i64 f.k) ∧ X.cell? ⟨n, 1, none⟩ = some (.string f.nm) ∧ X.cell? ⟨n, 2, none⟩ = some (.int .i64 f.l.v) ∧ X.cell? ⟨n, 3, none⟩ = some (.string f.l.fn) ∧ X.cell? ⟨n, 4, none⟩ = some sl ∧ X.cell? ⟨n, 5, none⟩ = some (.int .i64 f.r.v) ∧ X.cell? ⟨n, 6, none⟩ = some (.string f.r.fn) ∧ X.cell? ⟨n, 7, none⟩ = some sr ∧ X.cell? ⟨n, 8, none⟩ = some sk) ∧ ∀ j, X.frozen? ⟨n, j, none⟩ = false :=
  ⟨⟨cell_storeR (vs := [_, _, _, _, _, _, _, _, _]) h rfl, cell_storeR (vs := [_, _, _, _, _, _, _, _, _]) h rfl, cell_storeR (vs := [_, _, _, _, _, _, _, _, _]) h rfl, cell_storeR (vs := [_, _, _, _, _, _, _, _, _]) h rfl, cell_storeR (vs := [_, _, _, _, _, _, _, _, _]) h rfl, cell_storeR (vs := [_, _, _, _, _, _, _, _, _]) h rfl, cell_storeR (vs := [_, _, _, _, _, _, _, _, _]) h rfl, cell_storeR (vs := [_, _, _, _, _, _, _, _, _]) h rfl, cell_storeR (vs := [_, _, _, _, _, _, _, _, _]) h rfl⟩, fun _ => frozen_cells h⟩
end
theorem z_cells {X : World} {n : Nat} (h : X.heap[n]? = some (fbox fz (.slice none 0 0) (.slice none 0 0) (.slice none 0 0))) : X.cell? ⟨n, 0, none⟩ = some (.int .i64 0) ∧ X.cell? ⟨n, 1, none⟩ = some (.string ⟨#[]⟩) ∧ X.cell? ⟨n, 2, none⟩ = some (.int .i64 0) ∧ X.cell? ⟨n, 3, none⟩ = some (.string ⟨#[]⟩) ∧ X.cell? ⟨n, 4, none⟩ = some (.slice none 0 0) ∧ X.cell? ⟨n, 5, none⟩ = some (.int .i64 0) ∧ X.cell? ⟨n, 6, none⟩ = some (.string ⟨#[]⟩) ∧ X.cell? ⟨n, 7, none⟩ = some (.slice none 0 0) ∧ X.cell? ⟨n, 8, none⟩ = some (.slice none 0 0) := (f_cells h).1
/-- The text's tokens are no formula: these do not fit. -/
def Wrong (L q : List Tk) : Prop := PF [] L (.no q) ∨ ∃ f fr, PF [] L (.ok f fr q) ∧ q ≠ []
/-- What Fof answers. -/
def FofR (s : ByteArray) (f : Fm) (a er : Int) : Prop :=
  ((lexL 0 s.data.toList).2.2 ≠ 0 ∧ f = fz ∧ a = ((lexL 0 s.data.toList).2.1 : Nat) ∧ er = (lexL 0 s.data.toList).2.2) ∨
  ((lexL 0 s.data.toList).2.2 = 0 ∧ ∃ q, Wrong (lexL 0 s.data.toList).1 q ∧ f = fz ∧ a = (plc s.size q : Nat) ∧ er = 21) ∨
  ((lexL 0 s.data.toList).2.2 = 0 ∧ ∃ g fr, PF [] (lexL 0 s.data.toList).1 (.ok g fr []) ∧
    ((limE g.wide g.size g.depth ≠ 0 ∧ f = fz ∧ a = 0 ∧ er = limE g.wide g.size g.depth) ∨
     (limE g.wide g.size g.depth = 0 ∧ fr ≠ [] ∧ f = fz ∧ a = frV fr ∧ er = 23) ∨
     (limE g.wide g.size g.depth = 0 ∧ fr = [] ∧ f = g ∧ a = 0 ∧ er = 0)))
theorem Wrong.one {L q q' : List Tk} (h : Wrong L q) (h' : Wrong L q') : q = q' := by
  rcases h with h | ⟨f, fr, h, -⟩ <;> rcases h' with h' | ⟨f', fr', h', -⟩ <;> have e := h.one h'
  · cases e; rfl
  · cases e
  · cases e
  · cases e; rfl
theorem Wrong.not {L q fr : List Tk} {g : Fm} (h : Wrong L q) (h' : PF [] L (.ok g fr [])) : False := by
  rcases h with h | ⟨f, fr, h, hne⟩ <;> have e := h.one h'
  · cases e
  · cases e; exact hne rfl
theorem FofR.one {s : ByteArray} {f g : Fm} {a b er er' : Int} (h : FofR s f a er) (h' : FofR s g b er') : f = g ∧ a = b ∧ er = er' := by
  rcases h with ⟨h0, rfl, rfl, rfl⟩ | ⟨h0, q, hq, rfl, rfl, rfl⟩ | ⟨h0, k, fr, hp, h⟩ <;>
    rcases h' with ⟨h0', rfl, rfl, rfl⟩ | ⟨h0', q', hq', rfl, rfl, rfl⟩ | ⟨h0', k', fr', hp', h'⟩
  · exact ⟨rfl, rfl, rfl⟩
  · exact absurd h0' h0
  · exact absurd h0' h0
  · exact absurd h0 h0'
  · rw [hq.one hq']; exact ⟨rfl, rfl, rfl⟩
  · exact (hq.not hp').elim
  · exact absurd h0 h0'
  · exact (hq'.not hp).elim
  · have e := hp.one hp'
    cases e
    rcases h with ⟨l0, rfl, rfl, rfl⟩ | ⟨l0, f0, rfl, rfl, rfl⟩ | ⟨l0, f0, rfl, rfl, rfl⟩ <;>
      rcases h' with ⟨l0', rfl, rfl, rfl⟩ | ⟨l0', f0', rfl, rfl, rfl⟩ | ⟨l0', f0', rfl, rfl, rfl⟩ <;>
      first
        | exact ⟨rfl, rfl, rfl⟩
        | exact absurd l0' l0
        | exact absurd l0 l0'
        | exact absurd f0' f0
        | exact absurd f0 f0'
/-- What is left in memory. -/
def FofP (s : ByteArray) (w : World) (e : Ending) (w' : World) : Prop :=
  ∃ f sl sr sk a er, FofR s f a er ∧ e = .returned (.tuple #[fval f sl sr sk, .int .i64 a, .int .i64 er]) ∧ FmP (fun k => w.heap.size ≤ k) w' f sl sr sk ∧ Below w.heap.size w w'
/-- A formula is stored into its box, and told. -/
theorem told {w Y : World} {R : Nat} {cur : Array Value} {f : Fm} {sl sr sk : Value} {P : Nat → Prop} (hR : w.heap.size = R) (hY : Below R w Y) (hz : Y.heap[R]? = some (.cells cur 27 (0, 0))) (hl : cur.size = 9) (hP : ∀ k, P k → R < k) (hf : FmP P Y f sl sr sk) :
    ∃ Y', (Instr.storeAt 27 (.pointer (some ⟨R, 0, none⟩)) (fval f sl sr sk)).run Tryz.prog Y = .ok () Y' ∧ Y'.heap[R]? = some (fbox f sl sr sk) ∧ FmP (fun k => w.heap.size ≤ k) Y' f sl sr sk ∧ Below w.heap.size w Y' := by
  obtain ⟨Y', h1, h2, h3⟩ := f_store rfl hz hl hf
  refine ⟨Y', h1, h2, hf.keep h3.size (fun k hk hkl => ⟨by have := hP k hk; omega, h3.block k hkl (by have := hP k hk; simp; omega)⟩), ?_⟩
  rw [hR]
  exact hY.trans ⟨h3.os, h3.tape, h3.output, h3.size, fun k hk => h3.block k (by have := (Array.getElem?_eq_some_iff.1 hz).1; omega) (by simp; omega)⟩
theorem fof_any (s : ByteArray) (w : World) (hs : s.size ≤ 2097154) (hsg : Sg w) : Calls Tryz.prog 8 #[.string s] w (FofP s w) := by
  have hb0 := below_box w zbox
  have hz0 := (MapKept.heap_alloc w zbox).1
  have h0 : 1 ≤ w.heap.size := by have := (Array.getElem?_eq_some_iff.1 hsg).1; omega
  have hsg0 : Sg (w.alloc zbox) := (hb0.block 0 (by omega)).trans hsg
  obtain ⟨R, hR⟩ : ∃ R, w.heap.size = R := ⟨_, rfl⟩
  obtain ⟨W0, hW0⟩ : ∃ X, w.alloc zbox = X := ⟨_, rfl⟩
  rw [hW0] at hb0 hz0 hsg0
  rw [hR] at hz0
  have hrd := read_any s W0 hs hsg0
  have HW := hid hW0
  have HR := hid hR
  have hRW : R < W0.heap.size := (Array.getElem?_eq_some_iff.1 hz0).1
  have H0 := hid (And.intro hb0 (And.intro hz0 hRW))
  clear hb0 hz0 hsg0 hsg h0 hW0 hRW
  go_enter Tryz.func8, Tryz.ntmps8
  go_upto_region 1 with fail
  try simp only [hR]
  rw [show _ = W0 from HW.out]
  clear HW
  go_wp2_with fail
  refine hrd.mono ?_
  clear hrd
  rintro e W1 ⟨hb1, ⟨h0, rfl⟩ | ⟨h0, q, hq, rfl⟩ | ⟨h0, f, fr, E, kb, fv, p, hpf, rfl, hp, hst, hn0⟩⟩
  · obtain ⟨Y, hrun, hY, hF, hbY⟩ := told (f := fz) (P := fun k => R < k) HR.out (by have h := H0.out.1; rw [HR.out] at h; exact h.trans (hb1.mono (Nat.le_of_lt H0.out.2.2))) ((hb1.block R H0.out.2.2).trans H0.out.2.1) rfl (fun k hk => hk) (FmP.fz _ W1)
    have HC := hid (z_cells hY)
    have HF := hid (And.intro hF (And.intro hbY (show FofR s fz ((lexL 0 s.data.toList).2.1 : Nat) (lexL 0 s.data.toList).2.2 from .inl ⟨h0, rfl, rfl, rfl⟩)))
    obtain ⟨x, hx⟩ : ∃ x, (lexL 0 s.data.toList).2.2 = x := ⟨_, rfl⟩
    obtain ⟨y, hy⟩ : ∃ x, (lexL 0 s.data.toList).2.1 = x := ⟨_, rfl⟩
    rw [hx] at h0 HF ⊢
    rw [hy] at HF ⊢
    have hne : (x != 0) = true := by simpa using h0
    clear h0 hx hy hF hbY hY hb1 H0 HR hR
    go_wp2_with (first | (refine wpList_store_run rfl 27 _ _ rfl (.pointer (some ⟨R, 0, none⟩)) zval rfl rfl hrun ?_))
    obtain ⟨c0, c1, c2, c3, c4, c5, c6, c7, c8⟩ := HC.out
    refine bodyPost_ret (v := .tuple #[zval, .int .i64 (y : Nat), .int .i64 x]) (by simp [results, Tryz.results8, go_sem, c0, c1, c2, c3, c4, c5, c6, c7, c8]) rfl ?_
    exact ⟨fz, _, _, _, _, _, HF.out.2.2, rfl, HF.out.1, HF.out.2.1⟩
  · obtain ⟨Y, hrun, hY, hF, hbY⟩ := told (f := fz) (P := fun k => R < k) HR.out (by have h := H0.out.1; rw [HR.out] at h; exact h.trans (hb1.mono (Nat.le_of_lt H0.out.2.2))) ((hb1.block R H0.out.2.2).trans H0.out.2.1) rfl (fun k hk => hk) (FmP.fz _ W1)
    have HC := hid (z_cells hY)
    have HF := hid (And.intro hF (And.intro hbY (show FofR s fz (plc s.size q : Nat) 21 from .inr (.inl ⟨h0, q, hq, rfl, rfl, rfl⟩))))
    obtain ⟨y, hy⟩ : ∃ x, plc s.size q = x := ⟨_, rfl⟩
    rw [hy] at HF ⊢
    clear h0 hq hy hF hbY hY hb1 H0 HR hR
    go_wp2_with (first | (refine wpList_store_run rfl 27 _ _ rfl (.pointer (some ⟨R, 0, none⟩)) zval rfl rfl hrun ?_))
    obtain ⟨c0, c1, c2, c3, c4, c5, c6, c7, c8⟩ := HC.out
    refine bodyPost_ret (v := .tuple #[zval, .int .i64 (y : Nat), .int .i64 21]) (by simp [results, Tryz.results8, go_sem, c0, c1, c2, c3, c4, c5, c6, c7, c8]) rfl ?_
    exact ⟨fz, _, _, _, _, _, HF.out.2.2, rfl, HF.out.1, HF.out.2.1⟩
  · have hRB : R < E.B := by have := hst.bx.mB; have := H0.out.2.2; omega
    have hRn0 : R < E.n0 := by have := H0.out.2.2; omega
    have hz1 := (hb1.block R H0.out.2.2).trans H0.out.2.1
    have hbw : Below R w W1 := by have h := H0.out.1; rw [HR.out] at h; exact h.trans (hb1.mono (Nat.le_of_lt H0.out.2.2))
    by_cases hl : limE f.wide f.size f.depth = 0
    case neg =>
      obtain ⟨Y, hrun, hY, hF, hbY⟩ := told (f := fz) (P := fun k => R < k) HR.out hbw hz1 rfl (fun k hk => hk) (FmP.fz _ W1)
      have HC := hid (z_cells hY)
      have HF := hid (And.intro hF (And.intro hbY (show FofR s fz 0 (limE f.wide f.size f.depth) from .inr (.inr ⟨h0, f, fr, hpf, .inl ⟨hl, rfl, rfl, rfl⟩⟩))))
      obtain ⟨x, hx⟩ : ∃ x, limE f.wide f.size f.depth = x := ⟨_, rfl⟩
      rw [hx] at hl HF ⊢
      have hne : (x != 0) = true := by simpa using hl
      clear h0 hx hF hbY hY hb1 H0 HR hR hl hpf hp hst hn0 hRB hRn0 hz1 hbw
      go_wp2_with (first | (refine wpList_store_run rfl 27 _ _ rfl (.pointer (some ⟨R, 0, none⟩)) zval rfl rfl hrun ?_))
      obtain ⟨c0, c1, c2, c3, c4, c5, c6, c7, c8⟩ := HC.out
      refine bodyPost_ret (v := .tuple #[zval, .int .i64 0, .int .i64 x]) (by simp [results, Tryz.results8, go_sem, c0, c1, c2, c3, c4, c5, c6, c7, c8]) rfl ?_
      exact ⟨fz, _, _, _, _, _, HF.out.2.2, rfl, HF.out.1, HF.out.2.1⟩
    case pos =>
    obtain ⟨rvb, hbx⟩ := hst.boxAt
    have x4 : W1.cell? ⟨E.B, 4, none⟩ = some fv := cell_storeR (vs := [_, _, _, _, _, _]) hbx rfl
    have x5 : W1.cell? ⟨E.B, 5, none⟩ = some (.pointer (some ⟨p, 0, none⟩)) := cell_storeR (vs := [_, _, _, _, _, _]) hbx rfl
    rw [hl]
    cases fr with
    | nil =>
      have hrow := hst.row
      obtain ⟨fa, fc, rfl⟩ := row_slice hrow
      obtain ⟨sl, sr, sk, hpc, hfm⟩ := hp.at_
      obtain ⟨la, lc, rfl, _, _⟩ := hfm.l.slice'
      obtain ⟨ra, rc, rfl, _, _⟩ := hfm.r.slice'
      obtain ⟨ka, kc, rfl, _, _⟩ := hfm.k.slice
      obtain ⟨Y, hrun, hY, hF, hbY⟩ := told (f := f) (P := Good E W0.heap.size _) HR.out hbw hz1 rfl (fun k hk => by have := hk.1; have := H0.out.2.2; omega) hfm
      obtain ⟨⟨c0, c1, c2, c3, c4, c5, c6, c7, c8⟩, -⟩ := f_cells hY
      have HC := hid (And.intro c0 (And.intro c1 (And.intro c2 (And.intro c3 (And.intro c4 (And.intro c5 (And.intro c6 (And.intro c7 c8))))))))
      have p0 : W1.cell? ⟨p, 0, none⟩ = some (.int .i64 f.k) := cell_storeR (vs := [_, _, _, _, _, _, _, _, _, _, _, _]) hpc rfl
      have p1 : W1.cell? ⟨p, 1, none⟩ = some (.string f.nm) := cell_storeR (vs := [_, _, _, _, _, _, _, _, _, _, _, _]) hpc rfl
      have p2 : W1.cell? ⟨p, 2, none⟩ = some (.int .i64 f.l.v) := cell_storeR (vs := [_, _, _, _, _, _, _, _, _, _, _, _]) hpc rfl
      have p3 : W1.cell? ⟨p, 3, none⟩ = some (.string f.l.fn) := cell_storeR (vs := [_, _, _, _, _, _, _, _, _, _, _, _]) hpc rfl
      have p4 : W1.cell? ⟨p, 4, none⟩ = some (.slice la f.l.args.length lc) := cell_storeR (vs := [_, _, _, _, _, _, _, _, _, _, _, _]) hpc rfl
      have p5 : W1.cell? ⟨p, 5, none⟩ = some (.int .i64 f.r.v) := cell_storeR (vs := [_, _, _, _, _, _, _, _, _, _, _, _]) hpc rfl
      have p6 : W1.cell? ⟨p, 6, none⟩ = some (.string f.r.fn) := cell_storeR (vs := [_, _, _, _, _, _, _, _, _, _, _, _]) hpc rfl
      have p7 : W1.cell? ⟨p, 7, none⟩ = some (.slice ra f.r.args.length rc) := cell_storeR (vs := [_, _, _, _, _, _, _, _, _, _, _, _]) hpc rfl
      have p8 : W1.cell? ⟨p, 8, none⟩ = some (.slice ka f.kids.length kc) := cell_storeR (vs := [_, _, _, _, _, _, _, _, _, _, _, _]) hpc rfl
      have HF := hid (And.intro hF (And.intro hbY (show FofR s f 0 0 from .inr (.inr ⟨h0, f, [], hpf, .inr (.inr ⟨hl, rfl, rfl, rfl, rfl⟩)⟩))))
      have e0 : (firsts []).length = 0 := rfl
      rw [e0] at x4
      clear h0 hF hbY hY hb1 H0 HR hR hl hpf hp hst hn0 hRB hRn0 hz1 hbw hbx hpc hfm hrow c0 c1 c2 c3 c4 c5 c6 c7 c8
      go_wp2_with (first | (refine wpList_store_run rfl 27 _ _ rfl (.pointer (some ⟨R, 0, none⟩)) (fval f (.slice la f.l.args.length lc) (.slice ra f.r.args.length rc) (.slice ka f.kids.length kc)) rfl rfl hrun ?_))
      obtain ⟨c0, c1, c2, c3, c4, c5, c6, c7, c8⟩ := HC.out
      refine bodyPost_ret (v := .tuple #[fval f (.slice la f.l.args.length lc) (.slice ra f.r.args.length rc) (.slice ka f.kids.length kc), .int .i64 0, .int .i64 0]) (by simp [results, Tryz.results8, go_sem, c0, c1, c2, c3, c4, c5, c6, c7, c8]) rfl ?_
      exact ⟨f, _, _, _, _, _, HF.out.2.2, rfl, HF.out.1, HF.out.2.1⟩
    | cons t r =>
      have hrow := hst.row
      have hks := Lx.ksAt_of_row hrow
      have hcons : ∃ q, firsts (t :: r) = t :: q := by
        have key : ∀ (l acc : List Tk), acc ≠ [] → ∃ q, l.foldl (fun acc t => if t.t ∈ acc.map Tk.t then acc else acc ++ [t]) acc = acc ++ q := by
          intro l
          induction l with
          | nil => intro acc _; exact ⟨[], by simp⟩
          | cons a l ih =>
            intro acc ha
            rw [List.foldl_cons]
            by_cases h : a.t ∈ acc.map Tk.t
            · rw [if_pos h]; exact ih acc ha
            · rw [if_neg h]
              obtain ⟨q, hq⟩ := ih (acc ++ [a]) (by simp)
              exact ⟨[a] ++ q, by rw [hq]; simp⟩
        obtain ⟨q, hq⟩ := key r [t] (by simp)
        exact ⟨q, by unfold firsts; rw [List.foldl_cons]; simpa using hq⟩
      obtain ⟨fq, hfq⟩ := hcons
      rw [hfq] at hks
      obtain ⟨fa, fc, rfl, hfc, hfm'⟩ := hks.slice
      obtain ⟨b, o, rfl, hbl, -, xt, -⟩ := hks.nth (i := 0) (by simp)
      have hbR : b ≠ R := by have h9 := (row_block hrow rfl).1; simp only at h9; omega
      have xt' : W1.cell? ⟨b, o + 1, none⟩ = some (.int .i64 (t.a : Nat)) := by simpa using xt
      have e0 : (t :: fq).length = fq.length + 1 := rfl
      rw [e0] at x4
      obtain ⟨Y, hrun, hY, hpo⟩ := f_store (X := W1.drew) rfl (show W1.drew.heap[R]? = some zbox from hz1) rfl (FmP.fz (fun _ => True) W1.drew)
      have hBl := (Array.getElem?_eq_some_iff.1 hbx).1
      have s4 : Y.cell? ⟨E.B, 4, none⟩ = some (.slice (some ⟨b, o, none⟩) (fq.length + 1) fc) := (World.cell?_of_block (a := ⟨E.B, 4, none⟩) (hpo.block E.B hBl (by simp; omega))).trans x4
      have st : Y.cell? ⟨b, o + 1, none⟩ = some (.int .i64 (t.a : Nat)) := (World.cell?_of_block (a := ⟨b, o + 1, none⟩) (hpo.block b hbl (by simpa using hbR))).trans xt'
      have HC := hid (z_cells hY)
      have HF : Hid (Below w.heap.size w Y ∧ FofR s fz (t.a : Nat) 23) :=
        ⟨by rw [HR.out]; exact (hbw.trans (Below.refl _ W1).drew).trans ⟨hpo.os, hpo.tape, hpo.output, hpo.size, fun k hk => hpo.block k (by have := (Array.getElem?_eq_some_iff.1 hz1).1; exact Nat.lt_trans hk this) (by simp; omega)⟩, .inr (.inr ⟨h0, f, t :: r, hpf, .inr (.inl ⟨hl, by simp, rfl, rfl, rfl⟩)⟩)⟩
      obtain ⟨n, hn⟩ : ∃ n, fq.length = n := ⟨_, rfl⟩
      have hpos : (0 : Int) < (n : Int) + 1 := by omega
      rw [hn] at x4 s4
      clear h0 hb1 H0 HR hR hl hpf hp hst hn0 hRB hRn0 hz1 hbw hbx hrow hks hfq hfc hfm' hbl xt hbR e0 hY hpo hBl hn x5
      go_wp2
      refine wp_region_held_drew (S := fun X => X.cell? ⟨E.B, 4, none⟩ = some (.slice (some ⟨b, o, none⟩) (n + 1) fc) ∧ X.cell? ⟨b, o + 1, none⟩ = some (.int .i64 (t.a : Nat))) (by kernel_rfl) ⟨x4, xt'⟩ (fun hHeld => ?_)
      refine Lx.take_mk 0 (zval) rfl (by kernel_rfl) (by kernel_rfl) (by kernel_rfl) (fun _ _ _ h => h) (Or.inl ⟨by rfl, ?_⟩) (by assumption) ?_
      · intro w hSw; (try dsimp only at hSw); go_simp
      try simp only [Act.put, List.setIfInBounds_toArray, List.set_cons_zero, List.set_cons_succ]
      refine Lx.take_mk 1 (.pointer (some ⟨E.B, 0, none⟩)) rfl (by kernel_rfl) (by kernel_rfl) (by kernel_rfl) (fun _ _ _ h => h) (Or.inl ⟨by rfl, ?_⟩) (by assumption) ?_
      · intro w hSw; (try dsimp only at hSw); go_simp
      try simp only [Act.put, List.setIfInBounds_toArray, List.set_cons_zero, List.set_cons_succ]
      refine Lx.take_mk 2 (.pointer (some ⟨E.B, 0, none⟩)) rfl (by kernel_rfl) (by kernel_rfl) (by kernel_rfl) (fun _ _ _ h => h) (Or.inl ⟨by rfl, ?_⟩) (by assumption) ?_
      · intro w hSw; (try dsimp only at hSw); go_simp
      try simp only [Act.put, List.setIfInBounds_toArray, List.set_cons_zero, List.set_cons_succ]
      refine Lx.take_mk 3 (.pointer (some ⟨E.B, 4, none⟩)) rfl (by kernel_rfl) (by kernel_rfl) (by kernel_rfl) (fun _ _ _ h => h) (Or.inl ⟨by rfl, ?_⟩) (by assumption) ?_
      · intro w hSw; (try dsimp only at hSw); go_simp
      try simp only [Act.put, List.setIfInBounds_toArray, List.set_cons_zero, List.set_cons_succ]
      refine Lx.take_mk 4 (.slice (some ⟨b, o, none⟩) (n + 1) fc) rfl (by kernel_rfl) (by kernel_rfl) (by kernel_rfl) (fun _ _ _ h => h) (Or.inl ⟨by rfl, ?_⟩) (by assumption) ?_
      · intro w hSw; (try dsimp only at hSw); go_simp
      try simp only [Act.put, List.setIfInBounds_toArray, List.set_cons_zero, List.set_cons_succ]
      refine Lx.take_mk 5 (.pointer (some ⟨b, o, none⟩)) rfl (by kernel_rfl) (by kernel_rfl) (by kernel_rfl) (fun _ _ _ h => h) (Or.inl ⟨by rfl, ?_⟩) (by assumption) ?_
      · intro w hSw; (try dsimp only at hSw); go_simp
      try simp only [Act.put, List.setIfInBounds_toArray, List.set_cons_zero, List.set_cons_succ]
      refine Lx.take_mk 6 (.pointer (some ⟨b, o + 1, none⟩)) rfl (by kernel_rfl) (by kernel_rfl) (by kernel_rfl) (fun _ _ _ h => h) (Or.inl ⟨by rfl, ?_⟩) (by assumption) ?_
      · intro w hSw; (try dsimp only at hSw); go_simp
      try simp only [Act.put, List.setIfInBounds_toArray, List.set_cons_zero, List.set_cons_succ]
      refine Lx.take_mk 7 (.int .i64 (t.a : Nat)) rfl (by kernel_rfl) (by kernel_rfl) (by kernel_rfl) (fun _ _ _ h => h) (Or.inl ⟨by rfl, ?_⟩) (by assumption) ?_
      · intro w hSw; (try dsimp only at hSw); go_simp
      try simp only [Act.put, List.setIfInBounds_toArray, List.set_cons_zero, List.set_cons_succ]
      refine wpAnyH_ready (rs := [8]) (by kernel_rfl) (by simp) ?_
      refine AllReadyH.cons rfl (fun K hK => ?_) AllReadyH.nil
      rw [if_pos (by rfl)]
      refine Lx.wp_store_run 27 _ _ rfl (.pointer (some ⟨R, 0, none⟩)) zval rfl rfl hrun ?_
      refine hK.out _ _ ⟨s4, st⟩ (fun hHeld => ?_)
      clear hK K
      simp only [Act.put, List.getElem_toArray, List.getElem_cons_succ, List.getElem_cons_zero]
      refine Lx.take_mk 9 (.int .i64 (t.a : Nat)) rfl (by kernel_rfl) (by kernel_rfl) (by kernel_rfl) (fun _ _ _ h => h) (Or.inl ⟨by rfl, ?_⟩) (by assumption) ?_
      · intro w hSw; (try dsimp only at hSw); go_simp
      try simp only [Act.put, List.setIfInBounds_toArray, List.set_cons_zero, List.set_cons_succ]
      refine Lx.take_mk 10 (.int .i64 23) rfl (by kernel_rfl) (by kernel_rfl) (by kernel_rfl) (fun _ _ _ h => h) (Or.inl ⟨by rfl, ?_⟩) (by assumption) ?_
      · intro w hSw; (try dsimp only at hSw); go_simp
      try simp only [Act.put, List.setIfInBounds_toArray, List.set_cons_zero, List.set_cons_succ]
      refine wpAnyH_done (by kernel_rfl) ?_ _
      go_wp2
      obtain ⟨c0, c1, c2, c3, c4, c5, c6, c7, c8⟩ := HC.out
      refine bodyPost_ret (v := .tuple #[zval, .int .i64 (t.a : Nat), .int .i64 23]) (by simp [results, Tryz.results8, go_sem, c0, c1, c2, c3, c4, c5, c6, c7, c8]) rfl ?_
      exact ⟨fz, _, _, _, _, _, HF.out.2, rfl, FmP.fz _ _, HF.out.1⟩
end
section
open Go.RowKit Go.Maps
open Lx (Tk ofL KsAt agg_store wpList_store_run row_block row_keep row_slice lit3)
section
variable {D : DE} {w : World} {l r fr : List Tk} {t : Tk} {mn : Bool} {bd : Int}
/-- A formula alone in a row. -/
theorem kids_one {P : Nat → Prop} {W : World} {b : Nat} {f : Fm} {sl sr sk : Value} (hb : W.heap[b]? = some (fbox f sl sr sk)) (hP : P b) (hf : FmP P W f sl sr sk) : KidsP P W (.slice (some ⟨b, 0, none⟩) 1 1) [f] := by
  obtain ⟨⟨c0, c1, c2, c3, c4, c5, c6, c7, c8⟩, -⟩ := f_cells hb
  refine .mk (some ⟨b, 0, none⟩) 1 [f] (fun _ => sl) (fun _ => sr) (fun _ => sk) (Nat.le_refl _) (by decide) (fun _ => ⟨b, 0, hP, (Array.getElem?_eq_some_iff.1 hb).1, rfl, fun i hi => ?_⟩) (fun i hi => ?_) (fun i hi => ?_) (fun i hi => ?_) <;> (have hi0 : i = 0 := by simpa using hi) <;> subst hi0
  · simpa using ⟨c0, c1, ⟨c2, c3, c4⟩, ⟨c5, c6, c7⟩, c8⟩
  · exact hf.l
  · exact hf.r
  · exact hf.k
end
end
