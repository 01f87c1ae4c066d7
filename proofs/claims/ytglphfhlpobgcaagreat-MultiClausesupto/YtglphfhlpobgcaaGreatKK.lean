import Derived.Test.YtglphfhlpobgcaaGreatKI
import Derived.Test.YtglphfhlpobgcaaGreatLV
import Derived.Test.YtglphfhlpobgcaaGreatWA
import Derived.Test.YtglphfhlpobgcaaGreatWP
namespace Go.Proofs.YtglphfhlpobgcaaGreat
set_option maxRecDepth 100000
set_option maxHeartbeats 4000000
open Go.RowKit Go.Maps
def cadd (c : Int -> Int) (d : Int) (l : List T) : Int -> Int := fun y => c y + d * (((l.map T.vs).flatten.count y : Nat) : Int)
def wadd (g : Sg) (wt d : Int) (l : List T) : Int := wt + d * (l.map (T.wt g)).sum
theorem wadd_snoc (g : Sg) (wt d : Int) (l : List T) (t : T) : wadd g wt d (l ++ [t]) = wadd g wt d l + d * t.wt g := by
 simp only [wadd, List.map_append, List.sum_append, List.map_cons, List.map_nil, List.sum_cons, List.sum_nil, Int.add_zero, Int.mul_add]
 omega
theorem cadd_snoc (c : Int -> Int) (d : Int) (l : List T) (t : T) : cadd c d (l ++ [t]) = fun y => cadd c d l y + d * ((t.vs.count y : Nat) : Int) := by
 funext y
 simp only [cadd, List.map_append, List.flatten_append, List.map_cons, List.map_nil, List.flatten_cons, List.flatten_nil, List.append_nil, List.count_append]
 rw [Int.natCast_add, Int.mul_add]
 omega
theorem Sc.addw {W0 : World} {g : Sg} {p bp bc : Nat} {vn vw : Value} {L : Nat} {wt : Int} {c : Int -> Int} {W : World} (h : Sc W0 g p bp bc vn vw L wt c W) (k : Int) (hk : -1000 <= k ∧ k <= 1000) :
  Sc W0 g p bp bc vn vw (L + 1) (wt + k) c (W.setCell ⟨p, 3, none⟩ (.int .i64 (wt + k))) := by
 have hO := only_setCell W p 3 (.int .i64 (wt + k))
 obtain ⟨kp, hkp⟩ := h.pm
 obtain ⟨m, n, hm, hn, hx⟩ := h.cm
 refine ⟨h.bel.trans (hO.below h.bel.size (by simp; exact h.lo.1)), h.lo, h.ne, ?_, ⟨kp, hkp.same (hO.block bp hkp.lt (by simp; exact fun e => h.ne.1 e.symm))⟩, ⟨m, n, hm.same (hO.block bc hm.lt (by simp; exact fun e => h.ne.2.1 e.symm)), by omega, hx⟩, ?_, fun x => ?_, h.sup, h.sg⟩
 ·have := heap_setCell_same W p 3 _ 140 (.int .i64 (wt + k)) h.box
  simpa using this
 ·have := h.wr
  omega
 ·have := h.cr x
  omega
theorem Sc.more {W0 : World} {g : Sg} {p bp bc : Nat} {vn vw : Value} {L : Nat} {wt : Int} {c : Int -> Int} {W : World} (h : Sc W0 g p bp bc vn vw L wt c W) (k : Nat) : Sc W0 g p bp bc vn vw (L + k) wt c W := by
 obtain ⟨m, n, hm, hn, hx⟩ := h.cm
 refine ⟨h.bel, h.lo, h.ne, h.box, h.pm, ⟨m, n, hm, by omega, hx⟩, ?_, fun x => ?_, h.sup, h.sg⟩
 ·have := h.wr
  omega
 ·have := h.cr x
  omega
def Lay (W0 : World) (g : Sg) (p bp bc : Nat) (vn vw : Value) (d : Int) (ts : List T) : Prop :=
 ∀ (sl : Value) (L : Nat) (wt : Int) (c : Int -> Int) (W : World), Sc W0 g p bp bc vn vw L wt c W -> ArgsP (Off p bc) W sl ts -> (∀ t ∈ ts, t.shape = true) -> L + szs ts <= 100000 ->
  Calls Tryz.prog 89 #[.pointer (some ⟨p, 0, none⟩), .int .i64 d, sl] W fun e W' => (∃ v, e = .returned v) ∧ Sc W0 g p bp bc vn vw (L + szs ts) (wadd g wt d ts) (cadd c d ts) W' ∧ Only [p, bc] W W'
theorem Sc.eq {W0 : World} {g : Sg} {p bp bc : Nat} {vn vw : Value} {L L' : Nat} {wt wt' : Int} {c c' : Int -> Int} {W : World} (h : Sc W0 g p bp bc vn vw L wt c W) (e1 : L = L') (e2 : wt = wt') (e3 : c = c') : Sc W0 g p bp bc vn vw L' wt' c' W := by
 subst e1 e2 e3
 exact h
theorem sub_vs {t : T} (h : t.fn.size = 0) (ha : t.args = []) : t.vs = [t.v] := by
 rw [t.vs_eq, if_pos h, ha]
 rfl
theorem sub_wt {g : Sg} {t : T} (h : t.fn.size = 0) (ha : t.args = []) : t.wt g = 1 := by
 rw [t.wt_eq, ha]
 simp [Sg.self, h]
theorem lay_list (W0 : World) (g : Sg) (p bp bc : Nat) (vn vw : Value) (d : Int) (hd : d = 1 ∨ d = -1) (ts : List T) (ih : ∀ t ∈ ts, Lay W0 g p bp bc vn vw d t.args) : Lay W0 g p bp bc vn vw d ts := by
 intro sl L wt c W hS hA hsh hL
 obtain ⟨a, cc, rfl⟩ := hA.slice
 have hlen := hA.len
 have HS : Hid (Sc W0 g p bp bc vn vw L wt c W ∧ ArgsP (Off p bc) W (.slice a ts.length cc) ts ∧ (∀ t ∈ ts, t.shape = true) ∧ ∀ t ∈ ts, Lay W0 g p bp bc vn vw d t.args) := ⟨hS, hA, hsh, ih⟩
 clear hS hA hsh ih
 go_enter Tryz.func89, Tryz.ntmps89
 go_wp2
 go_loopw [10] (fun vi wr => ∃ i : Nat, vi = .int .i64 i ∧ i <= ts.length ∧ Hid (Sc W0 g p bp bc vn vw (L + szs (ts.take i)) (wadd g wt d (ts.take i)) (cadd c d (ts.take i)) wr ∧ Only [p, bc] W wr)) (fun vi _ => ts.length - (intOf vi).toNat)
 case atStart =>
  refine ⟨0, rfl, Nat.zero_le _, HS.out.1.eq (by simp [szs]) (by simp [wadd]) ?_, Only.refl _ _⟩
  funext y
  simp [cadd]
 case round =>
  obtain ⟨i, rfl, hi, HI⟩ := hrel
  by_cases hlt : i < ts.length
  ·obtain ⟨b, o, s, rfl, hP, hbl, c0, c1, c2, hs⟩ := (HS.out.2.1.only HI.out.2).nth hlt
   obtain ⟨sa, sc, rfl⟩ := hs.slice
   have ht : ts.take (i + 1) = ts.take i ++ [ts[i]] := List.take_succ_eq_append_getElem hlt
   have hle : szs (ts.take (i + 1)) <= szs ts := by
    have e : szs ts = szs (ts.take (i + 1)) + szs (ts.drop (i + 1)) := by
     unfold szs
     rw [<- List.sum_append, <- List.map_append, List.take_append_drop]
    omega
   rw [ht, szs_snoc] at hle
   have HH : Hid (Lay W0 g p bp bc vn vw d ts[i].args ∧ ts[i].shape = true) := ⟨HS.out.2.2.2 _ (List.getElem_mem hlt), HS.out.2.2.1 _ (List.getElem_mem hlt)⟩
   have HT : Hid (szs (ts.take (i + 1)) = szs (ts.take i) + 2 * ts[i].size.toNat ∧ wadd g wt d (ts.take (i + 1)) = wadd g wt d (ts.take i) + d * ts[i].wt g ∧ cadd c d (ts.take (i + 1)) = fun y => cadd c d (ts.take i) y + d * ((ts[i].vs.count y : Nat) : Int)) := by
    rw [ht]
    exact ⟨szs_snoc _ _, wadd_snoc _ _ _ _ _, cadd_snoc _ _ _ _⟩
   have HA : Hid (ArgsP (Off p bc) wr (.slice sa ts[i].args.length sc) ts[i].args) := hs
   obtain ⟨t, hti⟩ : ∃ t, ts[i] = t := ⟨_, rfl⟩
   rw [hti] at HH HT HA hle c0 c1 c2
   clear ht hs hti
   obtain ⟨L1, hL1⟩ : ∃ L1, L + szs (ts.take i) = L1 := ⟨_, rfl⟩
   obtain ⟨wt1, hwt1⟩ : ∃ w1, wadd g wt d (ts.take i) = w1 := ⟨_, rfl⟩
   obtain ⟨cc1, hcc1⟩ : ∃ c1, cadd c d (ts.take i) = c1 := ⟨_, rfl⟩
   have HX : Hid (L + szs (ts.take (i + 1)) = L1 + 2 * t.size.toNat ∧ wadd g wt d (ts.take (i + 1)) = wt1 + d * t.wt g ∧ cadd c d (ts.take (i + 1)) = fun y => cc1 y + d * ((t.vs.count y : Nat) : Int)) := by
    refine ⟨?_, ?_, ?_⟩
    ·rw [HT.out.1, <- hL1]; omega
    ·rw [HT.out.2.1, hwt1]
    ·rw [HT.out.2.2, hcc1]
   have hLm : L1 + 2 * t.size.toNat <= 100000 := by omega
   rw [hL1, hwt1, hcc1] at HI
   have hpl := HI.out.1.lt
   clear HT hle hL1 hwt1 hcc1 hL
   go_wp2_with fail
   refine (kisVar_any t sa _ sc _).mono ?_
   rintro e W2 ⟨rfl, hb2⟩
   have hb12 : Below wr.heap.size wr W2 := (below_box wr _).trans (hb2.mono (by simp))
   have hS2 : Sc W0 g p bp bc vn vw L1 wt1 cc1 W2 := HI.out.1.keep hb12
   have HS2 : Hid (Sc W0 g p bp bc vn vw L1 wt1 cc1 W2) := hS2
   obtain ⟨b0, b1, b2⟩ := tbox_cells wr t (.slice sa t.args.length sc)
   have d0 := kc hb2 (by simp) b0
   have d1 := kc hb2 (by simp) b1
   have d2 := kc hb2 (by simp) b2
   have HB2 : Hid (Only [p, bc] W W2 ∧ ArgsP (Off p bc) W2 (.slice sa t.args.length sc) t.args) := ⟨HI.out.2.trans (Only.of_below (B := [p, bc]) hb12) (by simp), HA.out.keep hb12.size (fun k hk hlt => ⟨hk, hb12.block k hlt⟩)⟩
   have hpne : wr.heap.size ≠ p := by omega
   obtain ⟨⟨_, _, _, e3, _, _, _⟩, f3, _, _⟩ := sbox_facts hS2.box
   have hwr := hS2.wr
   clear b0 b1 b2 hb2 hb12 hS2 HI HA c0 c1 c2
   have keepc : ∀ (X : World) (q : Nat) (v u : Value), X.cell? ⟨wr.heap.size, q, none⟩ = some v -> (X.setCell ⟨p, 3, none⟩ u).cell? ⟨wr.heap.size, q, none⟩ = some v := fun X q v u h => by
    rw [World.cell?_of_block (a := ⟨wr.heap.size, q, none⟩) (Below.heap_setCell X ⟨p, 3, none⟩ u wr.heap.size hpne)]
    exact h
   rcases shape_cases HH.out.2 with ⟨h0, hv0, hv1, hargs⟩ | ⟨h0, _, h64, _, hsub⟩
   ·have hdec : decide (t.fn.size = 0) = true := decide_eq_true h0
    have hw1 : wrap64 (wt1 + d) = wt1 + d := wrap_small (by omega) (by omega)
    have hz1 : 1 <= t.size := size_pos t
    have hS3 := HS2.out.addw d (by omega)
    have d0' := keepc W2 0 _ (.int .i64 (wt1 + d)) d0
    have hc := count_any W0 g p bp bc vn vw (L1 + 1) (wt1 + d) cc1 t.v d _ hS3 hv0 hv1 hd (by omega)
    have HF : Hid (t.vs = [t.v] ∧ t.wt g = 1 ∧ 2 * t.size.toNat = 2) := ⟨sub_vs h0 hargs, sub_wt h0 hargs, by rw [szs_arg, hargs]; rfl⟩
    have HO : Hid (Only [p] W2 (W2.setCell ⟨p, 3, none⟩ (.int .i64 (wt1 + d)))) := only_setCell _ _ _ _
    rw [hdec]
    clear hdec hargs hS3
    go_wp2_with fail
    refine hc.mono ?_
    rintro e W3 ⟨⟨v3, rfl⟩, hS3, hO3⟩
    have HN : Hid (Sc W0 g p bp bc vn vw (L + szs (ts.take (i + 1))) (wadd g wt d (ts.take (i + 1))) (cadd c d (ts.take (i + 1))) W3 ∧ Only [p, bc] W W3) := by
     refine ⟨hS3.eq ?_ ?_ ?_, (HB2.out.1.trans HO.out (by simp)).trans hO3 (by simp)⟩
     ·rw [HX.out.1, HF.out.2.2]
     ·rw [HX.out.2.1, HF.out.2.1]; omega
     ·rw [HX.out.2.2, HF.out.1]
      funext y
      unfold bump
      by_cases e : y = t.v
      ·subst e; simp
      ·have : ([t.v] : List Int).count y = 0 := List.count_eq_zero.2 (by simp; omega)
       rw [if_neg e, this]
       simp
    clear hc hS3 hO3
    go_wp2
    go_roundw
    case rel => exact ⟨i + 1, by go_num, by omega, HN⟩
    case measure => simp [intOf]; omega
   ·have hdec : decide (t.fn.size = 0) = false := decide_eq_false h0
    have hh := hv_rng g t.fn
    have hSd : Sc W0 g p bp bc vn vw L1 wt1 cc1 W2.drew := HS2.out.keep (Below.refl _ W2).drew
    have hc1 := heavy_any W0 g p bp bc vn vw L1 wt1 cc1 t.fn W2.drew hSd (by unfold maxLen; omega)
    have hzz := szs_arg t
    obtain ⟨hq, hhq⟩ : ∃ q, g.hv t.fn = q := ⟨_, rfl⟩
    have HQ : Hid (g.hv t.fn = hq) := hhq
    rw [hhq] at hh hc1
    have hw0 : wrap64 (d * hq) = d * hq := by rcases hd with rfl | rfl <;> exact wrap_small (by omega) (by omega)
    have hdq : -1000 <= d * hq ∧ d * hq <= 1000 := by rcases hd with rfl | rfl <;> omega
    obtain ⟨dq, hdq'⟩ : ∃ dq, d * hq = dq := ⟨_, rfl⟩
    have HD : Hid (d * hq = dq) := hdq'
    rw [hdq'] at hdq
    have hw0' : wrap64 (d * hq) = dq := hw0.trans hdq'
    have hw1 : wrap64 (wt1 + dq) = wt1 + dq := wrap_small (by omega) (by omega)
    have hS3 := hSd.addw dq hdq
    have d2' := keepc W2.drew 2 _ (.int .i64 (wt1 + dq)) d2
    have hc2 := HH.out.1 (.slice sa t.args.length sc) (L1 + 1) (wt1 + dq) cc1 _ hS3 ((HB2.out.2.only (Only.of_below (Below.refl _ W2).drew)).only ((⟨rfl, rfl, rfl, by simp, fun k _ hn => Below.heap_setCell _ _ _ k (by simp at hn; exact hn.1)⟩ : Only [p, bc] W2.drew (W2.drew.setCell ⟨p, 3, none⟩ (.int .i64 (wt1 + dq)))))) hsub (by omega)
    have HO : Hid (Only [p, bc] W (W2.drew.setCell ⟨p, 3, none⟩ (.int .i64 (wt1 + dq)))) := (HB2.out.1.trans (Only.of_below (B := [p, bc]) (Below.refl _ W2).drew) (by simp)).trans (only_setCell _ _ _ _) (by simp)
    have HF : Hid (t.vs = (t.args.map T.vs).flatten ∧ t.wt g = hq + (t.args.map (T.wt g)).sum) := by
     refine ⟨?_, ?_⟩
     ·rw [t.vs_eq, if_neg h0, List.nil_append]
     ·rw [t.wt_eq, Sg.self, if_neg h0, HQ.out]
    have e3' : W2.drew.cell? ⟨p, 3, none⟩ = some (.int .i64 wt1) := e3
    have f3' : W2.drew.frozen? ⟨p, 3, none⟩ = false := f3
    have d1' : W2.drew.cell? ⟨wr.heap.size, 1, none⟩ = some (.string t.fn) := d1
    rw [hdec]
    clear hdec hS3 hSd hdq' hw0 hhq keepc
    go_wp2
    go_region_law (first
     | (go_simp; go_at_call 133; refine hc1.mono ?_; rintro e W3 ⟨rfl, hW3⟩; have hW4 := hW3.symm; clear hW3; subst hW4; go_simp))
    all_goals (
     go_wp2_with fail
     refine hc2.mono ?_
     rintro e W3 ⟨⟨v3, rfl⟩, hS3, hO3⟩
     have HN : Hid (Sc W0 g p bp bc vn vw (L + szs (ts.take (i + 1))) (wadd g wt d (ts.take (i + 1))) (cadd c d (ts.take (i + 1))) W3 ∧ Only [p, bc] W W3) := by
      refine ⟨(hS3.more 1).eq ?_ ?_ ?_, HO.out.trans hO3 (by simp)⟩
      ·rw [HX.out.1, hzz]; omega
      ·rw [HX.out.2.1, HF.out.2, Int.mul_add, HD.out]
       unfold wadd
       omega
      ·rw [HX.out.2.2, HF.out.1]
       rfl
     clear hS3 hO3
     go_wp2
     go_roundw
     case rel => exact ⟨i + 1, by go_num, by omega, HN⟩
     case measure => simp [intOf]; omega)
  ·have HN : Hid (Sc W0 g p bp bc vn vw (L + szs ts) (wadd g wt d ts) (cadd c d ts) wr ∧ Only [p, bc] W wr) := by
    have := HI.out
    rwa [List.take_of_length_le (by omega)] at this
   go_wp2
   refine bodyPost_end (results_none rfl _ _ _) rfl ?_
   exact ⟨⟨_, rfl⟩, HN.out⟩
theorem lay_any (W0 : World) (g : Sg) (p bp bc : Nat) (vn vw : Value) (d : Int) (hd : d = 1 ∨ d = -1) (ts : List T) : Lay W0 g p bp bc vn vw d ts := by
 have h : ∀ t : T, Lay W0 g p bp bc vn vw d t.args := by
  intro t
  induction t using T.ind with
  | _ t ih => exact lay_list W0 g p bp bc vn vw d hd t.args ih
 exact lay_list W0 g p bp bc vn vw d hd ts (fun t _ => h t)
theorem mo_zero : mo (fun _ => 0) = 0 := by
 have := (mo_pos (c := fun _ => 0) (fun _ _ => rfl))
 have h := mo_rng (fun _ => 0)
 have : ¬ 0 < mo (fun _ => 0) := fun k => by
  obtain ⟨x, hx⟩ := this.1 k
  simp at hx
 omega
theorem fe_zero : fe (fun _ => 0) = 0 := by
 have := (fe_pos (c := fun _ => 0) (fun _ _ => rfl))
 have h := fe_rng (fun _ => 0)
 have : ¬ 0 < fe (fun _ => 0) := fun k => by
  obtain ⟨x, hx⟩ := this.1 k
  simp at hx
 omega
theorem Sc.made {w : World} {g : Sg} {vn vw : Value} {bp bc p k : Nat} {W2 : World} (hg : SgAt w g vn vw) (hb : Below w.heap.size w W2) (hp : W2.heap.size = p) (h1 : MapIs W2 9 bp (pmL (g.ns.take (min g.ns.length g.ws.length))) k) (h2 : MapIs W2 3 bc (fun _ => none) 0) (l1 : w.heap.size <= bp) (l2 : w.heap.size <= bc) (ne : bp ≠ bc) :
  Sc w g p bp bc vn vw 0 0 (fun _ => 0) (W2.alloc (.cells #[vn, vw, .map (some bp), .int .i64 0, .map (some bc), .int .i64 0, .int .i64 0] 140)) := by
 subst hp
 have hbb := below_box W2 (.cells #[vn, vw, .map (some bp), .int .i64 0, .map (some bc), .int .i64 0, .int .i64 0] 140)
 have e1 := h1.lt
 have e2 := h2.lt
 refine ⟨hb.trans (hbb.mono hb.size), ⟨hb.size, l1, l2⟩, ⟨by omega, by omega, ne⟩, ?_, ⟨k, h1.same (hbb.block bp e1)⟩, ⟨_, 0, h2.same (hbb.block bc e2), Nat.le_refl _, fun x _ => .inl ⟨rfl, rfl⟩⟩, by omega, fun x => by simp, fun _ _ => rfl, hg⟩
 rw [mo_zero, fe_zero]
 exact (MapKept.heap_alloc W2 _).1
theorem levelA {w W1 W3 : World} {g : Sg} {vn vw : Value} {k : Nat} (hg : SgAt w g vn vw) (hb : Below w.heap.size w W1) (hsz : W1.heap.size = w.heap.size + 1) (h : MapIs W3 9 W1.drew.heap.size (pmL (g.ns.take (min g.ns.length g.ws.length))) k) (hb3 : Below W1.heap.size W1 W3) :
  Sc w g (W3.heap.size + 1) (w.heap.size + 1) W3.heap.size vn vw 0 0 (fun _ => 0) ((W3.alloc (.map #[] 0)).alloc (.cells #[vn, vw, .map (some (w.heap.size + 1)), .int .i64 0, .map (some W3.heap.size), .int .i64 0, .int .i64 0] 140)) := by
 have h' : MapIs W3 9 (w.heap.size + 1) (pmL (g.ns.take (min g.ns.length g.ws.length))) k := by rw [<- hsz]; exact h
 have hl := h'.lt
 have hbm := below_box W3 (.map #[] 0)
 refine Sc.made hg ((hb.trans (hb3.mono hb.size)).trans (hbm.mono (by have := hb3.size; omega))) (by simp) (h'.same (hbm.block _ hl)) (MapIs.made W3 3) (by omega) (by omega) (by omega)
theorem levelB {w W1 W3 : World} {g : Sg} {vn vw : Value} {k : Nat} (hg : SgAt w g vn vw) (hb : Below w.heap.size w W1) (hsz : W1.heap.size = w.heap.size + 1) (h : MapIs W3 9 (W1.alloc (.map #[] 0)).drew.heap.size (pmL (g.ns.take (min g.ns.length g.ws.length))) k) (hb3 : Below (W1.alloc (.map #[] 0)).drew.heap.size (W1.alloc (.map #[] 0)).drew W3) :
  Sc w g W3.heap.size (w.heap.size + 1 + 1) (w.heap.size + 1) vn vw 0 0 (fun _ => 0) (W3.alloc (.cells #[vn, vw, .map (some (w.heap.size + 1 + 1)), .int .i64 0, .map (some (w.heap.size + 1)), .int .i64 0, .int .i64 0] 140)) := by
 have e : (W1.alloc (.map #[] 0)).drew.heap.size = w.heap.size + 1 + 1 := by simp; omega
 rw [e] at h hb3
 have hl := h.lt
 have hm := MapIs.made W1 3
 rw [hsz] at hm
 have hm' : MapIs (W1.alloc (.map #[] 0)).drew 3 (w.heap.size + 1) (fun _ => none) 0 := hm.same rfl
 have hbm : Below W1.heap.size W1 (W1.alloc (.map #[] 0)).drew := ((Below.refl _ W1).alloc (Nat.le_refl _) _).drew
 exact Sc.made hg ((hb.trans (hbm.mono (by omega))).trans (hb3.mono (by omega))) rfl h (hm'.same (hb3.block _ (by omega))) (by omega) (by omega) (by omega)
theorem level_any (g : Sg) (vn vw : Value) (w : World) (hg : SgAt w g vn vw) :
  Calls Tryz.prog 52 #[gval vn vw] w fun e w' => ∃ p bp bc, e = .returned (.pointer (some ⟨p, 0, none⟩)) ∧ Sc w g p bp bc vn vw 0 0 (fun _ => 0) w' := by
 obtain ⟨an, cn, rfl, hn1, hn2⟩ := hg.ns.slice
 obtain ⟨aw, cw, rfl, hw1, hw2⟩ := hg.ws.slice
 obtain ⟨W1, hW1⟩ : ∃ W1, w.alloc (.cells #[.slice an g.ns.length cn, .slice aw g.ws.length cw] 38) = W1 := ⟨_, rfl⟩
 have hb : Below w.heap.size w W1 := by rw [<- hW1]; exact below_box w _
 obtain ⟨t0, t1⟩ := box2_cells w (.slice an g.ns.length cn) (.slice aw g.ws.length cw) 38
 rw [hW1] at t0 t1
 have hsz : W1.heap.size = w.heap.size + 1 := by rw [<- hW1]; simp
 have hmm := @run_makeMap Tryz.prog
 have hG1 : SgAt W1 g (.slice an g.ns.length cn) (.slice aw g.ws.length cw) := hg.keep hb (Nat.le_refl _)
 have t0d : W1.drew.cell? ⟨w.heap.size, 0, none⟩ = some (.slice an g.ns.length cn) := t0
 have t1d : W1.drew.cell? ⟨w.heap.size, 1, none⟩ = some (.slice aw g.ws.length cw) := t1
 have HB : Hid (Below w.heap.size w W1 ∧ SgAt w g (.slice an g.ns.length cn) (.slice aw g.ws.length cw)) := ⟨hb, hg⟩
 clear hb hg
 by_cases hle : g.ns.length <= g.ws.length
 ·have hcP : ∀ X, Below W1.heap.size W1 X -> Calls Tryz.prog 63 #[.slice an g.ns.length cn] X fun e w' => e = .returned (.map (some X.heap.size)) ∧ Hid (MapIs w' 9 X.heap.size (pmL (g.ns.take (min g.ns.length g.ws.length))) (dn (g.ns.take (min g.ns.length g.ws.length))) ∧ Below X.heap.size X w' ∧ Below W1.heap.size W1 w') ∧ w'.cell? ⟨w.heap.size, 0, none⟩ = some (.slice an g.ns.length cn) ∧ w'.cell? ⟨w.heap.size, 1, none⟩ = some (.slice aw g.ws.length cw) ∧ (w'.alloc (.map #[] 0)).cell? ⟨w.heap.size, 0, none⟩ = some (.slice an g.ns.length cn) ∧ (w'.alloc (.map #[] 0)).cell? ⟨w.heap.size, 1, none⟩ = some (.slice aw g.ws.length cw) := fun X hX => by
   have h := hG1.ns.keep hX (Nat.le_refl _)
   rw [Nat.min_eq_left hle, List.take_length]
   refine (places_any g.ns _ X h hG1.sz).mono fun e w' ⟨h1, h2, h3⟩ => ?_
   have h4 := hX.trans (h3.mono hX.size)
   have h5 : Below W1.heap.size W1 (w'.alloc (.map #[] 0)) := h4.alloc h4.size _
   exact ⟨h1, ⟨h2, h3, h4⟩, kc h4 (by omega) t0, kc h4 (by omega) t1, kc h5 (by omega) t0, kc h5 (by omega) t1⟩
  have bd : Below W1.heap.size W1 W1.drew := (Below.refl _ W1).drew
  have bda : Below W1.heap.size W1 (W1.alloc (.map #[] 0)).drew := ((Below.refl _ W1).alloc (Nat.le_refl _) _).drew
  have t0e : (W1.alloc (.map #[] 0)).drew.cell? ⟨w.heap.size, 0, none⟩ = some (.slice an g.ns.length cn) := kc bda (by omega) t0
  have t1e : (W1.alloc (.map #[] 0)).drew.cell? ⟨w.heap.size, 1, none⟩ = some (.slice aw g.ws.length cw) := kc bda (by omega) t1
  have hj1 : (0 : Int) <= (g.ns.length : Int) := by omega
  have hj2 : (g.ns.length : Int) <= (cn : Int) := by omega
  have hmin : min (g.ns.length : Int) (g.ws.length : Int) = (g.ns.length : Int) := by omega
  clear hG1
  go_enter Tryz.func52, Tryz.ntmps52
  go_wp2_with fail
  go_region_law (first
   | (go_simp; go_at_call 63; refine (hcP _ (by first | exact bd | exact bda)).mono ?_; rintro e W3 ⟨rfl, HM3, s0, s1, s2, s3⟩; go_simp))
  all_goals (
   go_wp2
   refine bodyPost_ret (results_tmp rfl _ _ _) rfl ?_
   first
    | exact ⟨_, _, _, rfl, levelA HB.out.2 HB.out.1 hsz HM3.out.1 HM3.out.2.2⟩
    | exact ⟨_, _, _, rfl, levelB HB.out.2 HB.out.1 hsz HM3.out.1 HM3.out.2.1⟩)
 ·have hcP : ∀ X, Below W1.heap.size W1 X -> Calls Tryz.prog 63 #[.slice an g.ws.length cn] X fun e w' => e = .returned (.map (some X.heap.size)) ∧ Hid (MapIs w' 9 X.heap.size (pmL (g.ns.take (min g.ns.length g.ws.length))) (dn (g.ns.take (min g.ns.length g.ws.length))) ∧ Below X.heap.size X w' ∧ Below W1.heap.size W1 w') ∧ w'.cell? ⟨w.heap.size, 0, none⟩ = some (.slice an g.ns.length cn) ∧ w'.cell? ⟨w.heap.size, 1, none⟩ = some (.slice aw g.ws.length cw) ∧ (w'.alloc (.map #[] 0)).cell? ⟨w.heap.size, 0, none⟩ = some (.slice an g.ns.length cn) ∧ (w'.alloc (.map #[] 0)).cell? ⟨w.heap.size, 1, none⟩ = some (.slice aw g.ws.length cw) := fun X hX => by
   have h := (hG1.ns.take g.ws.length (by omega)).keep hX (Nat.le_refl _)
   rw [Nat.min_eq_right (by omega)]
   refine (places_any (g.ns.take g.ws.length) _ X h (fun x hx => hG1.sz x (List.mem_of_mem_take hx))).mono fun e w' ⟨h1, h2, h3⟩ => ?_
   have h4 := hX.trans (h3.mono hX.size)
   have h5 : Below W1.heap.size W1 (w'.alloc (.map #[] 0)) := h4.alloc h4.size _
   exact ⟨h1, ⟨h2, h3, h4⟩, kc h4 (by omega) t0, kc h4 (by omega) t1, kc h5 (by omega) t0, kc h5 (by omega) t1⟩
  have bd : Below W1.heap.size W1 W1.drew := (Below.refl _ W1).drew
  have bda : Below W1.heap.size W1 (W1.alloc (.map #[] 0)).drew := ((Below.refl _ W1).alloc (Nat.le_refl _) _).drew
  have t0e : (W1.alloc (.map #[] 0)).drew.cell? ⟨w.heap.size, 0, none⟩ = some (.slice an g.ns.length cn) := kc bda (by omega) t0
  have t1e : (W1.alloc (.map #[] 0)).drew.cell? ⟨w.heap.size, 1, none⟩ = some (.slice aw g.ws.length cw) := kc bda (by omega) t1
  have hj1 : (0 : Int) <= (g.ws.length : Int) := by omega
  have hj2 : (g.ws.length : Int) <= (cn : Int) := by omega
  have hmin : min (g.ns.length : Int) (g.ws.length : Int) = (g.ws.length : Int) := by omega
  clear hG1
  go_enter Tryz.func52, Tryz.ntmps52
  go_wp2_with fail
  go_region_law (first
   | (go_simp; go_at_call 63; refine (hcP _ (by first | exact bd | exact bda)).mono ?_; rintro e W3 ⟨rfl, HM3, s0, s1, s2, s3⟩; go_simp))
  all_goals (
   go_wp2
   refine bodyPost_ret (results_tmp rfl _ _ _) rfl ?_
   first
    | exact ⟨_, _, _, rfl, levelA HB.out.2 HB.out.1 hsz HM3.out.1 HM3.out.2.2⟩
    | exact ⟨_, _, _, rfl, levelB HB.out.2 HB.out.1 hsz HM3.out.1 HM3.out.2.1⟩)
end Go.Proofs.YtglphfhlpobgcaaGreat
