import Derived.Test.YtglphfhlpobgcaaGreatWF
import Derived.Test.YtglphfhlpobgcaaGreatKC
import Derived.Deep.RegionHeld3
namespace Go.Proofs.YtglphfhlpobgcaaGreat
set_option maxRecDepth 100000
set_option maxHeartbeats 4000000
open Go.RowKit Go.Maps
noncomputable def rq (g : Sg) (a b : T) : Bool := decide (pcmp g a b = 0 ∨ pcmp g a b = 1)
noncomputable def rqL (g : Sg) (L : List T) (b : T) (i : Nat) : Bool := match L[i]? with
 | some t => rq g t b
 | none => false
theorem rq_iff {g : Sg} {a b : T} : rq g a b = true ↔ a = b ∨ lg g a b := by
 unfold rq
 rw [decide_eq_true_iff, pcmp_zero, pcmp_gr]
theorem rch_any {g : Sg} {L : List T} {b : T} {xs : List Nat} {ts : List T} (h : Idx L xs ts) : xs.any (rqL g L b) = true ↔ Rch g ts b := by
 rw [List.any_eq_true]
 constructor
 ·rintro ⟨x, hx, e⟩
  obtain ⟨k, hk, rfl⟩ := List.getElem_of_mem hx
  have hk' : k < ts.length := by have := h.len; omega
  obtain ⟨hl, hg⟩ := h.get hk hk'
  unfold rqL at e
  rw [List.getElem?_eq_getElem hl, hg] at e
  exact ⟨ts[k], List.getElem_mem hk', rq_iff.1 e⟩
 ·rintro ⟨t, ht, e⟩
  obtain ⟨k, hk', rfl⟩ := List.getElem_of_mem ht
  have hk : k < xs.length := by have := h.len; omega
  obtain ⟨hl, hg⟩ := h.get hk hk'
  refine ⟨xs[k], List.getElem_mem hk, ?_⟩
  unfold rqL
  rw [List.getElem?_eq_getElem hl, hg]
  exact rq_iff.2 e
theorem eg80 : ∀ args w, (callFunc 150 args).run Tryz.prog w = .ok (.enter 150 args) w := enters_of Tryz.func150 (by kernel_rfl) rfl
section
variable {g : Sg} {ρ : ByteArray × Nat -> Nat} {ν : Int -> Nat} {nw : Nat} {L : List T} {w0 : World} {bc bp bf bm : Nat} {vp : Value} {s : Int}
structure Rb (w0 : World) (g : Sg) (L : List T) (bc bp bf bm : Nat) (vp : Value) (b4 b5 b q : Nat) (W : World) : Prop where
 cm : Cm w0 g L bc bp bf bm vp W
 c5 : W.cell? ⟨b5, 0, none⟩ = some (cmpF bc bp bf)
 c4 : W.cell? ⟨b4, 0, none⟩ = some (.pointer (some ⟨b, q, none⟩))
 lt : b4 < W.heap.size ∧ b5 < W.heap.size
 ne : b4 ≠ bm ∧ b5 ≠ bm
theorem cell_only {B : List Nat} {W W' : World} (h : Only B W W') {k o : Nat} {v : Value} (hk : k < W.heap.size) (hB : k ∉ B) (hc : W.cell? ⟨k, o, none⟩ = some v) : W'.cell? ⟨k, o, none⟩ = some v := by
 have := h.block k hk hB
 unfold World.cell? at *
 rw [this]
 exact hc
theorem Rb.only {b4 b5 b q : Nat} {W W' : World} (h : Rb w0 g L bc bp bf bm vp b4 b5 b q W) (hc : Cm w0 g L bc bp bf bm vp W') (ho : Only [bm] W W') : Rb w0 g L bc bp bf bm vp b4 b5 b q W' := by
 have := ho.size
 exact ⟨hc, cell_only ho h.lt.2 (by simp; exact h.ne.2) h.c5, cell_only ho h.lt.1 (by simp; exact h.ne.1) h.c4, ⟨by have := h.lt; omega, by have := h.lt; omega⟩, h.ne⟩
theorem rch1_any (hOk : CmpOk w0 g L bc bp bf bm vp s) {j : Nat} (hj : j < L.length) {b q : Nat} {sA : Value} {ar : List Nat} {sV : Value} {ws : List Nat} (hp : PtAt ρ ν nw L w0 j L[j] b q sA ar sV ws)
  {b4 b5 : Nat} {i : Nat} (hi : i < L.length) (hs : L[i].size + L[j].size <= s) (w : World) (hR : Rb w0 g L bc bp bf bm vp b4 b5 b q w) :
  Calls Tryz.prog 150 #[.int .i16 (i : Int), .pointer (some ⟨b5, 0, none⟩), .pointer (some ⟨b4, 0, none⟩)] w fun e W' => e = .returned (.bool (rq g L[i] L[j])) ∧ Rb w0 g L bc bp bf bm vp b4 b5 b q W' ∧ Only [bm] w W' := by
 have eg := eg47
 have hd : Below w.heap.size w w.drew := (Below.refl _ w).drew
 have hcall := hOk i j hi hj hs w.drew (hR.cm.only hd)
 have hCd := hR.cm.only hd
 have K1 : w.drew.cell? ⟨b5, 0, none⟩ = some (cmpF bc bp bf) ∧ w.drew.cell? ⟨b4, 0, none⟩ = some (.pointer (some ⟨b, q, none⟩)) ∧ w.drew.cell? ⟨b, q, none⟩ = some (.int .i16 (j : Int)) := ⟨hR.c5, hR.c4, (hp.keep hCd.bel (Nat.le_refl _)).c0⟩
 have HR : Hid (Rb w0 g L bc bp bf bm vp b4 b5 b q w.drew ∧ PtAt ρ ν nw L w0 j L[j] b q sA ar sV ws ∧ Only [bm] w w.drew) := ⟨⟨hCd, hR.c5, hR.c4, hR.lt, hR.ne⟩, hp, Only.of_below hd⟩
 have hE : rq g L[i] L[j] = decide (pcmp g L[i] L[j] = 0 ∨ pcmp g L[i] L[j] = 1) := rfl
 have hrng := pcmp_rng g L[i] L[j]
 obtain ⟨c, hc⟩ : ∃ c, pcmp g L[i] L[j] = c := ⟨_, rfl⟩
 rw [hc] at hcall hE hrng
 have HE : Hid (rq g L[i] L[j] = decide (c = 0 ∨ c = 1)) := hE
 clear hR hp hd hCd hE hc hOk hs
 rcases hrng with rfl | rfl | rfl | rfl
 all_goals (
  go_enter Tryz.func150, Tryz.ntmps150
  go_wp2
  go_region_held3 (fun X => X.cell? ⟨b5, 0, none⟩ = some (cmpF bc bp bf) ∧ X.cell? ⟨b4, 0, none⟩ = some (.pointer (some ⟨b, q, none⟩)) ∧ X.cell? ⟨b, q, none⟩ = some (.int .i16 (j : Int))) (first | exact K1 | exact K2) (first
   | (go_at_fn 84; refine hcall.mono ?_; rintro e W2 ⟨rfl, hC2, hO2⟩; have HD : Hid (Cm w0 g L bc bp bf bm vp W2 ∧ Only [bm] w.drew W2) := ⟨hC2, hO2⟩; clear hC2 hO2; have K2 : W2.cell? ⟨b5, 0, none⟩ = some (cmpF bc bp bf) ∧ W2.cell? ⟨b4, 0, none⟩ = some (.pointer (some ⟨b, q, none⟩)) ∧ W2.cell? ⟨b, q, none⟩ = some (.int .i16 (j : Int)) := by
       have r2 := HR.out.1.only HD.out.1 HD.out.2
       exact ⟨r2.c5, r2.c4, (HR.out.2.1.keep HD.out.1.bel (Nat.le_refl _)).c0⟩))
  go_wp2
  go_ret
  exact ⟨ret_bool HE.out.symm, HR.out.1.only HD.out.1 HD.out.2, HR.out.2.2.trans HD.out.2 (by simp)⟩)
end
section
variable {g : Sg} {ρ : ByteArray × Nat -> Nat} {ν : Int -> Nat} {nw : Nat} {L : List T} {w0 : World} {bc bp bf bm : Nat} {vp : Value} {s : Int}
theorem indexR_any (hOk : CmpOk w0 g L bc bp bf bm vp s) {j : Nat} (hj : j < L.length) {b q : Nat} {sA : Value} {ar : List Nat} {sV : Value} {ws : List Nat} (hp : PtAt ρ ν nw L w0 j L[j] b q sA ar sV ws)
  {b4 b5 : Nat} (xs : List Nat) (ts : List T) (v : Value) (hx : Idx L xs ts) (hr : RowAt fi w0 v xs) (hs : ∀ t ∈ ts, t.size + L[j].size <= s) (w : World) (hR : Rb w0 g L bc bp bf bm vp b4 b5 b q w) :
  Calls Tryz.prog 164 #[v, .func (.func 150) #[] #[.pointer (some ⟨b5, 0, none⟩), .pointer (some ⟨b4, 0, none⟩)]] w fun e W' => e = .returned (.int .i64 (firstI (rqL g L L[j]) xs 0)) ∧ Rb w0 g L bc bp bf bm vp b4 b5 b q W' ∧ Only [bm] w W' := by
 obtain ⟨a, c, rfl, hc, hm⟩ := hr.slice
 have eg := eg80
 have HLn : Hid (xs.length = ts.length) := hx.len
 have HH : Hid (CmpOk w0 g L bc bp bf bm vp s ∧ PtAt ρ ν nw L w0 j L[j] b q sA ar sV ws ∧ Idx L xs ts ∧ RowAt fi w0 (.slice a xs.length c) xs ∧ (∀ t ∈ ts, t.size + L[j].size <= s) ∧ Rb w0 g L bc bp bf bm vp b4 b5 b q w) := ⟨hOk, hp, hx, hr, hs, hR⟩
 clear hOk hp hx hr hs hR
 go_enter Tryz.func164, Tryz.ntmps164
 go_wp2
 go_loopw [8] (fun vi wr => ∃ i : Nat, vi = .int .i64 i ∧ i <= xs.length ∧ Hid ((∀ k (hk : k < xs.length), k < i -> rqL g L L[j] xs[k] = false) ∧ Rb w0 g L bc bp bf bm vp b4 b5 b q wr ∧ Only [bm] w wr)) (fun vi _ => xs.length - (intOf vi).toNat)
 case atStart => exact ⟨0, rfl, Nat.zero_le _, fun j _ hj => absurd hj (by omega), HH.out.2.2.2.2.2, Only.refl _ _⟩
 case round =>
  obtain ⟨i, rfl, hi, HI⟩ := hrel
  by_cases hlt : i < xs.length
  ·have hlt' : i < ts.length := by have := HLn.out; omega
   obtain ⟨b', o', rfl, hbl, hcell⟩ := (HH.out.2.2.2.1.keep HI.out.2.1.cm.bel (Nat.le_refl _)).nth hlt
   obtain ⟨hl, hg⟩ := HH.out.2.2.1.get hlt hlt'
   have hcall := rch1_any HH.out.1 hj HH.out.2.1 (b4 := b4) (b5 := b5) hl (by rw [hg]; exact HH.out.2.2.2.2.1 _ (List.getElem_mem hlt')) wr HI.out.2.1
   have HQ : Hid (rqL g L L[j] xs[i] = rq g L[xs[i]] L[j]) := by
    show _ = _
    unfold rqL
    rw [List.getElem?_eq_getElem hl]
   clear hg
   cases hP : rq g L[xs[i]] L[j]
   ·rw [hP] at hcall
    have HN : Hid (∀ k (hk : k < xs.length), k < i + 1 -> rqL g L L[j] xs[k] = false) := fun k hk hki => by
     by_cases ek : k = i
     ·subst ek; exact HQ.out.trans hP
     ·exact HI.out.1 k hk (by omega)
    clear hP
    go_wp2_with (first | (go_at_fn 150; refine hcall.mono ?_; rintro e W2 ⟨rfl, hC2, hO2⟩; have HD : Hid (Rb w0 g L bc bp bf bm vp b4 b5 b q W2 ∧ Only [bm] wr W2) := ⟨hC2, hO2⟩; clear hC2 hO2))
    go_roundw
    case rel => exact ⟨i + 1, by go_num, by omega, HN.out, HD.out.1, HI.out.2.2.trans HD.out.2 (by simp)⟩
    case measure => simp [intOf]; omega
   ·rw [hP] at hcall
    have HG : Hid (firstI (rqL g L L[j]) xs 0 = i) := by
     show _ = _
     rw [firstI_drop (rqL g L L[j]) xs i hi HI.out.1, List.drop_eq_getElem_cons hlt, firstI, HQ.out, hP]
     rfl
    clear hP
    go_wp2_with (first | (go_at_fn 150; refine hcall.mono ?_; rintro e W2 ⟨rfl, hC2, hO2⟩; have HD : Hid (Rb w0 g L bc bp bf bm vp b4 b5 b q W2 ∧ Only [bm] wr W2) := ⟨hC2, hO2⟩; clear hC2 hO2))
    go_ret
    exact ⟨ret_i64 HG.out.symm, HD.out.1, HI.out.2.2.trans HD.out.2 (by simp)⟩
  ·have HG : Hid (firstI (rqL g L L[j]) xs 0 = -1) := by
    show _ = _
    rw [firstI_drop (rqL g L L[j]) xs i hi HI.out.1, show i = xs.length by omega, List.drop_length]
    rfl
   go_wp2
   go_ret
   exact ⟨ret_i64 HG.out.symm, HI.out.2.1, HI.out.2.2⟩
theorem containsR_any (hOk : CmpOk w0 g L bc bp bf bm vp s) {j : Nat} (hj : j < L.length) {b q : Nat} {sA : Value} {ar : List Nat} {sV : Value} {ws : List Nat} (hp : PtAt ρ ν nw L w0 j L[j] b q sA ar sV ws)
  {b4 b5 : Nat} (xs : List Nat) (ts : List T) (v : Value) (hx : Idx L xs ts) (hr : RowAt fi w0 v xs) (hs : ∀ t ∈ ts, t.size + L[j].size <= s) (w : World) (hR : Rb w0 g L bc bp bf bm vp b4 b5 b q w) :
  Calls Tryz.prog 149 #[v, .func (.func 150) #[] #[.pointer (some ⟨b5, 0, none⟩), .pointer (some ⟨b4, 0, none⟩)]] w fun e W' => e = .returned (.bool (xs.any (rqL g L L[j]))) ∧ Rb w0 g L bc bp bf bm vp b4 b5 b q W' ∧ Only [bm] w W' := by
 have hi := indexR_any hOk hj hp xs ts v hx hr hs w hR
 obtain ⟨a, c, rfl, _⟩ := hr.slice
 have HE : Hid (decide (firstI (rqL g L L[j]) xs 0 ≥ 0) = xs.any (rqL g L L[j])) := firstI_any (rqL g L L[j]) xs 0
 generalize firstI (rqL g L L[j]) xs 0 = z at *
 clear hr hx hs hR hp hOk
 go_enter Tryz.func149, Tryz.ntmps149
 go_wp2_with (first | (go_at_call 164; refine hi.mono ?_; rintro e w3 ⟨rfl, hD⟩; have HD : Hid (Rb w0 g L bc bp bf bm vp b4 b5 b q w3 ∧ Only [bm] w w3) := hD; clear hD))
 go_ret
 exact ⟨ret_bool (by rw [<- HE.out]), HD.out⟩
theorem box1_cell (w : World) (x : Value) (ty : TypeId) : (w.alloc (.cells #[x] ty)).cell? ⟨w.heap.size, 0, none⟩ = some x := by
 have h : (w.alloc (.cells #[x] ty)).heap[w.heap.size]? = some (.cells [x].toArray ty (0, 0)) := (MapKept.heap_alloc w (.cells #[x] ty)).1
 rw [cell_of_row _ _ _ _ ty (0, 0) h]
 rfl
theorem reach_any (hOk : CmpOk w0 g L bc bp bf bm vp s) {j : Nat} (hj : j < L.length) {b q : Nat} {sA : Value} {ar : List Nat} {sV : Value} {ws : List Nat} (hp : PtAt ρ ν nw L w0 j L[j] b q sA ar sV ws)
  (xs : List Nat) (ts : List T) (v : Value) (hx : Idx L xs ts) (hr : RowAt fi w0 v xs) (hs : ∀ t ∈ ts, t.size + L[j].size <= s) (w : World) (hC : Cm w0 g L bc bp bf bm vp w) :
  Calls Tryz.prog 131 #[v, .pointer (some ⟨b, q, none⟩), cmpF bc bp bf] w fun e W' => e = .returned (.bool (xs.any (rqL g L L[j]))) ∧ Cm w0 g L bc bp bf bm vp W' ∧ Only [bm] w W' := by
 have hb := below_box2 w (.cells #[.pointer (some ⟨b, q, none⟩)] 135) (.cells #[cmpF bc bp bf] 86)
 have hR : Rb w0 g L bc bp bf bm vp w.heap.size (w.heap.size + 1) b q ((w.alloc (.cells #[.pointer (some ⟨b, q, none⟩)] 135)).alloc (.cells #[cmpF bc bp bf] 86)) := by
  have c4 := box1_cell w (.pointer (some ⟨b, q, none⟩)) 135
  have c5 := box1_cell (w.alloc (.cells #[.pointer (some ⟨b, q, none⟩)] 135)) (cmpF bc bp bf) 86
  rw [World.size_alloc] at c5
  obtain ⟨m, K, h1, h2⟩ := hC.mp
  have := h1.lt
  exact ⟨hC.only hb, c5, kc (below_box _ _) (by simp) c4, ⟨by simp only [World.size_alloc]; omega, by simp only [World.size_alloc]; omega⟩, ⟨by omega, by omega⟩⟩
 have hcall := containsR_any hOk hj hp xs ts v hx hr hs _ hR
 obtain ⟨a, c, rfl, _⟩ := hr.slice
 have HB : Hid (Only [bm] w ((w.alloc (.cells #[.pointer (some ⟨b, q, none⟩)] 135)).alloc (.cells #[cmpF bc bp bf] 86))) := Only.of_below hb
 generalize xs.any (rqL g L L[j]) = z at *
 clear hr hx hs hR hp hOk hC hb
 go_enter Tryz.func131, Tryz.ntmps131
 go_wp2_with (first | (go_at_call 149; refine hcall.mono ?_; rintro e w3 ⟨rfl, hD⟩; have HD : Hid (Rb w0 g L bc bp bf bm vp w.heap.size (w.heap.size + 1) b q w3 ∧ Only [bm] ((w.alloc (.cells #[.pointer (some ⟨b, q, none⟩)] 135)).alloc (.cells #[cmpF bc bp bf] 86)) w3) := hD; clear hD))
 go_ret
 exact ⟨rfl, HD.out.1.cm, HB.out.trans HD.out.2 (by simp)⟩
end
theorem nan_any (x : Int) (w : World) : Calls Tryz.prog 152 #[.int .i64 x] w fun e w' => e = .returned (.bool false) ∧ w' = w := by
 go_enter Tryz.func152, Tryz.ntmps152
 go_wp2
 all_goals go_ret
 all_goals refine ⟨ret_bool ?_, rfl⟩
 all_goals simp
theorem cmpInt_any (x y : Int) (w : World) :
  Calls Tryz.prog 134 #[.int .i64 x, .int .i64 y] w fun e w' => e = .returned (.int .i64 (cI x y)) ∧ w' = w := by
 go_enter Tryz.func134, Tryz.ntmps134
 go_wp2_with (go_at_call 152; refine (nan_any _ _).mono ?_; rintro e w' ⟨rfl, rfl⟩)
 all_goals (go_ret; refine ⟨?_, rfl⟩; unfold cI Lib.compareInt; (repeat' split) <;> first | rfl | (exfalso; omega))
section
variable {g : Sg} {ρ : ByteArray × Nat -> Nat} {ν : Int -> Nat} {nw : Nat} {L : List T} {w0 : World} {bc bp bf bm : Nat} {vp : Value} {s : Int}
theorem take_eq_all {a b : List T} (h : a.length = b.length) (k : Nat) (hk : a.length <= k) (e : a.take k = b.take k) : a = b := by
 rw [List.take_of_length_le hk, List.take_of_length_le (by omega)] at e
 exact e
theorem byheads_any (H : Lst g ρ ν nw L) (hOk : CmpOk w0 g L bc bp bf bm vp s) {i j : Nat} (hi : i < L.length) (hj : j < L.length) (hij : i ≠ j)
  {b1 q1 : Nat} {sA1 : Value} {ar1 : List Nat} {sV1 : Value} {ws1 : List Nat} (h1 : PtAt ρ ν nw L w0 i L[i] b1 q1 sA1 ar1 sV1 ws1)
  {b2 q2 : Nat} {sA2 : Value} {ar2 : List Nat} {sV2 : Value} {ws2 : List Nat} (h2 : PtAt ρ ν nw L w0 j L[j] b2 q2 sA2 ar2 sV2 ws2)
  (n1 : L[i].fn.size ≠ 0) (n2 : L[j].fn.size ≠ 0) (hs : ∀ x ∈ L[i].args, ∀ y ∈ L[j].args, x.size + y.size <= s) (w : World) (hC : Cm w0 g L bc bp bf bm vp w) :
  Calls Tryz.prog 129 #[.pointer (some ⟨b1, q1, none⟩), .pointer (some ⟨b2, q2, none⟩), cmpF bc bp bf] w fun e W' => ∃ (o : Int) (n : Nat), e = .returned (.tuple #[.int .i64 o, .int .i64 (n : Int)]) ∧ BH g ρ L[i] L[j] o n ∧ Cm w0 g L bc bp bf bm vp W' ∧ Only [bm] w W' := by
 obtain ⟨ra1, rc1, rfl, hc1, hm1⟩ := h1.ra.slice
 obtain ⟨ra2, rc2, rfl, hc2, hm2⟩ := h2.ra.slice
 have HH : Hid (Lst g ρ ν nw L ∧ CmpOk w0 g L bc bp bf bm vp s ∧ PtAt ρ ν nw L w0 i L[i] b1 q1 (.slice ra1 ar1.length rc1) ar1 sV1 ws1 ∧ PtAt ρ ν nw L w0 j L[j] b2 q2 (.slice ra2 ar2.length rc2) ar2 sV2 ws2 ∧ (∀ x ∈ L[i].args, ∀ y ∈ L[j].args, x.size + y.size <= s) ∧ Cm w0 g L bc bp bf bm vp w) := ⟨H, hOk, h1, h2, hs, hC⟩
 have k1 := h1.keep hC.bel (Nat.le_refl _)
 have k2 := h2.keep hC.bel (Nat.le_refl _)
 have c1 := cell_far k1.lt k1.c1
 have d1 := cell_far k2.lt k2.c1
 obtain ⟨r1, e1⟩ : ∃ x, L[i].rk ρ = x := ⟨_, rfl⟩
 obtain ⟨r2, e2⟩ : ∃ x, L[j].rk ρ = x := ⟨_, rfl⟩
 have HE : Hid (L[i].rk ρ = r1 ∧ L[j].rk ρ = r2) := ⟨e1, e2⟩
 rw [e1] at c1
 rw [e2] at d1
 clear e1 e2
 by_cases hr : r1 = r2
 ·-- one symbol
  obtain ⟨hf, hn⟩ : L[i].fn = L[j].fn ∧ L[i].args.length = L[j].args.length := by
   obtain ⟨S, R, hS⟩ := H.rk
   exact same_of_rk R n1 n2 (hS _ (List.getElem_mem hi)) (hS _ (List.getElem_mem hj)) (by rw [HE.out.1, HE.out.2, hr])
  have HN : Hid (L[i].args.length = L[j].args.length ∧ ar1.length = L[i].args.length ∧ ar2.length = L[j].args.length ∧ L[i].args ≠ L[j].args) := by
   refine ⟨hn, h1.alen, h2.alen, fun e => hij (nd_inj H.nd hi hj ?_)⟩
   have v1 : L[i].v = 0 := by
    rcases shape_cases (H.sh _ (List.getElem_mem hi)) with ⟨k, _⟩ | ⟨_, k, _⟩
    ·exact absurd k n1
    ·exact k
   have v2 : L[j].v = 0 := by
    rcases shape_cases (H.sh _ (List.getElem_mem hj)) with ⟨k, _⟩ | ⟨_, k, _⟩
    ·exact absurd k n2
    ·exact k
   exact same_ext (v1.trans v2.symm) hf e
  subst hr
  clear h1 h2 H hOk hs hC k1 k2 hf hn n1 n2
  have eg := eg47
  go_enter Tryz.func129, Tryz.ntmps129
  go_wp2
  refine wp_region_far (by kernel_rfl) ?_
  repeat (first | go_big_quiet_step (fail) | quiet_step (fail))
  refine wpQuiet_nil ?_
  intro _ hw'
  obtain ⟨pf, rfl⟩ := hw'
  have HW : Hid (Cm w0 g L bc bp bf bm vp (far w pf) ∧ Only [bm] w (far w pf)) := ⟨HH.out.2.2.2.2.2.only (below_far w pf), Only.of_below (below_far w pf)⟩
  clear c1 d1
  generalize far w pf = W1 at HW ⊢
  have c2 := (HH.out.2.2.1.keep HW.out.1.bel (Nat.le_refl _)).c2
  go_wp2
  go_loopw [33] (fun vi wr => ∃ k : Nat, vi = .int .i64 k ∧ k <= ar1.length ∧ wr = W1 ∧ Hid (L[i].args.take k = L[j].args.take k)) (fun vi _ => ar1.length - (intOf vi).toNat)
  case atStart => exact ⟨0, rfl, Nat.zero_le _, rfl, by show _ = _; simp⟩
  case round =>
   obtain ⟨k, rfl, hk, hwr, HT⟩ := hrel
   subst hwr
   by_cases hlt : k < ar1.length
   ·have hlt2 : k < ar2.length := by have := HN.out; omega
    have hka : k < L[i].args.length := by have := HN.out; omega
    have hkb : k < L[j].args.length := by have := HN.out; omega
    obtain ⟨x1, o1, rfl, hbl, hcell⟩ := (HH.out.2.2.1.keep HW.out.1.bel (Nat.le_refl _)).ra.nth hlt
    obtain ⟨x2, o2, rfl, hbl2, hcell2⟩ := (HH.out.2.2.2.1.keep HW.out.1.bel (Nat.le_refl _)).ra.nth hlt2
    have d2 := (HH.out.2.2.2.1.keep HW.out.1.bel (Nat.le_refl _)).c2
    obtain ⟨hl1, hg1⟩ := Idx.get HH.out.2.2.1.ax hlt hka
    obtain ⟨hl2, hg2⟩ := Idx.get HH.out.2.2.2.1.ax hlt2 hkb
    have ta : L[i].args.take (k + 1) = L[i].args.take k ++ [L[i].args[k]] := List.take_succ_eq_append_getElem hka
    have tb : L[j].args.take (k + 1) = L[j].args.take k ++ [L[j].args[k]] := List.take_succ_eq_append_getElem hkb
    by_cases hx : ar1[k] = ar2[k]
    ·have HT2 : Hid (L[i].args.take (k + 1) = L[j].args.take (k + 1)) := by
      show _ = _
      rw [ta, tb, HT.out, <- hg1, <- hg2]
      simp only [hx]
     have hne : ((ar1[k] : Int) != (ar2[k] : Int)) = false := by rw [hx]; simp
     clear hg1 hg2 ta tb hx
     go_wp2
     go_roundw
     case rel => exact ⟨k + 1, by go_num, by omega, trivial, HT2⟩
     case measure => simp [intOf]; omega
    ·have hne : ((ar1[k] : Int) != (ar2[k] : Int)) = true := by rw [bne_iff_ne]; omega
     have hne' : ar1[k] ≠ ar2[k] := hx
     have hcall := HH.out.2.1 ar1[k] ar2[k] hl1 hl2 (by rw [hg1, hg2]; exact HH.out.2.2.2.2.1 _ (List.getElem_mem hka) _ (List.getElem_mem hkb)) wr HW.out.1
     have HB : Hid (BH g ρ L[i] L[j] (pcmp g L[ar1[k]] L[ar2[k]]) (k + 1)) := by
      refine .inr (.inr ⟨HE.out.1.trans HE.out.2.symm, L[i].args.take k, L[i].args[k], L[j].args[k], L[i].args.drop (k + 1), L[j].args.drop (k + 1), by simp, ?_, ?_, by rw [hg1, hg2], by simp; omega⟩)
      ·rw [HT.out]; simp
      ·rw [<- hg1, <- hg2]
       exact fun e => hx (nd_inj HH.out.1.nd hl1 hl2 e)
     clear hg1 hg2 ta tb hx
     generalize pcmp g L[ar1[k]] L[ar2[k]] = z at hcall HB
     go_wp2_with (first | (go_at_fn 84; refine hcall.mono ?_; rintro e W2 ⟨rfl, hC2, hO2⟩; have HD : Hid (Cm w0 g L bc bp bf bm vp W2 ∧ Only [bm] wr W2) := ⟨hC2, hO2⟩; clear hC2 hO2))
     (try simp only [Exit.inBlock, Exit.then]); refine bodyPost_ret (results_tmp2 rfl _ _ _) rfl ?_
     exact ⟨z, k + 1, by go_num, HB.out, HD.out.1, HW.out.2.trans HD.out.2 (by simp)⟩
   ·exfalso
    have hn := HN.out
    exact hn.2.2.2 (take_eq_all hn.1 k (by omega) HT.out)
 ·-- two symbols
  have hcm : ∀ W, Below w.heap.size w W -> Calls Tryz.prog 134 #[.int .i64 (r1 : Int), .int .i64 (r2 : Int)] W fun e w' => e = .returned (.int .i64 (cI r1 r2)) ∧ Below W.heap.size W w' := fun W _ => (cmpInt_any r1 r2 W).mono fun e w' ⟨h1, h2⟩ => ⟨h1, h2 ▸ Below.refl _ _⟩
  have HB : Hid (BH g ρ L[i] L[j] (cI r1 r2) 0) := by
   show BH _ _ _ _ _ _
   unfold BH cI Lib.compareInt
   rw [HE.out.1, HE.out.2]
   rcases Nat.lt_trichotomy r1 r2 with h | h | h
   ·rw [if_pos (by omega)]
    exact .inr (.inl ⟨h, rfl, rfl⟩)
   ·exact absurd h hr
   ·rw [if_neg (by omega), if_pos (by omega)]
    exact .inl ⟨h, rfl, rfl⟩
  have hne : ((r1 : Int) != (r2 : Int)) = true := by rw [bne_iff_ne]; omega
  have hne2 : (r1 != r2) = true := by rw [bne_iff_ne]; exact hr
  generalize cI (r1 : Int) (r2 : Int) = z at hcm HB
  clear h1 h2 H hOk hs hC k1 k2 n1 n2 hr
  go_enter Tryz.func129, Tryz.ntmps129
  go_wp2
  refine wp_region_far (by kernel_rfl) ?_
  repeat (first | go_big_quiet_step (fail) | quiet_step (fail))
  refine wpQuiet_nil ?_
  intro _ hw'
  obtain ⟨pf, rfl⟩ := hw'
  have hW := below_far w pf
  have k1 := (HH.out.2.2.1.keep HH.out.2.2.2.2.2.bel (Nat.le_refl _)).keep hW (Nat.le_refl _)
  have k2 := (HH.out.2.2.2.1.keep HH.out.2.2.2.2.2.bel (Nat.le_refl _)).keep hW (Nat.le_refl _)
  have HW : Hid (Below w.heap.size w (far w pf)) := hW
  have hcm2 : ∀ W, Below (far w pf).heap.size (far w pf) W -> Calls Tryz.prog 134 #[.int .i64 (r1 : Int), .int .i64 (r2 : Int)] W fun e w' => e = .returned (.int .i64 z) ∧ Below W.heap.size W w' := fun W hb => hcm W (hW.trans (hb.mono hW.size))
  clear c1 d1 hcm hW
  have c1 := cell_far k1.lt k1.c1
  have d1 := cell_far k2.lt k2.c1
  rw [HE.out.1] at c1
  rw [HE.out.2] at d1
  clear k1 k2
  generalize far w pf = W1 at HW hcm2 c1 d1 ⊢
  go_wp2
  refine wp_region_far (by kernel_rfl) ?_
  repeat (first | go_big_quiet_step (exact calls_far hcm2 _) | quiet_step (exact calls_far hcm2 _))
  refine wpQuiet_nil ?_
  intro _ hw'
  obtain ⟨pf2, rfl⟩ := hw'
  go_wp2
  (try simp only [Exit.inBlock, Exit.then]); refine bodyPost_ret (results_tmp2 rfl _ _ _) rfl ?_
  have hb2 := HW.out.trans ((below_far W1 pf2).mono HW.out.size)
  exact ⟨z, 0, rfl, HB.out, HH.out.2.2.2.2.2.only hb2, Only.of_below hb2⟩
end
theorem RowAt.dropV {α : Type} {f : α -> Value} {W : World} {l : List α} {a : Option Addr} {c : Nat} (h : RowAt f W (.slice a l.length c) l) (n : Nat) (hn : n <= l.length) : RowAt f W (.slice (if c = n then a else a.map (·.add n)) (l.length - n) (c - n)) (l.drop n) := by
 obtain ⟨a', c', h1, h2, h3, h4⟩ := h
 cases h1
 refine ⟨_, c - n, by rw [List.length_drop], by rw [List.length_drop]; omega, by omega, fun h0 => ?_⟩
 rw [List.length_drop] at h0
 obtain ⟨b, o, hlt, rfl, hc⟩ := h4 (by omega)
 refine ⟨b, o + n, hlt, ?_, fun i hi => ?_⟩
 ·rw [if_neg (by omega)]
  show some (Addr.add _ n) = _
  unfold Addr.add
  by_cases hz : n = 0
  ·subst hz; rfl
  ·rw [if_neg hz]
 ·have := hc (n + i) (by rw [List.length_drop] at hi; omega)
  rw [List.getElem_drop, Nat.add_assoc]
  exact this
section
variable {g : Sg} {ρ : ByteArray × Nat -> Nat} {ν : Int -> Nat} {nw : Nat} {L : List T} {w0 : World} {bc bp bf bm : Nat} {vp : Value} {s : Int}
theorem decide_any (H : Lst g ρ ν nw L) (hOk : CmpOk w0 g L bc bp bf bm vp s) {i j : Nat} (hi : i < L.length) (hj : j < L.length) (hij : i ≠ j)
  {b1 q1 : Nat} {sA1 : Value} {ar1 : List Nat} {sV1 : Value} {ws1 : List Nat} (h1 : PtAt ρ ν nw L w0 i L[i] b1 q1 sA1 ar1 sV1 ws1)
  {b2 q2 : Nat} {sA2 : Value} {ar2 : List Nat} {sV2 : Value} {ws2 : List Nat} (h2 : PtAt ρ ν nw L w0 j L[j] b2 q2 sA2 ar2 sV2 ws2)
  (n1 : L[i].fn.size ≠ 0) (n2 : L[j].fn.size ≠ 0) (hs : L[i].size + L[j].size <= s + 1) (w : World) (hC : Cm w0 g L bc bp bf bm vp w) :
  Calls Tryz.prog 87 #[.pointer (some ⟨b1, q1, none⟩), .pointer (some ⟨b2, q2, none⟩), cmpF bc bp bf] w fun e W' => e = .returned (.int .i64 (pcmp g L[i] L[j])) ∧ Cm w0 g L bc bp bf bm vp W' ∧ Only [bm] w W' := by
 have hcall := byheads_any H hOk hi hj hij h1 h2 n1 n2 (fun x hx y hy => by have := arg_lt hx; have := arg_lt hy; omega) w hC
 obtain ⟨ra1, rc1, rfl, hc1, hm1⟩ := h1.ra.slice
 obtain ⟨ra2, rc2, rfl, hc2, hm2⟩ := h2.ra.slice
 have HH : Hid (Lst g ρ ν nw L ∧ CmpOk w0 g L bc bp bf bm vp s ∧ PtAt ρ ν nw L w0 i L[i] b1 q1 (.slice ra1 ar1.length rc1) ar1 sV1 ws1 ∧ PtAt ρ ν nw L w0 j L[j] b2 q2 (.slice ra2 ar2.length rc2) ar2 sV2 ws2 ∧ L[i].size + L[j].size <= s + 1 ∧ L[i].fn.size ≠ 0 ∧ L[j].fn.size ≠ 0) := ⟨H, hOk, h1, h2, hs, n1, n2⟩
 clear H hOk h1 h2 hs n1 n2 hC
 go_enter Tryz.func87, Tryz.ntmps87
 go_wp2_with fail
 refine hcall.mono ?_
 rintro e W1 ⟨o, n, rfl, hBH, hC1, hO1⟩
 obtain ⟨hn1, hn2, hdec⟩ := dec_all HH.out.1 (List.getElem_mem hi) (List.getElem_mem hj) HH.out.2.2.2.2.2.1 HH.out.2.2.2.2.2.2 hBH
 have l1 := HH.out.2.2.1.alen
 have l2 := HH.out.2.2.2.1.alen
 have m1 : (n : Int) <= (ar1.length : Int) := by omega
 have m2 : (n : Int) <= (ar2.length : Int) := by omega
 have HX : Hid (Cm w0 g L bc bp bf bm vp W1 ∧ Only [bm] w W1 ∧ (n <= ar1.length ∧ n <= ar2.length)) := ⟨hC1, hO1, by omega, by omega⟩
 have k1 := HH.out.2.2.1.keep hC1.bel (Nat.le_refl _)
 have k2 := HH.out.2.2.2.1.keep hC1.bel (Nat.le_refl _)
 have c2 := cell_far k1.lt k1.c2
 have d2 := cell_far k2.lt k2.c2
 clear hcall hBH hC1 hO1 k1 k2 l1 l2 hn1 hn2
 have HDec : Hid _ := hdec
 clear hdec
 go_wp2
 refine wp_region_far (by kernel_rfl) ?_
 repeat (first | go_big_quiet_step (fail) | quiet_step (fail))
 refine wpQuiet_nil ?_
 intro _ hw'
 obtain ⟨pf, rfl⟩ := hw'
 have hbf := below_far W1 pf
 have R1 := HH.out.2.2.1.ra.dropV n HX.out.2.2.1
 have R2 := HH.out.2.2.2.1.ra.dropV n HX.out.2.2.2
 have I1 : Idx L (ar1.drop n) (L[i].args.drop n) := Idx.drop HH.out.2.2.1.ax n
 have I2 : Idx L (ar2.drop n) (L[j].args.drop n) := Idx.drop HH.out.2.2.2.1.ax n
 have hC2 := HX.out.1.only hbf
 have HO : Hid (Only [bm] w (far W1 pf)) := HX.out.2.1.trans (Only.of_below (B := [bm]) hbf) (by simp)
 generalize (if rc1 = n then ra1 else Option.map (fun x => x.add n) ra1) = x1 at R1 ⊢
 generalize (if rc2 = n then ra2 else Option.map (fun x => x.add n) ra2) = x2 at R2 ⊢
 have s1 : ∀ t ∈ L[i].args.drop n, t.size + L[j].size <= s := fun t ht => by
  have := arg_lt (List.mem_of_mem_drop ht)
  have := HH.out.2.2.2.2.1
  omega
 have s2 : ∀ t ∈ L[j].args.drop n, t.size + L[i].size <= s := fun t ht => by
  have := arg_lt (List.mem_of_mem_drop ht)
  have := HH.out.2.2.2.2.1
  omega
 have ov1 := over_any HH.out.2.1 hi HH.out.2.2.1 (ar2.drop n) _ _ I2 R2 (fun t ht => by have := s2 t ht; omega) _ hC2
 have ov2 := over_any HH.out.2.1 hj HH.out.2.2.2.1 (ar1.drop n) _ _ I1 R1 (fun t ht => by have := s1 t ht; omega) _ hC2
 have re1 := reach_any HH.out.2.1 hj HH.out.2.2.2.1 (ar1.drop n) _ _ I1 R1 s1 _ hC2
 have re2 := fun W hW => reach_any HH.out.2.1 hi HH.out.2.2.1 (ar2.drop n) _ _ I2 R2 s2 W hW
 have q1 := rch_any (g := g) (b := L[j]) I1
 have q2 := rch_any (g := g) (b := L[i]) I2
 clear c2 d2 R1 R2 I1 I2 s1 s2 hC2 hbf m1 m2
 generalize far W1 pf = W2 at ov1 ov2 re1 HO ⊢
 rcases HDec.out with ⟨rfl, k⟩ | ⟨rfl, k⟩ | ⟨h1, h2, k1, k⟩ | ⟨h1, h2, k1, k2, k⟩ | ⟨h1, h2, k1, k2, k⟩
 ·rw [k] at ov1
  clear k ov2 re1 re2 q1 q2 HDec
  go_wp2_with (first | (go_at_call 130; refine ov1.mono ?_; rintro e W3 ⟨rfl, hC3, hO3⟩; have HD : Hid (Cm w0 g L bc bp bf bm vp W3 ∧ Only [bm] W2 W3) := ⟨hC3, hO3⟩; clear hC3 hO3))
  go_ret
  exact ⟨rfl, HD.out.1, HO.out.trans HD.out.2 (by simp)⟩
 ·have hr : -2 <= ovr g L[j] (L[i].args.drop n) ∧ ovr g L[j] (L[i].args.drop n) <= 2 := by
   unfold ovr
   split
   ·omega
   ·split <;> omega
  have ht := turned_any _ hr
  rw [k] at ht
  clear k ov1 re1 re2 q1 q2 HDec hr
  go_wp2_with fail
  refine ov2.mono ?_
  rintro e W3 ⟨rfl, hC3, hO3⟩
  have HD : Hid (Cm w0 g L bc bp bf bm vp W3 ∧ Only [bm] W2 W3) := ⟨hC3, hO3⟩
  clear hC3 hO3
  go_wp2_with fail
  refine (ht W3).mono ?_
  rintro e W4 ⟨rfl, hW4⟩
  subst hW4
  go_wp2
  go_ret
  exact ⟨rfl, HD.out.1, HO.out.trans HD.out.2 (by simp)⟩
 all_goals
  have g1 : (o == 1) = false := by rw [beq_eq_false_iff_ne]; exact h1
  have g2 : (o == -1) = false := by rw [beq_eq_false_iff_ne]; exact h2
  clear h1 h2 ov1 ov2 HDec
 ·rw [q1.2 k1] at re1
  have HV : Hid (pcmp g L[i] L[j] = 1) := k
  clear k k1 q1 q2 re2
  go_wp2_with fail
  refine re1.mono ?_
  rintro e W3 ⟨rfl, hC3, hO3⟩
  have HD : Hid (Cm w0 g L bc bp bf bm vp W3 ∧ Only [bm] W2 W3) := ⟨hC3, hO3⟩
  clear hC3 hO3
  go_wp2
  go_ret
  exact ⟨ret_i64 HV.out.symm, HD.out.1, HO.out.trans HD.out.2 (by simp)⟩
 ·have e1 : (ar1.drop n).any (rqL g L L[j]) = false := by
   cases e : (ar1.drop n).any (rqL g L L[j])
   ·rfl
   ·exact absurd (q1.1 e) k1
  rw [e1] at re1
  rw [q2.2 k2] at re2
  have HV : Hid (pcmp g L[i] L[j] = -1) := k
  clear k k1 k2 q1 q2 e1
  go_wp2_with fail
  refine re1.mono ?_
  rintro e W3 ⟨rfl, hC3, hO3⟩
  have re2' := re2 W3 hC3
  have HD : Hid (Cm w0 g L bc bp bf bm vp W3 ∧ Only [bm] W2 W3) := ⟨hC3, hO3⟩
  clear hC3 hO3 re2
  go_wp2_with fail
  refine re2'.mono ?_
  rintro e W4 ⟨rfl, hC4, hO4⟩
  have HD2 : Hid (Cm w0 g L bc bp bf bm vp W4 ∧ Only [bm] W3 W4) := ⟨hC4, hO4⟩
  clear hC4 hO4
  go_wp2
  go_ret
  exact ⟨ret_i64 HV.out.symm, HD2.out.1, (HO.out.trans HD.out.2 (by simp)).trans HD2.out.2 (by simp)⟩
 ·have e1 : (ar1.drop n).any (rqL g L L[j]) = false := by
   cases e : (ar1.drop n).any (rqL g L L[j])
   ·rfl
   ·exact absurd (q1.1 e) k1
  have e2 : (ar2.drop n).any (rqL g L L[i]) = false := by
   cases e : (ar2.drop n).any (rqL g L L[i])
   ·rfl
   ·exact absurd (q2.1 e) k2
  rw [e1] at re1
  rw [e2] at re2
  have HV : Hid (pcmp g L[i] L[j] = 2) := k
  clear k k1 k2 q1 q2 e1 e2
  go_wp2_with fail
  refine re1.mono ?_
  rintro e W3 ⟨rfl, hC3, hO3⟩
  have re2' := re2 W3 hC3
  have HD : Hid (Cm w0 g L bc bp bf bm vp W3 ∧ Only [bm] W2 W3) := ⟨hC3, hO3⟩
  clear hC3 hO3 re2
  go_wp2_with fail
  refine re2'.mono ?_
  rintro e W4 ⟨rfl, hC4, hO4⟩
  have HD2 : Hid (Cm w0 g L bc bp bf bm vp W4 ∧ Only [bm] W3 W4) := ⟨hC4, hO4⟩
  clear hC4 hO4
  go_wp2
  go_ret
  exact ⟨ret_i64 HV.out.symm, HD2.out.1, (HO.out.trans HD.out.2 (by simp)).trans HD2.out.2 (by simp)⟩
end
end Go.Proofs.YtglphfhlpobgcaaGreat
