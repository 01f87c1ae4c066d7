import Derived.Test.YtglphfhlpobgcaaGreatWD
import Derived.Test.YtglphfhlpobgcaaGreatLM

namespace Go.Proofs.YtglphfhlpobgcaaGreat
open Go.RowKit Go.Maps
structure Lst (g : Sg) (ρ : ByteArray × Nat → Nat) (ν : Int → Nat) (nw : Nat) (L : List T) : Prop where
  rk : ∃ S, Ranks g S ρ ∧ ∀ t ∈ L, ∀ s ∈ t.sy, s ∈ S
  sh : ∀ t ∈ L, t.shape = true
  nd : L.Nodup
  inj : ∀ t ∈ L, ∀ u ∈ L, ∀ x ∈ t.vs, ∀ y ∈ u.vs, ν x = ν y → x = y
  lt : ∀ t ∈ L, ∀ x ∈ t.vs, ν x < 64 * nw
  len : L.length ≤ 8000
def Pts (ρ : ByteArray × Nat → Nat) (ν : Int → Nat) (nw : Nat) (L : List T) (W : World) (vp : Value) : Prop :=
  ∃ a c, vp = .slice a L.length c ∧ L.length ≤ c ∧ c ≤ 9223372036854775807 ∧ ∀ i (h : i < L.length), ∃ b o sA ar sV ws, a = some ⟨b, o, none⟩ ∧ PtAt ρ ν nw L W i L[i] b (o + i * 5) sA ar sV ws
theorem Pts.keep {ρ : ByteArray × Nat → Nat} {ν : Int → Nat} {nw : Nat} {L : List T} {W W' : World} {vp : Value} {n : Nat} (h : Pts ρ ν nw L W vp) (hb : Below n W W') (hn : W.heap.size ≤ n) : Pts ρ ν nw L W' vp := by
  obtain ⟨a, c, h1, h2, h3, h4⟩ := h
  refine ⟨a, c, h1, h2, h3, fun i hi => ?_⟩
  obtain ⟨b, o, sA, ar, sV, ws, e, p⟩ := h4 i hi
  exact ⟨b, o, sA, ar, sV, ws, e, p.keep hb hn⟩
def Idx (L : List T) (xs : List Nat) (ts : List T) : Prop := xs.map (fun i => L[i]?) = ts.map some
theorem Idx.len {L : List T} {xs : List Nat} {ts : List T} (h : Idx L xs ts) : xs.length = ts.length := by
  have := congrArg List.length h
  simpa using this
theorem Idx.get {L : List T} {xs : List Nat} {ts : List T} (h : Idx L xs ts) {k : Nat} (hk : k < xs.length) (hk' : k < ts.length) : ∃ hl : xs[k] < L.length, L[xs[k]] = ts[k] := by
  have := congrArg (fun l => l[k]?) h
  simp only [List.getElem?_map, List.getElem?_eq_getElem hk, List.getElem?_eq_getElem hk', Option.map_some] at this
  have := Option.some.inj this
  obtain ⟨hl, e⟩ := List.getElem?_eq_some_iff.1 this
  exact ⟨hl, e⟩
theorem Idx.drop {L : List T} {xs : List Nat} {ts : List T} (h : Idx L xs ts) (n : Nat) : Idx L (xs.drop n) (ts.drop n) := by
  unfold Idx at *
  rw [List.map_drop, List.map_drop, h]
theorem nd_inj {L : List T} (h : L.Nodup) {i j : Nat} (hi : i < L.length) (hj : j < L.length) (e : L[i] = L[j]) : i = j := by
  have := List.pairwise_iff_getElem.1 h
  rcases Nat.lt_trichotomy i j with k | k | k
  · exact absurd e (this i j hi hj k)
  · exact k
  · exact absurd e.symm (this j i hj hi k)
section
variable {g : Sg} {ρ : ByteArray × Nat → Nat} {ν : Int → Nat} {nw : Nat} {L : List T}
theorem wthn_vs (H : Lst g ρ ν nw L) {t u : T} (ht : t ∈ L) (hu : u ∈ L) {ws us : List Nat} (h1 : Bits ν nw t.vs ws) (h2 : Bits ν nw u.vs us) : wthn ws us = true ↔ ∀ x ∈ t.vs, x ∈ u.vs :=
  wthn_iff.trans (sub_iff h1 h2 (H.inj t ht u hu) (H.lt t ht))
theorem lfB_leafC (H : Lst g ρ ν nw L) {t u : T} (ht : t ∈ L) (hu : u ∈ L) {ws us : List Nat} (h1 : Bits ν nw t.vs ws) (h2 : Bits ν nw u.vs us) : lfB (t.top ρ) (u.rk ρ) (wthn us ws) (wthn ws us) = leafC ρ t u := by
  unfold lfB leafC
  have e1 := wthn_vs H hu ht h2 h1
  have e2 := wthn_vs H ht hu h1 h2
  by_cases k1 : u.rk ρ ≤ t.top ρ ∧ ∀ x ∈ u.vs, x ∈ t.vs
  · rw [if_pos ⟨k1.1, e1.2 k1.2⟩, if_pos k1]
  · rw [if_neg (fun h => k1 ⟨h.1, e1.1 h.2⟩), if_neg k1]
    by_cases k2 : t.top ρ < u.rk ρ ∧ ∀ x ∈ t.vs, x ∈ u.vs
    · rw [if_pos ⟨k2.1, e2.2 k2.2⟩, if_pos k2]
    · rw [if_neg (fun h => k2 ⟨h.1, e2.1 h.2⟩), if_neg k2]
theorem ao_ok (H : Lst g ρ ν nw L) {t u : T} (ht : t ∈ L) (hu : u ∈ L) (hne : t ≠ u) {ws us : List Nat} (h1 : Bits ν nw t.vs ws) (h2 : Bits ν nw u.vs us)
    (h : aoT t.args.length u.args.length (wthn ws us) (wthn us ws) = true) :
    aoX t.args.length u.args.length (lfB (t.top ρ) (u.rk ρ) (wthn us ws) (wthn ws us)) (lfB (u.top ρ) (t.rk ρ) (wthn ws us) (wthn us ws)) (wthn ws us) (wthn us ws) = pcmp g t u := by
  obtain ⟨S, R, hS⟩ := H.rk
  unfold aoX
  by_cases k1 : u.args.length = 0
  · rw [if_pos k1, lfB_leafC H ht hu h1 h2]
    exact leaf_cmp R (H.sh t ht) (H.sh u hu) (hS t ht) (hS u hu) (List.length_eq_zero_iff.1 k1) hne
  · rw [if_neg k1]
    by_cases k2 : t.args.length = 0
    · rw [if_pos k2, lfB_leafC H hu ht h2 h1, leaf_cmp R (H.sh u hu) (H.sh t ht) (hS u hu) (hS t ht) (List.length_eq_zero_iff.1 k2) hne.symm]
      exact trn_pcmp g u t
    · rw [if_neg k2]
      unfold aoT at h
      rw [if_neg k1, if_neg k2] at h
      by_cases k3 : wthn ws us = false ∧ wthn us ws = false
      · rw [if_pos k3]
        refine (vars_none2 (H.sh t ht) (H.sh u hu) (fun k => ?_) (fun k => ?_)).symm
        · rw [(wthn_vs H ht hu h1 h2).2 k] at k3; cases k3.1
        · rw [(wthn_vs H hu ht h2 h1).2 k] at k3; cases k3.2
      · rw [if_neg k3] at h; cases h
theorem ao_no {n1 n2 : Nat} {s12 s21 : Bool} (h : aoT n1 n2 s12 s21 = false) : n1 ≠ 0 ∧ n2 ≠ 0 := by
  unfold aoT at h
  split at h
  · cases h
  · split at h
    · cases h
    · exact ⟨by assumption, by assumption⟩
def BH (g : Sg) (ρ : ByteArray × Nat → Nat) (a b : T) (o : Int) (n : Nat) : Prop :=
  (b.rk ρ < a.rk ρ ∧ o = 1 ∧ n = 0) ∨ (a.rk ρ < b.rk ρ ∧ o = -1 ∧ n = 0) ∨ (a.rk ρ = b.rk ρ ∧ ∃ l x y r s, a.args = l ++ x :: r ∧ b.args = l ++ y :: s ∧ x ≠ y ∧ o = pcmp g x y ∧ n = l.length + 1)
def Rch (g : Sg) (l : List T) (b : T) : Prop := ∃ z ∈ l, z = b ∨ lg g z b
theorem drop_mid {l : List T} {x : T} {r : List T} : (l ++ x :: r).drop (l.length + 1) = r := by
  rw [List.drop_append]
  simp
theorem dec_all (H : Lst g ρ ν nw L) {a b : T} (ha : a ∈ L) (hb : b ∈ L) (a0 : a.fn.size ≠ 0) (b0 : b.fn.size ≠ 0) {o : Int} {n : Nat} (h : BH g ρ a b o n) :
    n ≤ a.args.length ∧ n ≤ b.args.length ∧ ((o = 1 ∧ ovr g a (b.args.drop n) = pcmp g a b) ∨ (o = -1 ∧ trn (ovr g b (a.args.drop n)) = pcmp g a b) ∨
    (o ≠ 1 ∧ o ≠ -1 ∧ Rch g (a.args.drop n) b ∧ pcmp g a b = 1) ∨ (o ≠ 1 ∧ o ≠ -1 ∧ ¬ Rch g (a.args.drop n) b ∧ Rch g (b.args.drop n) a ∧ pcmp g a b = -1) ∨ (o ≠ 1 ∧ o ≠ -1 ∧ ¬ Rch g (a.args.drop n) b ∧ ¬ Rch g (b.args.drop n) a ∧ pcmp g a b = 2)) := by
  obtain ⟨S, R, hS⟩ := H.rk
  rcases h with ⟨h, rfl, rfl⟩ | ⟨h, rfl, rfl⟩ | ⟨h, l, x, y, r, s, e1, e2, hne, rfl, rfl⟩
  · exact ⟨Nat.zero_le _, Nat.zero_le _, .inl ⟨rfl, dec_head R a0 b0 (hS a ha) (hS b hb) h⟩⟩
  · refine ⟨Nat.zero_le _, Nat.zero_le _, .inr (.inl ⟨rfl, ?_⟩)⟩
    rw [List.drop_zero, dec_head R b0 a0 (hS b hb) (hS a ha) h]
    exact trn_pcmp g b a
  · obtain ⟨hf, hn⟩ := same_of_rk R a0 b0 (hS a ha) (hS b hb) h
    have d1 : a.args.drop (l.length + 1) = r := by rw [e1]; exact drop_mid
    have d2 : b.args.drop (l.length + 1) = s := by rw [e2]; exact drop_mid
    rw [d1, d2]
    refine ⟨by rw [e1]; simp, by rw [e2]; simp, ?_⟩
    by_cases k1 : lg g x y
    · exact .inl ⟨pcmp_gr.2 k1, dec_lex a0 hf hn e1 e2 k1⟩
    · by_cases k2 : lg g y x
      · refine .inr (.inl ⟨pcmp_ls.2 k2, ?_⟩)
        rw [dec_lex b0 hf.symm hn.symm e2 e1 k2]
        exact trn_pcmp g b a
      · have k := dec_none a0 hf hn e1 e2 hne k1 k2
        have n1 : pcmp g x y ≠ 1 := fun h => k1 (pcmp_gr.1 h)
        have n2 : pcmp g x y ≠ -1 := fun h => k2 (pcmp_ls.1 h)
        by_cases r1 : Rch g r b
        · have r1' : ∃ z ∈ r, z = b ∨ lg g z b := r1
          rw [if_pos r1'] at k
          exact .inr (.inr (.inl ⟨n1, n2, r1, k.symm⟩))
        · have r1' : ¬ ∃ z ∈ r, z = b ∨ lg g z b := r1
          rw [if_neg r1'] at k
          by_cases r2 : Rch g s a
          · have r2' : ∃ z ∈ s, z = a ∨ lg g z a := r2
            rw [if_pos r2'] at k
            exact .inr (.inr (.inr (.inl ⟨n1, n2, r1, r2, k.symm⟩)))
          · have r2' : ¬ ∃ z ∈ s, z = a ∨ lg g z a := r2
            rw [if_neg r2'] at k
            exact .inr (.inr (.inr (.inr ⟨n1, n2, r1, r2, k.symm⟩)))
end
abbrev cmpF (bc bp bf : Nat) : Value := .func (.func 84) #[] #[.pointer (some ⟨bc, 0, none⟩), .pointer (some ⟨bp, 0, none⟩), .pointer (some ⟨bf, 0, none⟩)]
abbrev pairv (i j : Nat) : Value := .agg #[.int .i16 (i : Int), .int .i16 (j : Int)]
structure Cm (w0 : World) (g : Sg) (L : List T) (bc bp bf bm : Nat) (vp : Value) (W : World) : Prop where
  bel : Below w0.heap.size w0 W
  lo : w0.heap.size ≤ bm
  cc : W.cell? ⟨bc, 0, none⟩ = some (cmpF bc bp bf)
  cp : W.cell? ⟨bp, 0, none⟩ = some vp
  cf : W.cell? ⟨bf, 0, none⟩ = some (.map (some bm))
  lt : bc < W.heap.size ∧ bp < W.heap.size ∧ bf < W.heap.size
  ne : bc ≠ bm ∧ bp ≠ bm ∧ bf ≠ bm
  mp : ∃ (m : Value → Option Value) (K : List (Nat × Nat)), MapIs W 137 bm m K.length ∧ K.Nodup ∧ (∀ p ∈ K, p.1 < L.length ∧ p.2 < L.length) ∧
    ∀ i j (hi : i < L.length) (hj : j < L.length), (m (pairv i j) = none ∧ (i, j) ∉ K) ∨ (m (pairv i j) = some (.int .i64 (pcmp g L[i] L[j])) ∧ (i, j) ∈ K)
theorem Cm.only {w0 : World} {g : Sg} {L : List T} {bc bp bf bm : Nat} {vp : Value} {W W' : World} (h : Cm w0 g L bc bp bf bm vp W) (hb : Below W.heap.size W W') : Cm w0 g L bc bp bf bm vp W' := by
  obtain ⟨m, K, h1, h2⟩ := h.mp
  obtain ⟨l1, l2, l3⟩ := h.lt
  have := hb.size
  exact ⟨h.bel.trans (hb.mono h.bel.size), h.lo, kc hb l1 h.cc, kc hb l2 h.cp, kc hb l3 h.cf, ⟨by omega, by omega, by omega⟩, h.ne, m, K, h1.same (hb.block bm h1.lt), h2⟩
def CmpOk (w0 : World) (g : Sg) (L : List T) (bc bp bf bm : Nat) (vp : Value) (s : Int) : Prop :=
  ∀ i j (hi : i < L.length) (hj : j < L.length), L[i].size + L[j].size ≤ s → ∀ W, Cm w0 g L bc bp bf bm vp W →
    Calls Tryz.prog 84 #[.int .i16 (i : Int), .int .i16 (j : Int), .pointer (some ⟨bc, 0, none⟩), .pointer (some ⟨bp, 0, none⟩), .pointer (some ⟨bf, 0, none⟩)] W fun e W' => e = .returned (.int .i64 (pcmp g L[i] L[j])) ∧ Cm w0 g L bc bp bf bm vp W' ∧ Only [bm] W W'
theorem eg47 : ∀ args w, (callFunc 84 args).run Tryz.prog w = .ok (.enter 84 args) w := enters_of Tryz.func84 (by kernel_rfl) rfl
end Go.Proofs.YtglphfhlpobgcaaGreat

namespace Go.Proofs.YtglphfhlpobgcaaGreat
open Go.RowKit Go.Maps
open Classical in
def OvI (g : Sg) (a : T) (l : List T) (o : Int) : Prop := (¬ ∃ y ∈ l, y = a ∨ lg g y a) ∧ o = (if ∀ y ∈ l, lg g a y then 1 else 2)
theorem ovI_nil (g : Sg) (a : T) : OvI g a [] 1 := ⟨by simp, by simp⟩
theorem ovI_stop {g : Sg} {a y : T} {l : List T} (h : y ∈ l) (k : y = a ∨ lg g y a) : ovr g a l = -1 := by
  unfold ovr
  rw [if_pos ⟨y, h, k⟩]
theorem ovI_end {g : Sg} {a : T} {l : List T} {o : Int} (h : OvI g a l o) : ovr g a l = o := by
  unfold ovr
  rw [if_neg h.1, h.2]
theorem ovI_gr {g : Sg} {a y : T} {l : List T} {o : Int} (h : OvI g a l o) (k : pcmp g a y = 1) : OvI g a (l ++ [y]) o := by
  have k' := pcmp_gr.1 k
  refine ⟨?_, ?_⟩
  · rintro ⟨z, hz, e⟩
    rcases List.mem_append.1 hz with hz | hz
    · exact h.1 ⟨z, hz, e⟩
    · have : z = y := by simpa using hz
      subst this
      rcases e with e | e
      · exact lg_irrefl g a (e ▸ k')
      · exact lg_asymm k' e
  · rw [h.2]
    by_cases e : ∀ y ∈ l, lg g a y
    · rw [if_pos e, if_pos]
      intro z hz
      rcases List.mem_append.1 hz with hz | hz
      · exact e z hz
      · have : z = y := by simpa using hz
        exact this ▸ k'
    · rw [if_neg e, if_neg]
      exact fun q => e fun z hz => q z (List.mem_append_left _ hz)
theorem ovI_no {g : Sg} {a y : T} {l : List T} {o : Int} (h : OvI g a l o) (k : pcmp g a y = 2) : OvI g a (l ++ [y]) 2 := by
  refine ⟨?_, ?_⟩
  · rintro ⟨z, hz, e⟩
    rcases List.mem_append.1 hz with hz | hz
    · exact h.1 ⟨z, hz, e⟩
    · have : z = y := by simpa using hz
      subst this
      rcases e with e | e
      · have := (pcmp_zero (g := g)).2 e.symm
        rw [k] at this; omega
      · have := pcmp_ls.2 e
        rw [k] at this; omega
  · rw [if_neg]
    intro q
    have := pcmp_gr.2 (q y (List.mem_append_right _ (by simp)))
    rw [k] at this; omega
section
variable {g : Sg} {ρ : ByteArray × Nat → Nat} {ν : Int → Nat} {nw : Nat} {L : List T} {w0 : World} {bc bp bf bm : Nat} {vp : Value} {s : Int}
set_option maxRecDepth 100000 in
set_option maxHeartbeats 2000000 in
theorem over_any (hOk : CmpOk w0 g L bc bp bf bm vp s) {i : Nat} (hi : i < L.length) {b q : Nat} {sA : Value} {ar : List Nat} {sV : Value} {ws : List Nat} (hp : PtAt ρ ν nw L w0 i L[i] b q sA ar sV ws)
    (xs : List Nat) (ts : List T) (v : Value) (hx : Idx L xs ts) (hr : RowAt fi w0 v xs) (hs : ∀ t ∈ ts, L[i].size + t.size ≤ s) (w : World) (hC : Cm w0 g L bc bp bf bm vp w) :
    Calls Tryz.prog 130 #[.pointer (some ⟨b, q, none⟩), v, cmpF bc bp bf] w fun e W' => e = .returned (.int .i64 (ovr g L[i] ts)) ∧ Cm w0 g L bc bp bf bm vp W' ∧ Only [bm] w W' := by
  obtain ⟨a, c, rfl, hc, hm⟩ := hr.slice
  have eg := eg47
  have HLn : Hid (xs.length = ts.length) := hx.len
  have HH : Hid (CmpOk w0 g L bc bp bf bm vp s ∧ PtAt ρ ν nw L w0 i L[i] b q sA ar sV ws ∧ Idx L xs ts ∧ RowAt fi w0 (.slice a xs.length c) xs ∧ (∀ t ∈ ts, L[i].size + t.size ≤ s) ∧ Cm w0 g L bc bp bf bm vp w) := ⟨hOk, hp, hx, hr, hs, hC⟩
  clear hOk hp hx hr hs hC
  go_enter Tryz.func130, Tryz.ntmps130
  go_wp2
  go_loopw [7, 12] (fun vo vi wr => ∃ (o : Int) (k : Nat), vo = .int .i64 o ∧ vi = .int .i64 k ∧ k ≤ xs.length ∧ Hid (OvI g L[i] (ts.take k) o ∧ Cm w0 g L bc bp bf bm vp wr ∧ Only [bm] w wr)) (fun _ vi _ => xs.length - (intOf vi).toNat)
  case atStart => exact ⟨1, 0, rfl, rfl, Nat.zero_le _, ovI_nil g _, HH.out.2.2.2.2.2, Only.refl _ _⟩
  case round =>
    obtain ⟨o, k, rfl, rfl, hk, HI⟩ := hrel
    by_cases hlt : k < xs.length
    · have hlt' : k < ts.length := by have := HLn.out; omega
      obtain ⟨b', o', rfl, hbl, hcell⟩ := (HH.out.2.2.2.1.keep HI.out.2.1.bel (Nat.le_refl _)).nth hlt
      obtain ⟨hl, hg⟩ := HH.out.2.2.1.get hlt hlt'
      have c0 := (HH.out.2.1.keep HI.out.2.1.bel (Nat.le_refl _)).c0
      have hcall := HH.out.1 i xs[k] hi hl (by rw [hg]; exact HH.out.2.2.2.2.1 _ (List.getElem_mem hlt')) wr HI.out.2.1
      rw [hg] at hcall
      have ht : ts.take (k + 1) = ts.take k ++ [ts[k]] := List.take_succ_eq_append_getElem hlt'
      clear hg
      rcases pcmp_rng g L[i] ts[k] with e | e | e | e
      · have HV : Hid (ovr g L[i] ts = -1) := ovI_stop (List.getElem_mem hlt') (.inl (pcmp_zero.1 e).symm)
        rw [e] at hcall
        clear e ht
        go_wp2_with (first | (go_at_fn 84; refine hcall.mono ?_; rintro e W2 ⟨rfl, hC2, hO2⟩; have HD : Hid (Cm w0 g L bc bp bf bm vp W2 ∧ Only [bm] wr W2) := ⟨hC2, hO2⟩; clear hC2 hO2))
        go_ret
        exact ⟨ret_i64 HV.out.symm, HD.out.1, HI.out.2.2.trans HD.out.2 (by simp)⟩
      · have HV : Hid (OvI g L[i] (ts.take (k + 1)) o) := by rw [ht]; exact ovI_gr HI.out.1 e
        rw [e] at hcall
        clear e ht
        go_wp2_with (first | (go_at_fn 84; refine hcall.mono ?_; rintro e W2 ⟨rfl, hC2, hO2⟩; have HD : Hid (Cm w0 g L bc bp bf bm vp W2 ∧ Only [bm] wr W2) := ⟨hC2, hO2⟩; clear hC2 hO2))
        go_roundw
        case rel => exact ⟨o, k + 1, rfl, by go_num, by omega, HV.out, HD.out.1, HI.out.2.2.trans HD.out.2 (by simp)⟩
        case measure => simp [intOf]; omega
      · have HV : Hid (ovr g L[i] ts = -1) := ovI_stop (List.getElem_mem hlt') (.inr (pcmp_ls.1 e))
        rw [e] at hcall
        clear e ht
        go_wp2_with (first | (go_at_fn 84; refine hcall.mono ?_; rintro e W2 ⟨rfl, hC2, hO2⟩; have HD : Hid (Cm w0 g L bc bp bf bm vp W2 ∧ Only [bm] wr W2) := ⟨hC2, hO2⟩; clear hC2 hO2))
        go_ret
        exact ⟨ret_i64 HV.out.symm, HD.out.1, HI.out.2.2.trans HD.out.2 (by simp)⟩
      · have HV : Hid (OvI g L[i] (ts.take (k + 1)) 2) := by rw [ht]; exact ovI_no HI.out.1 e
        rw [e] at hcall
        clear e ht
        go_wp2_with (first | (go_at_fn 84; refine hcall.mono ?_; rintro e W2 ⟨rfl, hC2, hO2⟩; have HD : Hid (Cm w0 g L bc bp bf bm vp W2 ∧ Only [bm] wr W2) := ⟨hC2, hO2⟩; clear hC2 hO2))
        go_roundw
        case rel => exact ⟨2, k + 1, rfl, by go_num, by omega, HV.out, HD.out.1, HI.out.2.2.trans HD.out.2 (by simp)⟩
        case measure => simp [intOf]; omega
    · have HV : Hid (ovr g L[i] ts = o) := by
        have := HI.out.1
        rw [List.take_of_length_le (by have := HLn.out; omega)] at this
        exact ovI_end this
      go_wp2
      go_ret
      exact ⟨ret_i64 HV.out.symm, HI.out.2.1, HI.out.2.2⟩
end
end Go.Proofs.YtglphfhlpobgcaaGreat
