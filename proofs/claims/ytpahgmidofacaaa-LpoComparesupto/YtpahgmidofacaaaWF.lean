/-
  over.
-/
import Derived.Test.YtpahgmidofacaaaWE
namespace Go.Proofs.Ytpahgmidofacaaa
open Go.RowKit Go.Maps

open Classical in
/-- What is known behind some arguments. -/
def OvI (g : Sg) (a : T) (l : List T) (o : Int) : Prop := (¬ ∃ y ∈ l, y = a ∨ lg g y a) ∧ o = (if ∀ y ∈ l, lg g a y then 1 else 2)

theorem ovI_nil (g : Sg) (a : T) : OvI g a [] 1 := ⟨by simp, by simp⟩
theorem ovI_stop {g : Sg} {a y : T} {l : List T} (h : y ∈ l) (k : y = a ∨ lg g y a) : ovr g a l = -1 := by
  unfold ovr
  rw [if_pos ⟨y, h, k⟩]
theorem ovI_end {g : Sg} {a : T} {l : List T} {o : Int} (h : OvI g a l o) : ovr g a l = o := by
  unfold ovr
  rw [if_neg h.1, h.2]
theorem ovI_gr {g : Sg} {a y : T} {l : List T} {o : Int} (h : OvI g a l o) (k : pcmp g a y = 1) : OvI g a (l ++ [y]) o := by
  have k' := pcmp_gr.1 k
  refine ⟨?_, ?_⟩
  · rintro ⟨z, hz, e⟩
    rcases List.mem_append.1 hz with hz | hz
    · exact h.1 ⟨z, hz, e⟩
    · have : z = y := by simpa using hz
      subst this
      rcases e with e | e
      · exact lg_irrefl g a (e ▸ k')
      · exact lg_asymm k' e
  · rw [h.2]
    by_cases e : ∀ y ∈ l, lg g a y
    · rw [if_pos e, if_pos]
      intro z hz
      rcases List.mem_append.1 hz with hz | hz
      · exact e z hz
      · have : z = y := by simpa using hz
        exact this ▸ k'
    · rw [if_neg e, if_neg]
      exact fun q => e fun z hz => q z (List.mem_append_left _ hz)
theorem ovI_no {g : Sg} {a y : T} {l : List T} {o : Int} (h : OvI g a l o) (k : pcmp g a y = 2) : OvI g a (l ++ [y]) 2 := by
  refine ⟨?_, ?_⟩
  · rintro ⟨z, hz, e⟩
    rcases List.mem_append.1 hz with hz | hz
    · exact h.1 ⟨z, hz, e⟩
    · have : z = y := by simpa using hz
      subst this
      rcases e with e | e
      · have := (pcmp_zero (g := g)).2 e.symm
        rw [k] at this; omega
      · have := pcmp_ls.2 e
        rw [k] at this; omega
  · rw [if_neg]
    intro q
    have := pcmp_gr.2 (q y (List.mem_append_right _ (by simp)))
    rw [k] at this; omega

section
variable {g : Sg} {ρ : ByteArray × Nat → Nat} {ν : Int → Nat} {nw : Nat} {L : List T} {w0 : World} {bc bp bf bm : Nat} {vp : Value} {s : Int}

set_option maxRecDepth 100000 in
set_option maxHeartbeats 2000000 in
theorem over_any (hOk : CmpOk w0 g L bc bp bf bm vp s) {i : Nat} (hi : i < L.length) {b q : Nat} {sA : Value} {ar : List Nat} {sV : Value} {ws : List Nat} (hp : PtAt ρ ν nw L w0 i L[i] b q sA ar sV ws)
    (xs : List Nat) (ts : List T) (v : Value) (hx : Idx L xs ts) (hr : RowAt fi w0 v xs) (hs : ∀ t ∈ ts, L[i].size + t.size ≤ s) (w : World) (hC : Cm w0 g L bc bp bf bm vp w) :
    Calls Try.prog 71 #[.pointer (some ⟨b, q, none⟩), v, cmpF bc bp bf] w fun e W' => e = .returned (.int .i64 (ovr g L[i] ts)) ∧ Cm w0 g L bc bp bf bm vp W' ∧ Only [bm] w W' := by
  obtain ⟨a, c, rfl, hc, hm⟩ := hr.slice
  have eg := eg47
  have HLn : Hid (xs.length = ts.length) := hx.len
  have HH : Hid (CmpOk w0 g L bc bp bf bm vp s ∧ PtAt ρ ν nw L w0 i L[i] b q sA ar sV ws ∧ Idx L xs ts ∧ RowAt fi w0 (.slice a xs.length c) xs ∧ (∀ t ∈ ts, L[i].size + t.size ≤ s) ∧ Cm w0 g L bc bp bf bm vp w) := ⟨hOk, hp, hx, hr, hs, hC⟩
  clear hOk hp hx hr hs hC
  go_enter Try.func71, Try.ntmps71
  go_wp2
  go_loopw [7, 12] (fun vo vi wr => ∃ (o : Int) (k : Nat), vo = .int .i64 o ∧ vi = .int .i64 k ∧ k ≤ xs.length ∧ Hid (OvI g L[i] (ts.take k) o ∧ Cm w0 g L bc bp bf bm vp wr ∧ Only [bm] w wr)) (fun _ vi _ => xs.length - (intOf vi).toNat)
  case atStart => exact ⟨1, 0, rfl, rfl, Nat.zero_le _, ovI_nil g _, HH.out.2.2.2.2.2, Only.refl _ _⟩
  case round =>
    obtain ⟨o, k, rfl, rfl, hk, HI⟩ := hrel
    by_cases hlt : k < xs.length
    · have hlt' : k < ts.length := by have := HLn.out; omega
      obtain ⟨b', o', rfl, hbl, hcell⟩ := (HH.out.2.2.2.1.keep HI.out.2.1.bel (Nat.le_refl _)).nth hlt
      obtain ⟨hl, hg⟩ := HH.out.2.2.1.get hlt hlt'
      have c0 := (HH.out.2.1.keep HI.out.2.1.bel (Nat.le_refl _)).c0
      have hcall := HH.out.1 i xs[k] hi hl (by rw [hg]; exact HH.out.2.2.2.2.1 _ (List.getElem_mem hlt')) wr HI.out.2.1
      rw [hg] at hcall
      have ht : ts.take (k + 1) = ts.take k ++ [ts[k]] := List.take_succ_eq_append_getElem hlt'
      clear hg
      rcases pcmp_rng g L[i] ts[k] with e | e | e | e
      · have HV : Hid (ovr g L[i] ts = -1) := ovI_stop (List.getElem_mem hlt') (.inl (pcmp_zero.1 e).symm)
        rw [e] at hcall
        clear e ht
        go_wp2_with (first | (go_at_fn 47; refine hcall.mono ?_; rintro e W2 ⟨rfl, hC2, hO2⟩; have HD : Hid (Cm w0 g L bc bp bf bm vp W2 ∧ Only [bm] wr W2) := ⟨hC2, hO2⟩; clear hC2 hO2))
        go_ret
        exact ⟨ret_i64 HV.out.symm, HD.out.1, HI.out.2.2.trans HD.out.2 (by simp)⟩
      · have HV : Hid (OvI g L[i] (ts.take (k + 1)) o) := by rw [ht]; exact ovI_gr HI.out.1 e
        rw [e] at hcall
        clear e ht
        go_wp2_with (first | (go_at_fn 47; refine hcall.mono ?_; rintro e W2 ⟨rfl, hC2, hO2⟩; have HD : Hid (Cm w0 g L bc bp bf bm vp W2 ∧ Only [bm] wr W2) := ⟨hC2, hO2⟩; clear hC2 hO2))
        go_roundw
        case rel => exact ⟨o, k + 1, rfl, by go_num, by omega, HV.out, HD.out.1, HI.out.2.2.trans HD.out.2 (by simp)⟩
        case measure => simp [intOf]; omega
      · have HV : Hid (ovr g L[i] ts = -1) := ovI_stop (List.getElem_mem hlt') (.inr (pcmp_ls.1 e))
        rw [e] at hcall
        clear e ht
        go_wp2_with (first | (go_at_fn 47; refine hcall.mono ?_; rintro e W2 ⟨rfl, hC2, hO2⟩; have HD : Hid (Cm w0 g L bc bp bf bm vp W2 ∧ Only [bm] wr W2) := ⟨hC2, hO2⟩; clear hC2 hO2))
        go_ret
        exact ⟨ret_i64 HV.out.symm, HD.out.1, HI.out.2.2.trans HD.out.2 (by simp)⟩
      · have HV : Hid (OvI g L[i] (ts.take (k + 1)) 2) := by rw [ht]; exact ovI_no HI.out.1 e
        rw [e] at hcall
        clear e ht
        go_wp2_with (first | (go_at_fn 47; refine hcall.mono ?_; rintro e W2 ⟨rfl, hC2, hO2⟩; have HD : Hid (Cm w0 g L bc bp bf bm vp W2 ∧ Only [bm] wr W2) := ⟨hC2, hO2⟩; clear hC2 hO2))
        go_roundw
        case rel => exact ⟨2, k + 1, rfl, by go_num, by omega, HV.out, HD.out.1, HI.out.2.2.trans HD.out.2 (by simp)⟩
        case measure => simp [intOf]; omega
    · have HV : Hid (ovr g L[i] ts = o) := by
        have := HI.out.1
        rw [List.take_of_length_le (by have := HLn.out; omega)] at this
        exact ovI_end this
      go_wp2
      go_ret
      exact ⟨ret_i64 HV.out.symm, HI.out.2.1, HI.out.2.2⟩
end

end Go.Proofs.Ytpahgmidofacaaa
