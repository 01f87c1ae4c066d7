/-
  reach.
-/
import Derived.Test.YtpahgmidofacaaaWF
import Derived.Test.YtpahgmidofacaaaKC
import Derived.Deep.RegionHeld3
namespace Go.Proofs.Ytpahgmidofacaaa
open Go.RowKit Go.Maps

/-- Is it the other one, or greater? -/
noncomputable def rq (g : Sg) (a b : T) : Bool := decide (pcmp g a b = 0 ∨ pcmp g a b = 1)
noncomputable def rqL (g : Sg) (L : List T) (b : T) (i : Nat) : Bool := match L[i]? with
  | some t => rq g t b
  | none => false
theorem rq_iff {g : Sg} {a b : T} : rq g a b = true ↔ a = b ∨ lg g a b := by
  unfold rq
  rw [decide_eq_true_iff, pcmp_zero, pcmp_gr]
theorem rch_any {g : Sg} {L : List T} {b : T} {xs : List Nat} {ts : List T} (h : Idx L xs ts) : xs.any (rqL g L b) = true ↔ Rch g ts b := by
  rw [List.any_eq_true]
  constructor
  · rintro ⟨x, hx, e⟩
    obtain ⟨k, hk, rfl⟩ := List.getElem_of_mem hx
    have hk' : k < ts.length := by have := h.len; omega
    obtain ⟨hl, hg⟩ := h.get hk hk'
    unfold rqL at e
    rw [List.getElem?_eq_getElem hl, hg] at e
    exact ⟨ts[k], List.getElem_mem hk', rq_iff.1 e⟩
  · rintro ⟨t, ht, e⟩
    obtain ⟨k, hk', rfl⟩ := List.getElem_of_mem ht
    have hk : k < xs.length := by have := h.len; omega
    obtain ⟨hl, hg⟩ := h.get hk hk'
    refine ⟨xs[k], List.getElem_mem hk, ?_⟩
    unfold rqL
    rw [List.getElem?_eq_getElem hl, hg]
    exact rq_iff.2 e

theorem eg80 : ∀ args w, (callFunc 80 args).run Try.prog w = .ok (.enter 80 args) w := enters_of Try.func80 (by kernel_rfl) rfl

section
variable {g : Sg} {ρ : ByteArray × Nat → Nat} {ν : Int → Nat} {nw : Nat} {L : List T} {w0 : World} {bc bp bf bm : Nat} {vp : Value} {s : Int}

/-- The boxes of reach. -/
structure Rb (w0 : World) (g : Sg) (L : List T) (bc bp bf bm : Nat) (vp : Value) (b4 b5 b q : Nat) (W : World) : Prop where
  cm : Cm w0 g L bc bp bf bm vp W
  c5 : W.cell? ⟨b5, 0, none⟩ = some (cmpF bc bp bf)
  c4 : W.cell? ⟨b4, 0, none⟩ = some (.pointer (some ⟨b, q, none⟩))
  lt : b4 < W.heap.size ∧ b5 < W.heap.size
  ne : b4 ≠ bm ∧ b5 ≠ bm
theorem cell_only {B : List Nat} {W W' : World} (h : Only B W W') {k o : Nat} {v : Value} (hk : k < W.heap.size) (hB : k ∉ B) (hc : W.cell? ⟨k, o, none⟩ = some v) : W'.cell? ⟨k, o, none⟩ = some v := by
  have := h.block k hk hB
  unfold World.cell? at *
  rw [this]
  exact hc
theorem Rb.only {b4 b5 b q : Nat} {W W' : World} (h : Rb w0 g L bc bp bf bm vp b4 b5 b q W) (hc : Cm w0 g L bc bp bf bm vp W') (ho : Only [bm] W W') : Rb w0 g L bc bp bf bm vp b4 b5 b q W' := by
  have := ho.size
  exact ⟨hc, cell_only ho h.lt.2 (by simp; exact h.ne.2) h.c5, cell_only ho h.lt.1 (by simp; exact h.ne.1) h.c4, ⟨by have := h.lt; omega, by have := h.lt; omega⟩, h.ne⟩

set_option maxRecDepth 100000 in
set_option maxHeartbeats 2000000 in
theorem rch1_any (hOk : CmpOk w0 g L bc bp bf bm vp s) {j : Nat} (hj : j < L.length) {b q : Nat} {sA : Value} {ar : List Nat} {sV : Value} {ws : List Nat} (hp : PtAt ρ ν nw L w0 j L[j] b q sA ar sV ws)
    {b4 b5 : Nat} {i : Nat} (hi : i < L.length) (hs : L[i].size + L[j].size ≤ s) (w : World) (hR : Rb w0 g L bc bp bf bm vp b4 b5 b q w) :
    Calls Try.prog 80 #[.int .i16 (i : Int), .pointer (some ⟨b5, 0, none⟩), .pointer (some ⟨b4, 0, none⟩)] w fun e W' => e = .returned (.bool (rq g L[i] L[j])) ∧ Rb w0 g L bc bp bf bm vp b4 b5 b q W' ∧ Only [bm] w W' := by
  have eg := eg47
  have hd : Below w.heap.size w w.drew := (Below.refl _ w).drew
  have hcall := hOk i j hi hj hs w.drew (hR.cm.only hd)
  have hCd := hR.cm.only hd
  have K1 : w.drew.cell? ⟨b5, 0, none⟩ = some (cmpF bc bp bf) ∧ w.drew.cell? ⟨b4, 0, none⟩ = some (.pointer (some ⟨b, q, none⟩)) ∧ w.drew.cell? ⟨b, q, none⟩ = some (.int .i16 (j : Int)) := ⟨hR.c5, hR.c4, (hp.keep hCd.bel (Nat.le_refl _)).c0⟩
  have HR : Hid (Rb w0 g L bc bp bf bm vp b4 b5 b q w.drew ∧ PtAt ρ ν nw L w0 j L[j] b q sA ar sV ws ∧ Only [bm] w w.drew) := ⟨⟨hCd, hR.c5, hR.c4, hR.lt, hR.ne⟩, hp, Only.of_below hd⟩
  have hE : rq g L[i] L[j] = decide (pcmp g L[i] L[j] = 0 ∨ pcmp g L[i] L[j] = 1) := rfl
  have hrng := pcmp_rng g L[i] L[j]
  obtain ⟨c, hc⟩ : ∃ c, pcmp g L[i] L[j] = c := ⟨_, rfl⟩
  rw [hc] at hcall hE hrng
  have HE : Hid (rq g L[i] L[j] = decide (c = 0 ∨ c = 1)) := hE
  clear hR hp hd hCd hE hc hOk hs
  rcases hrng with rfl | rfl | rfl | rfl
  all_goals (
    go_enter Try.func80, Try.ntmps80
    go_wp2
    go_region_held3 (fun X => X.cell? ⟨b5, 0, none⟩ = some (cmpF bc bp bf) ∧ X.cell? ⟨b4, 0, none⟩ = some (.pointer (some ⟨b, q, none⟩)) ∧ X.cell? ⟨b, q, none⟩ = some (.int .i16 (j : Int))) (first | exact K1 | exact K2) (first
      | (go_at_fn 47; refine hcall.mono ?_; rintro e W2 ⟨rfl, hC2, hO2⟩; have HD : Hid (Cm w0 g L bc bp bf bm vp W2 ∧ Only [bm] w.drew W2) := ⟨hC2, hO2⟩; clear hC2 hO2; have K2 : W2.cell? ⟨b5, 0, none⟩ = some (cmpF bc bp bf) ∧ W2.cell? ⟨b4, 0, none⟩ = some (.pointer (some ⟨b, q, none⟩)) ∧ W2.cell? ⟨b, q, none⟩ = some (.int .i16 (j : Int)) := by
          have r2 := HR.out.1.only HD.out.1 HD.out.2
          exact ⟨r2.c5, r2.c4, (HR.out.2.1.keep HD.out.1.bel (Nat.le_refl _)).c0⟩))
    go_wp2
    go_ret
    exact ⟨ret_bool HE.out.symm, HR.out.1.only HD.out.1 HD.out.2, HR.out.2.2.trans HD.out.2 (by simp)⟩)
end

end Go.Proofs.Ytpahgmidofacaaa
