/-
  reach, to its end; byHeads.
-/
import Derived.Test.YtpahgmidofacaaaWG
namespace Go.Proofs.Ytpahgmidofacaaa
open Go.RowKit Go.Maps

section
variable {g : Sg} {ρ : ByteArray × Nat → Nat} {ν : Int → Nat} {nw : Nat} {L : List T} {w0 : World} {bc bp bf bm : Nat} {vp : Value} {s : Int}

set_option maxRecDepth 100000 in
set_option maxHeartbeats 2000000 in
theorem indexR_any (hOk : CmpOk w0 g L bc bp bf bm vp s) {j : Nat} (hj : j < L.length) {b q : Nat} {sA : Value} {ar : List Nat} {sV : Value} {ws : List Nat} (hp : PtAt ρ ν nw L w0 j L[j] b q sA ar sV ws)
    {b4 b5 : Nat} (xs : List Nat) (ts : List T) (v : Value) (hx : Idx L xs ts) (hr : RowAt fi w0 v xs) (hs : ∀ t ∈ ts, t.size + L[j].size ≤ s) (w : World) (hR : Rb w0 g L bc bp bf bm vp b4 b5 b q w) :
    Calls Try.prog 93 #[v, .func (.func 80) #[] #[.pointer (some ⟨b5, 0, none⟩), .pointer (some ⟨b4, 0, none⟩)]] w fun e W' => e = .returned (.int .i64 (firstI (rqL g L L[j]) xs 0)) ∧ Rb w0 g L bc bp bf bm vp b4 b5 b q W' ∧ Only [bm] w W' := by
  obtain ⟨a, c, rfl, hc, hm⟩ := hr.slice
  have eg := eg80
  have HLn : Hid (xs.length = ts.length) := hx.len
  have HH : Hid (CmpOk w0 g L bc bp bf bm vp s ∧ PtAt ρ ν nw L w0 j L[j] b q sA ar sV ws ∧ Idx L xs ts ∧ RowAt fi w0 (.slice a xs.length c) xs ∧ (∀ t ∈ ts, t.size + L[j].size ≤ s) ∧ Rb w0 g L bc bp bf bm vp b4 b5 b q w) := ⟨hOk, hp, hx, hr, hs, hR⟩
  clear hOk hp hx hr hs hR
  go_enter Try.func93, Try.ntmps93
  go_wp2
  go_loopw [8] (fun vi wr => ∃ i : Nat, vi = .int .i64 i ∧ i ≤ xs.length ∧ Hid ((∀ k (hk : k < xs.length), k < i → rqL g L L[j] xs[k] = false) ∧ Rb w0 g L bc bp bf bm vp b4 b5 b q wr ∧ Only [bm] w wr)) (fun vi _ => xs.length - (intOf vi).toNat)
  case atStart => exact ⟨0, rfl, Nat.zero_le _, fun j _ hj => absurd hj (by omega), HH.out.2.2.2.2.2, Only.refl _ _⟩
  case round =>
    obtain ⟨i, rfl, hi, HI⟩ := hrel
    by_cases hlt : i < xs.length
    · have hlt' : i < ts.length := by have := HLn.out; omega
      obtain ⟨b', o', rfl, hbl, hcell⟩ := (HH.out.2.2.2.1.keep HI.out.2.1.cm.bel (Nat.le_refl _)).nth hlt
      obtain ⟨hl, hg⟩ := HH.out.2.2.1.get hlt hlt'
      have hcall := rch1_any HH.out.1 hj HH.out.2.1 (b4 := b4) (b5 := b5) hl (by rw [hg]; exact HH.out.2.2.2.2.1 _ (List.getElem_mem hlt')) wr HI.out.2.1
      have HQ : Hid (rqL g L L[j] xs[i] = rq g L[xs[i]] L[j]) := by
        show _ = _
        unfold rqL
        rw [List.getElem?_eq_getElem hl]
      clear hg
      cases hP : rq g L[xs[i]] L[j]
      · rw [hP] at hcall
        have HN : Hid (∀ k (hk : k < xs.length), k < i + 1 → rqL g L L[j] xs[k] = false) := fun k hk hki => by
          by_cases ek : k = i
          · subst ek; exact HQ.out.trans hP
          · exact HI.out.1 k hk (by omega)
        clear hP
        go_wp2_with (first | (go_at_fn 80; refine hcall.mono ?_; rintro e W2 ⟨rfl, hC2, hO2⟩; have HD : Hid (Rb w0 g L bc bp bf bm vp b4 b5 b q W2 ∧ Only [bm] wr W2) := ⟨hC2, hO2⟩; clear hC2 hO2))
        go_roundw
        case rel => exact ⟨i + 1, by go_num, by omega, HN.out, HD.out.1, HI.out.2.2.trans HD.out.2 (by simp)⟩
        case measure => simp [intOf]; omega
      · rw [hP] at hcall
        have HG : Hid (firstI (rqL g L L[j]) xs 0 = i) := by
          show _ = _
          rw [firstI_drop (rqL g L L[j]) xs i hi HI.out.1, List.drop_eq_getElem_cons hlt, firstI, HQ.out, hP]
          rfl
        clear hP
        go_wp2_with (first | (go_at_fn 80; refine hcall.mono ?_; rintro e W2 ⟨rfl, hC2, hO2⟩; have HD : Hid (Rb w0 g L bc bp bf bm vp b4 b5 b q W2 ∧ Only [bm] wr W2) := ⟨hC2, hO2⟩; clear hC2 hO2))
        go_ret
        exact ⟨ret_i64 HG.out.symm, HD.out.1, HI.out.2.2.trans HD.out.2 (by simp)⟩
    · have HG : Hid (firstI (rqL g L L[j]) xs 0 = -1) := by
        show _ = _
        rw [firstI_drop (rqL g L L[j]) xs i hi HI.out.1, show i = xs.length by omega, List.drop_length]
        rfl
      go_wp2
      go_ret
      exact ⟨ret_i64 HG.out.symm, HI.out.2.1, HI.out.2.2⟩

set_option maxRecDepth 100000 in
set_option maxHeartbeats 2000000 in
theorem containsR_any (hOk : CmpOk w0 g L bc bp bf bm vp s) {j : Nat} (hj : j < L.length) {b q : Nat} {sA : Value} {ar : List Nat} {sV : Value} {ws : List Nat} (hp : PtAt ρ ν nw L w0 j L[j] b q sA ar sV ws)
    {b4 b5 : Nat} (xs : List Nat) (ts : List T) (v : Value) (hx : Idx L xs ts) (hr : RowAt fi w0 v xs) (hs : ∀ t ∈ ts, t.size + L[j].size ≤ s) (w : World) (hR : Rb w0 g L bc bp bf bm vp b4 b5 b q w) :
    Calls Try.prog 79 #[v, .func (.func 80) #[] #[.pointer (some ⟨b5, 0, none⟩), .pointer (some ⟨b4, 0, none⟩)]] w fun e W' => e = .returned (.bool (xs.any (rqL g L L[j]))) ∧ Rb w0 g L bc bp bf bm vp b4 b5 b q W' ∧ Only [bm] w W' := by
  have hi := indexR_any hOk hj hp xs ts v hx hr hs w hR
  obtain ⟨a, c, rfl, _⟩ := hr.slice
  have HE : Hid (decide (firstI (rqL g L L[j]) xs 0 ≥ 0) = xs.any (rqL g L L[j])) := firstI_any (rqL g L L[j]) xs 0
  generalize firstI (rqL g L L[j]) xs 0 = z at *
  clear hr hx hs hR hp hOk
  go_enter Try.func79, Try.ntmps79
  go_wp2_with (first | (go_at_call 93; refine hi.mono ?_; rintro e w3 ⟨rfl, hD⟩; have HD : Hid (Rb w0 g L bc bp bf bm vp b4 b5 b q w3 ∧ Only [bm] w w3) := hD; clear hD))
  go_ret
  exact ⟨ret_bool (by rw [← HE.out]), HD.out⟩

theorem box1_cell (w : World) (x : Value) (ty : TypeId) : (w.alloc (.cells #[x] ty)).cell? ⟨w.heap.size, 0, none⟩ = some x := by
  have h : (w.alloc (.cells #[x] ty)).heap[w.heap.size]? = some (.cells [x].toArray ty (0, 0)) := (MapKept.heap_alloc w (.cells #[x] ty)).1
  rw [cell_of_row _ _ _ _ ty (0, 0) h]
  rfl

set_option maxRecDepth 100000 in
set_option maxHeartbeats 2000000 in
theorem reach_any (hOk : CmpOk w0 g L bc bp bf bm vp s) {j : Nat} (hj : j < L.length) {b q : Nat} {sA : Value} {ar : List Nat} {sV : Value} {ws : List Nat} (hp : PtAt ρ ν nw L w0 j L[j] b q sA ar sV ws)
    (xs : List Nat) (ts : List T) (v : Value) (hx : Idx L xs ts) (hr : RowAt fi w0 v xs) (hs : ∀ t ∈ ts, t.size + L[j].size ≤ s) (w : World) (hC : Cm w0 g L bc bp bf bm vp w) :
    Calls Try.prog 72 #[v, .pointer (some ⟨b, q, none⟩), cmpF bc bp bf] w fun e W' => e = .returned (.bool (xs.any (rqL g L L[j]))) ∧ Cm w0 g L bc bp bf bm vp W' ∧ Only [bm] w W' := by
  have hb := below_box2 w (.cells #[.pointer (some ⟨b, q, none⟩)] 109) (.cells #[cmpF bc bp bf] 67)
  have hR : Rb w0 g L bc bp bf bm vp w.heap.size (w.heap.size + 1) b q ((w.alloc (.cells #[.pointer (some ⟨b, q, none⟩)] 109)).alloc (.cells #[cmpF bc bp bf] 67)) := by
    have c4 := box1_cell w (.pointer (some ⟨b, q, none⟩)) 109
    have c5 := box1_cell (w.alloc (.cells #[.pointer (some ⟨b, q, none⟩)] 109)) (cmpF bc bp bf) 67
    rw [World.size_alloc] at c5
    obtain ⟨m, K, h1, h2⟩ := hC.mp
    have := h1.lt
    exact ⟨hC.only hb, c5, kc (below_box _ _) (by simp) c4, ⟨by simp only [World.size_alloc]; omega, by simp only [World.size_alloc]; omega⟩, ⟨by omega, by omega⟩⟩
  have hcall := containsR_any hOk hj hp xs ts v hx hr hs _ hR
  obtain ⟨a, c, rfl, _⟩ := hr.slice
  have HB : Hid (Only [bm] w ((w.alloc (.cells #[.pointer (some ⟨b, q, none⟩)] 109)).alloc (.cells #[cmpF bc bp bf] 67))) := Only.of_below hb
  generalize xs.any (rqL g L L[j]) = z at *
  clear hr hx hs hR hp hOk hC hb
  go_enter Try.func72, Try.ntmps72
  go_wp2_with (first | (go_at_call 79; refine hcall.mono ?_; rintro e w3 ⟨rfl, hD⟩; have HD : Hid (Rb w0 g L bc bp bf bm vp w.heap.size (w.heap.size + 1) b q w3 ∧ Only [bm] ((w.alloc (.cells #[.pointer (some ⟨b, q, none⟩)] 109)).alloc (.cells #[cmpF bc bp bf] 67)) w3) := hD; clear hD))
  go_ret
  exact ⟨rfl, HD.out.1.cm, HB.out.trans HD.out.2 (by simp)⟩
end

end Go.Proofs.Ytpahgmidofacaaa
