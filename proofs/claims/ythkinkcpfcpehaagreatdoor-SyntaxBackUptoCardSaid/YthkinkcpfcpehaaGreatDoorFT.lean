import Derived.Test.YthkinkcpfcpehaaGreatDoorFC
import Derived.Deep.DeepCutAuto
import Derived.Deep.RegionHeld3
namespace Go.Proofs.YthkinkcpfcpehaaGreatDoor
set_option maxRecDepth 100000
set_option maxHeartbeats 4000000
section
open Go.RowKit
theorem hidR {p : Prop} (h : p) : Hid p := h
theorem cell_storeR {W : World} {b : Nat} {vs : List Value} {ty : TypeId} (h : W.heap[b]? = some (.cells vs.toArray ty (0, 0))) {i : Nat} {v : Value} (hv : vs[i]? = some v) : W.cell? ⟨b, i, none⟩ = some v := by
  simp [World.cell?, h, hv]
/-- What a test of terms tells, in any world that grew from here. -/
def SoP (g : Nat) (p : T → Bool) (w : World) (l : List T) : Prop :=
  ∀ a ∈ l, ∀ (sa : Value) (W : World), Below w.heap.size w W → ArgsAt W sa a.args → Calls Tryz.prog g #[tval a sa] W fun e w' => e = .returned (.bool (p a)) ∧ Below W.heap.size W w'
theorem notso_any {p : T → Bool} {w W : World} {l : List T} (hg : SoP 82 p w l) (hb : Below w.heap.size w W) {C : Nat} (hC : W.heap[C]? = some (.cells #[.func (.func 82) #[] #[]] 119 (0, 0))) {a : T} (ha : a ∈ l) {sa : Value} (hs : ArgsAt W sa a.args) :
    Calls Tryz.prog 119 #[tval a sa, .pointer (some ⟨C, 0, none⟩)] W fun e w' => e = .returned (.bool (!p a)) ∧ Below W.heap.size W w' := by
  have hb0 := below_box W (.cells #[.int .i64 a.v, .string a.fn, sa] 24)
  have hsz := hb0.size
  have hc := hg a ha sa (W.alloc (.cells #[.int .i64 a.v, .string a.fn, sa] 24)) (hb.trans (hb0.mono hb.size)) (hs.keep hb0 (Nat.le_refl _))
  have x0 : W.cell? ⟨C, 0, none⟩ = some (.func (.func 82) #[] #[]) := cell_storeR (vs := [_]) hC rfl
  have hCl : C < W.heap.size := (Array.getElem?_eq_some_iff.1 hC).1
  obtain ⟨b, hpb⟩ : ∃ b, p a = b := ⟨_, rfl⟩
  rw [hpb] at hc ⊢
  have H0 := hidR hb0
  clear hg hb hC hs hb0 hpb
  go_enter Tryz.func119, Tryz.ntmps119
  go_wp2_with fail
  refine hc.mono ?_
  rintro e W1 ⟨rfl, h1⟩
  have H1 := hidR h1
  clear hc h1
  go_wp2
  go_ret
  exact ⟨rfl, H0.out.trans (H1.out.mono hsz)⟩
theorem index_any {p : T → Bool} {w W : World} {l : List T} (hg : SoP 82 p w l) (hb : Below w.heap.size w W) {C : Nat} (hC : W.heap[C]? = some (.cells #[.func (.func 82) #[] #[]] 119 (0, 0))) {sl : Value} (hs : ArgsAt W sl l) :
    Calls Tryz.prog 157 #[sl, .func (.func 119) #[] #[.pointer (some ⟨C, 0, none⟩)]] W fun e w' => (∃ r : Int, e = .returned (.int .i64 r) ∧ decide (0 ≤ r) = !l.all p) ∧ Below W.heap.size W w' := by
  obtain ⟨a, c, rfl, hlc, hcm⟩ := hs.slice
  have HS := hidR hs
  have HG := hidR hg
  have HB := hidR hb
  have HC := hidR hC
  have hnl : l.length ≤ 9223372036854775807 := by omega
  obtain ⟨n, hn⟩ : ∃ n, l.length = n := ⟨_, rfl⟩
  clear hs hg hb hC
  rw [hn]
  rw [hn] at HS hlc hnl
  go_enter Tryz.func157, Tryz.ntmps157
  go_wp2
  go_loopw [8] (fun vi wr => ∃ i : Nat, vi = .int .i64 i ∧ i ≤ n ∧ Hid (Below W.heap.size W wr ∧ (l.take i).all p = true)) (fun vi _ => n - (intOf vi).toNat)
  case atStart => exact ⟨0, rfl, Nat.zero_le _, Below.refl _ _, rfl⟩
  case round =>
    obtain ⟨i, rfl, hi, HI⟩ := hrel
    by_cases hlt : i < n
    · have hil : i < l.length := by omega
      have hsr := HS.out.keep HI.out.1 (Nat.le_refl _)
      obtain ⟨b, o, s, rfl, hlt2, y0, y1, y2, hss⟩ := hsr.nth hil
      have hc := notso_any HG.out (HB.out.trans (HI.out.1.mono HB.out.size)) ((HI.out.1.block C (Array.getElem?_eq_some_iff.1 HC.out).1).trans HC.out) (List.getElem_mem hil) hss
      have HT : Hid ((l.take (i + 1)).all p = p l[i]) := by
        show _ = _
        rw [List.take_succ_eq_append_getElem hil, List.all_append, HI.out.2]
        simp
      have HL : Hid (p l[i] = false → l.all p = false) := fun h => by
        rw [Bool.eq_false_iff]
        intro h2
        have := List.all_eq_true.1 h2 _ (List.getElem_mem hil)
        rw [h] at this
        cases this
      obtain ⟨pb, hpb⟩ : ∃ x, p l[i] = x := ⟨_, rfl⟩
      rw [hpb] at hc HT HL
      generalize l[i] = t at y0 y1 y2 hc
      clear hss hsr hlt2 hpb
      cases pb with
      | false =>
        have HL2 : Hid (l.all p = false) := HL.out rfl
        clear HL
        go_wp2_with fail
        refine hc.mono ?_
        rintro e W2 ⟨rfl, h2⟩
        have H2 := hidR h2
        clear hc h2
        go_wp2
        go_ret
        exact ⟨⟨i, rfl, by rw [HL2.out]; simp⟩, HI.out.1.trans (H2.out.mono HI.out.1.size)⟩
      | true =>
        go_wp2_with fail
        refine hc.mono ?_
        rintro e W2 ⟨rfl, h2⟩
        have HN : Hid (Below W.heap.size W W2 ∧ (l.take (i + 1)).all p = true) := ⟨HI.out.1.trans (h2.mono HI.out.1.size), HT.out⟩
        clear hc h2
        go_wp2
        go_roundw
        case rel => exact ⟨i + 1, by go_num, by omega, HN.out⟩
        case measure => simp [intOf]; omega
    · have hin : i = n := by omega
      subst hin
      have HF : Hid (l.all p = true) := by
        have := HI.out.2
        rw [← hn, List.take_length] at this
        exact this
      go_wp2
      go_ret
      exact ⟨⟨-1, rfl, by rw [HF.out]; rfl⟩, HI.out.1⟩
theorem contains_any {p : T → Bool} {w W : World} {l : List T} (hg : SoP 82 p w l) (hb : Below w.heap.size w W) {C : Nat} (hC : W.heap[C]? = some (.cells #[.func (.func 82) #[] #[]] 119 (0, 0))) {sl : Value} (hs : ArgsAt W sl l) :
    Calls Tryz.prog 118 #[sl, .func (.func 119) #[] #[.pointer (some ⟨C, 0, none⟩)]] W fun e w' => e = .returned (.bool (!l.all p)) ∧ Below W.heap.size W w' := by
  have hc := index_any hg hb hC hs
  clear hg hb hC hs
  go_enter Tryz.func118, Tryz.ntmps118
  go_wp2_with fail
  refine hc.mono ?_
  rintro e W2 ⟨⟨r, rfl, hr⟩, h2⟩
  have H2 := hidR h2
  have HR := hidR hr
  clear hc h2 hr
  go_wp2
  go_ret
  exact ⟨ret_bool HR.out, H2.out⟩
theorem all_any {p : T → Bool} {w : World} {l : List T} (hg : SoP 82 p w l) {sl : Value} (hs : ArgsAt w sl l) :
    Calls Tryz.prog 81 #[sl, .func (.func 82) #[] #[]] w fun e w' => e = .returned (.bool (l.all p)) ∧ Below w.heap.size w w' := by
  have hb0 := below_box w (.cells #[.func (.func 82) #[] #[]] 119)
  have hz := (MapKept.heap_alloc w (.cells #[.func (.func 82) #[] #[]] 119)).1
  have hc := contains_any (p := p) hg hb0 hz (hs.keep hb0 (Nat.le_refl _))
  have hsz := hb0.size
  have H0 := hidR hb0
  obtain ⟨a, c, rfl, _, _⟩ := hs.slice
  obtain ⟨b, hpb⟩ : ∃ b, l.all p = b := ⟨_, rfl⟩
  rw [hpb] at hc ⊢
  clear hg hb0 hz hs hpb
  go_enter Tryz.func81, Tryz.ntmps81
  go_wp2_with fail
  refine hc.mono ?_
  rintro e W2 ⟨rfl, h2⟩
  have H2 := hidR h2
  clear hc h2
  go_wp2
  go_ret
  exact ⟨by cases b <;> rfl, H0.out.trans (H2.out.mono hsz)⟩
theorem wideT_eq (t : T) : wideT t = (decide (16 < t.args.length) || wideT.wides t.args) := by cases t; rw [wideT]; rfl
theorem wides_all (l : List T) : (l.all fun a => !wideT a) = !wideT.wides l := by
  induction l with
  | nil => rfl
  | cons a r ih => rw [List.all_cons, ih, wideT.wides]; cases wideT a <;> rfl
/-- Has each function at most 16 arguments? -/
theorem narrow_any (t : T) : ∀ (sl : Value) (w : World), ArgsAt w sl t.args → Calls Tryz.prog 82 #[tval t sl] w fun e w' => e = .returned (.bool (!wideT t)) ∧ Below w.heap.size w w' := by
  refine T.ind (P := fun t => ∀ (sl : Value) (w : World), ArgsAt w sl t.args → Calls Tryz.prog 82 #[tval t sl] w fun e w' => e = .returned (.bool (!wideT t)) ∧ Below w.heap.size w w') (fun t ih => ?_) t
  intro sl w hs
  have hb0 := below_box w (.cells #[.int .i64 t.v, .string t.fn, sl] 24)
  have hc := all_any (p := fun a => !wideT a) (l := t.args) (w := w.alloc (.cells #[.int .i64 t.v, .string t.fn, sl] 24)) (fun a ha sa W _ hsa => ih a ha sa W hsa) (hs.keep hb0 (Nat.le_refl _))
  rw [wides_all] at hc
  have hsz := hb0.size
  have H0 := hidR hb0
  obtain ⟨a, c, rfl, _, _⟩ := hs.slice
  have HE : Hid (wideT t = (decide (16 < t.args.length) || wideT.wides t.args)) := wideT_eq t
  obtain ⟨b, hpb⟩ : ∃ b, wideT.wides t.args = b := ⟨_, rfl⟩
  rw [hpb] at hc HE
  obtain ⟨n, hn⟩ : ∃ n, t.args.length = n := ⟨_, rfl⟩
  rw [hn] at hc HE ⊢
  clear hb0 hs ih hpb hn
  by_cases h16 : n ≤ 16
  · have h1 : ((n : Int) ≤ 16) := by omega
    have HF : Hid (wideT t = b) := by show _ = _; rw [HE.out, decide_eq_false (by omega)]; rfl
    clear HE
    go_enter Tryz.func82, Tryz.ntmps82
    go_wp2_with fail
    refine hc.mono ?_
    rintro e W2 ⟨rfl, h2⟩
    have H2 := hidR h2
    clear hc h2
    go_wp2
    go_ret
    exact ⟨by rw [HF.out]; cases b <;> rfl, below_box w _ |>.trans (H2.out.mono (below_box w _).size)⟩
  · have h1 : ¬ ((n : Int) ≤ 16) := by omega
    have HF : Hid (wideT t = true) := by show _ = _; rw [HE.out, decide_eq_true (by omega)]; rfl
    clear HE
    go_enter Tryz.func82, Tryz.ntmps82
    go_wp2
    go_ret
    exact ⟨by rw [HF.out]; rfl, below_box w _⟩
end
section
open Go.RowKit
theorem ArgsP.grow {P : Nat → Prop} {W W' : World} {sl : Value} {l : List T} (h : ArgsP P W sl l) (hb : Below W.heap.size W W') : ArgsP P W' sl l := h.keep hb.size fun k hk hl => ⟨hk, hb.block k hl⟩
theorem KidsP.grow {P : Nat → Prop} {W W' : World} {v : Value} {l : List Fm} (h : KidsP P W v l) (hb : Below W.heap.size W W') : KidsP P W' v l := h.keep hb.size fun k hk hl => ⟨hk, hb.block k hl⟩
theorem FmP.grow {P : Nat → Prop} {W W' : World} {f : Fm} {sl sr sk : Value} (h : FmP P W f sl sr sk) (hb : Below W.heap.size W W') : FmP P W' f sl sr sk := h.keep hb.size fun k hk hl => ⟨hk, hb.block k hl⟩
theorem KidsP.nth {P : Nat → Prop} {W : World} {a : Option Addr} {n c : Nat} {l : List Fm} (h : KidsP P W (.slice a n c) l) {i : Nat} (hi : i < l.length) :
    ∃ b o sl sr sk, a = some ⟨b, o, none⟩ ∧ P b ∧ b < W.heap.size ∧ (W.cell? ⟨b, o + i * 9, none⟩ = some (.int .i64 l[i].k) ∧ W.cell? ⟨b, o + i * 9 + 1, none⟩ = some (.string l[i].nm) ∧
        (W.cell? ⟨b, o + i * 9 + 2, none⟩ = some (.int .i64 l[i].l.v) ∧ W.cell? ⟨b, o + i * 9 + 3, none⟩ = some (.string l[i].l.fn) ∧ W.cell? ⟨b, o + i * 9 + 4, none⟩ = some sl) ∧
        (W.cell? ⟨b, o + i * 9 + 5, none⟩ = some (.int .i64 l[i].r.v) ∧ W.cell? ⟨b, o + i * 9 + 6, none⟩ = some (.string l[i].r.fn) ∧ W.cell? ⟨b, o + i * 9 + 7, none⟩ = some sr) ∧ W.cell? ⟨b, o + i * 9 + 8, none⟩ = some sk) ∧ FmP P W l[i] sl sr sk := by
  cases h with
  | mk a c l sl sr sk hc hm at0 subL subR subK =>
    obtain ⟨b, o, hP, hlt, rfl, hcell⟩ := at0 (by omega)
    exact ⟨b, o, sl i, sr i, sk i, rfl, hP, hlt, hcell i hi, subL i hi, subR i hi, subK i hi⟩
theorem wides_any (l : List Fm) : Fm.wide.wides l = l.any Fm.wide := by
  induction l with
  | nil => rfl
  | cons a r ih => rw [Fm.wide.wides, ih]; rfl
theorem findex_any {P : Nat → Prop} {W : World} {l : List Fm} (hg : ∀ a ∈ l, ∀ (sl sr sk : Value) (X : World), FmP P X a sl sr sk → Calls Tryz.prog 43 #[fval a sl sr sk] X fun e w' => e = .returned (.bool a.wide) ∧ Below X.heap.size X w') {sk : Value} (hs : KidsP P W sk l) :
    Calls Tryz.prog 120 #[sk, .func (.func 43) #[] #[]] W fun e w' => (∃ r : Int, e = .returned (.int .i64 r) ∧ decide (0 ≤ r) = l.any Fm.wide) ∧ Below W.heap.size W w' := by
  obtain ⟨a, c, rfl, hlc, hcm⟩ := hs.slice
  have hcm' : c ≤ 9223372036854775807 := by unfold maxLen at hcm; omega
  have HS := hidR hs
  have HG := hidR hg
  have hnl : l.length ≤ 9223372036854775807 := by omega
  obtain ⟨n, hn⟩ : ∃ n, l.length = n := ⟨_, rfl⟩
  clear hs hg hcm
  rw [hn]
  rw [hn] at HS hlc hnl
  go_enter Tryz.func120, Tryz.ntmps120
  go_wp2
  go_loopw [8] (fun vi wr => ∃ i : Nat, vi = .int .i64 i ∧ i ≤ n ∧ Hid (Below W.heap.size W wr ∧ (l.take i).any Fm.wide = false)) (fun vi _ => n - (intOf vi).toNat)
  case atStart => exact ⟨0, rfl, Nat.zero_le _, Below.refl _ _, rfl⟩
  case round =>
    obtain ⟨i, rfl, hi, HI⟩ := hrel
    by_cases hlt : i < n
    · have hil : i < l.length := by omega
      have hsr := HS.out.grow HI.out.1
      obtain ⟨b, o, sl, sr, sk, rfl, _, hlt2, ⟨y0, y1, ⟨y2, y3, y4⟩, ⟨y5, y6, y7⟩, y8⟩, hss⟩ := hsr.nth hil
      have hc := HG.out l[i] (List.getElem_mem hil) sl sr sk wr hss
      have HT : Hid ((l.take (i + 1)).any Fm.wide = l[i].wide) := by
        show _ = _
        rw [List.take_succ_eq_append_getElem hil, List.any_append, HI.out.2]
        simp
      have HL : Hid (l[i].wide = true → l.any Fm.wide = true) := fun h => List.any_eq_true.2 ⟨_, List.getElem_mem hil, h⟩
      obtain ⟨pb, hpb⟩ : ∃ x, l[i].wide = x := ⟨_, rfl⟩
      rw [hpb] at hc HT HL
      generalize l[i] = t at y0 y1 y2 y3 y5 y6 hc
      clear hss hsr hlt2 hpb
      cases pb with
      | true =>
        have HL2 : Hid (l.any Fm.wide = true) := HL.out rfl
        clear HL
        go_wp2_with fail
        refine hc.mono ?_
        rintro e W2 ⟨rfl, h2⟩
        have H2 := hidR h2
        clear hc h2
        go_wp2
        go_ret
        exact ⟨⟨i, rfl, by rw [HL2.out]; simp⟩, HI.out.1.trans (H2.out.mono HI.out.1.size)⟩
      | false =>
        go_wp2_with fail
        refine hc.mono ?_
        rintro e W2 ⟨rfl, h2⟩
        have HN : Hid (Below W.heap.size W W2 ∧ (l.take (i + 1)).any Fm.wide = false) := ⟨HI.out.1.trans (h2.mono HI.out.1.size), HT.out⟩
        clear hc h2
        go_wp2
        go_roundw
        case rel => exact ⟨i + 1, by go_num, by omega, HN.out⟩
        case measure => simp [intOf]; omega
    · have hin : i = n := by omega
      subst hin
      have HF : Hid (l.any Fm.wide = false) := by
        have := HI.out.2
        rw [← hn, List.take_length] at this
        exact this
      go_wp2
      go_ret
      exact ⟨⟨-1, rfl, by rw [HF.out]; rfl⟩, HI.out.1⟩
theorem fcontains_any {P : Nat → Prop} {W : World} {l : List Fm} (hg : ∀ a ∈ l, ∀ (sl sr sk : Value) (X : World), FmP P X a sl sr sk → Calls Tryz.prog 43 #[fval a sl sr sk] X fun e w' => e = .returned (.bool a.wide) ∧ Below X.heap.size X w') {sk : Value} (hs : KidsP P W sk l) :
    Calls Tryz.prog 83 #[sk, .func (.func 43) #[] #[]] W fun e w' => e = .returned (.bool (l.any Fm.wide)) ∧ Below W.heap.size W w' := by
  have hc := findex_any hg hs
  clear hg hs
  go_enter Tryz.func83, Tryz.ntmps83
  go_wp2_with fail
  refine hc.mono ?_
  rintro e W2 ⟨⟨r, rfl, hr⟩, h2⟩
  have H2 := hidR h2
  have HR := hidR hr
  clear hc h2 hr
  go_wp2
  go_ret
  exact ⟨ret_bool HR.out, H2.out⟩
theorem wide_eq (f : Fm) : f.wide = ((wideT f.l || wideT f.r) || f.kids.any Fm.wide) := by cases f; rw [Fm.wide, wides_any]; rfl
theorem pair_at {w : World} {l r : T} {sl sr : Value} (hl : ArgsAt w sl l.args) (hr : ArgsAt w sr r.args) : ArgsAt (w.alloc (.cells #[.int .i64 l.v, .string l.fn, sl, .int .i64 r.v, .string r.fn, sr] 24)) (.slice (some ⟨w.heap.size, 0, none⟩) 2 2) [l, r] := by
  have hb := below_box w (.cells #[.int .i64 l.v, .string l.fn, sl, .int .i64 r.v, .string r.fn, sr] 24)
  have hz := (MapKept.heap_alloc w (.cells #[.int .i64 l.v, .string l.fn, sl, .int .i64 r.v, .string r.fn, sr] 24)).1
  have key : ∀ (i : Nat) (v : Value), [Value.int .i64 l.v, .string l.fn, sl, .int .i64 r.v, .string r.fn, sr][i]? = some v → (w.alloc (.cells #[.int .i64 l.v, .string l.fn, sl, .int .i64 r.v, .string r.fn, sr] 24)).cell? ⟨w.heap.size, i, none⟩ = some v := fun i v hv => cell_storeR (vs := [_, _, _, _, _, _]) hz hv
  refine ArgsAt.mk (some ⟨w.heap.size, 0, none⟩) 2 [l, r] (fun i => if i = 0 then sl else sr) (by simp) (by decide) (fun _ => ⟨w.heap.size, 0, (Array.getElem?_eq_some_iff.1 hz).1, rfl, fun i hi => ?_⟩) (fun i hi => ?_)
  · have : i = 0 ∨ i = 1 := by simp at hi; omega
    rcases this with rfl | rfl
    · exact ⟨key 0 _ rfl, key 1 _ rfl, key 2 _ rfl⟩
    · exact ⟨key 3 _ rfl, key 4 _ rfl, key 5 _ rfl⟩
  · have : i = 0 ∨ i = 1 := by simp at hi; omega
    rcases this with rfl | rfl
    · exact hl.keep hb (Nat.le_refl _)
    · exact hr.keep hb (Nat.le_refl _)
/-- Has a function of it too many arguments? -/
theorem wide_any (f : Fm) : ∀ (P : Nat → Prop) (sl sr sk : Value) (w : World), FmP P w f sl sr sk → Calls Tryz.prog 43 #[fval f sl sr sk] w fun e w' => e = .returned (.bool f.wide) ∧ Below w.heap.size w w' := by
  refine Fm.ind (P := fun f => ∀ (P : Nat → Prop) (sl sr sk : Value) (w : World), FmP P w f sl sr sk → Calls Tryz.prog 43 #[fval f sl sr sk] w fun e w' => e = .returned (.bool f.wide) ∧ Below w.heap.size w w') (fun f ih => ?_) f
  intro P sl sr sk w h
  have hb0 := below_box w (.cells #[.int .i64 f.k, .string f.nm, .int .i64 f.l.v, .string f.l.fn, sl, .int .i64 f.r.v, .string f.r.fn, sr, sk] 27)
  have h0 := h.grow hb0
  have hs0 := hb0.size
  obtain ⟨W0, hW0⟩ : ∃ X, w.alloc (.cells #[.int .i64 f.k, .string f.nm, .int .i64 f.l.v, .string f.l.fn, sl, .int .i64 f.r.v, .string f.r.fn, sr, sk] 27) = X := ⟨_, rfl⟩
  have hz0 := (MapKept.heap_alloc w (.cells #[.int .i64 f.k, .string f.nm, .int .i64 f.l.v, .string f.l.fn, sl, .int .i64 f.r.v, .string f.r.fn, sr, sk] 27)).1
  obtain ⟨R, hR⟩ : ∃ R, w.heap.size = R := ⟨_, rfl⟩
  rw [hW0] at h0 hb0 hz0 hs0
  have hpa := pair_at h0.l.args h0.r.args
  have hb1 := below_box W0 (.cells #[.int .i64 f.l.v, .string f.l.fn, sl, .int .i64 f.r.v, .string f.r.fn, sr] 24)
  have hs1 := hb1.size
  have hc := all_any (p := fun a => !wideT a) (fun a _ sa W _ hsa => narrow_any a sa W hsa) hpa
  rw [wides_all] at hc
  have hw2 : wideT.wides [f.l, f.r] = (wideT f.l || wideT f.r) := by simp [wideT.wides]
  rw [hw2] at hc
  have HE := hidR (wide_eq f)
  obtain ⟨b, hpb⟩ : ∃ b, (wideT f.l || wideT f.r) = b := ⟨_, rfl⟩
  rw [hpb] at hc HE
  have H0 := hidR (And.intro hb0 (And.intro hb1 (And.intro h0 ih)))
  have HZ := hidR hz0
  obtain ⟨la, lc, rfl, _, _⟩ := h0.l.slice'
  obtain ⟨ra, rc, rfl, _, _⟩ := h0.r.slice'
  obtain ⟨ka, kc', rfl, _, _⟩ := h0.k.slice
  rw [hR] at hz0
  have z2 := cell_storeR (vs := [_, _, _, _, _, _, _, _, _]) (i := 2) hz0 rfl
  have z3 := cell_storeR (vs := [_, _, _, _, _, _, _, _, _]) (i := 3) hz0 rfl
  have z4 := cell_storeR (vs := [_, _, _, _, _, _, _, _, _]) (i := 4) hz0 rfl
  have z5 := cell_storeR (vs := [_, _, _, _, _, _, _, _, _]) (i := 5) hz0 rfl
  have z6 := cell_storeR (vs := [_, _, _, _, _, _, _, _, _]) (i := 6) hz0 rfl
  have z7 := cell_storeR (vs := [_, _, _, _, _, _, _, _, _]) (i := 7) hz0 rfl
  clear h h0 hb0 hb1 hz0 hpa hw2 hpb ih
  go_enter Tryz.func43, Tryz.ntmps43
  go_upto_region 1 with fail
  try simp only [hR]
  try rw [hW0]
  clear hW0
  cases b with
  | true =>
    go_wp2_with fail
    refine hc.mono ?_
    rintro e W2 ⟨rfl, h2⟩
    have H2 := hidR (h2.mono hs1)
    clear hc h2
    go_wp2
    go_ret
    exact ⟨by rw [HE.out]; rfl, H0.out.1.trans (((H0.out.2.1).trans H2.out).mono hs0)⟩
  | false =>
    go_wp2_with fail
    refine hc.mono ?_
    rintro e W2 ⟨rfl, h2⟩
    have H2 := hidR ((H0.out.2.1).trans (h2.mono hs1))
    have x8 : W2.cell? ⟨R, 8, none⟩ = some (.slice ka f.kids.length kc') := by
      rw [← hR]
      exact cell_storeR (vs := [_, _, _, _, _, _, _, _, _]) (i := 8) ((H2.out.block _ (Array.getElem?_eq_some_iff.1 HZ.out).1).trans HZ.out) rfl
    have hk := fcontains_any (P := P) (fun a ha sl sr sk X hX => H0.out.2.2.2 a ha P sl sr sk X hX) (H0.out.2.2.1.grow H2.out).k
    clear hc h2 z2 z3 z4 z5 z6 z7
    go_wp2_with fail
    refine hk.mono ?_
    rintro e W3 ⟨rfl, h3⟩
    have H3 := hidR h3
    clear hk h3
    go_wp2
    go_ret
    exact ⟨by rw [HE.out]; rfl, H0.out.1.trans ((H2.out.trans (H3.out.mono H2.out.size)).mono hs0)⟩
end
section
open Go.RowKit
/-- Too wide or too great: 3; too deep: 22. -/
def limE (b : Bool) (n d : Int) : Int := if b = true ∨ 4000 < n then 3 else if 60 < d then 22 else 0
theorem limited_any (b : Bool) (n d : Int) (w : World) : Calls Tryz.prog 42 #[.bool b, .int .i64 n, .int .i64 d] w fun e w' => e = .returned (.int .i64 (limE b n d)) ∧ w' = w := by
  cases b with
  | true =>
    go_enter Tryz.func42, Tryz.ntmps42
    go_wp2
    go_ret
    exact ⟨ret_i64 (by simp [limE]), rfl⟩
  | false =>
    by_cases h1 : 4000 < n
    · have HF : Hid (limE false n d = 3) := by show _ = _; rw [limE, if_pos (.inr h1)]
      go_enter Tryz.func42, Tryz.ntmps42
      go_wp2
      go_ret
      exact ⟨ret_i64 HF.out.symm, rfl⟩
    · by_cases h2 : 60 < d
      · have HF : Hid (limE false n d = 22) := by show _ = _; rw [limE, if_neg (by simp [h1]), if_pos h2]
        go_enter Tryz.func42, Tryz.ntmps42
        go_wp2
        go_ret
        exact ⟨ret_i64 HF.out.symm, rfl⟩
      · have HF : Hid (limE false n d = 0) := by show _ = _; rw [limE, if_neg (by simp [h1]), if_neg h2]
        go_enter Tryz.func42, Tryz.ntmps42
        go_wp2
        go_ret
        exact ⟨ret_i64 HF.out.symm, rfl⟩
/-- The same, of a piece. -/
theorem plimited_any {p : Nat} {b : Bool} {n d : Int} {w : World} (h9 : w.cell? ⟨p, 9, none⟩ = some (.bool b)) (h10 : w.cell? ⟨p, 10, none⟩ = some (.int .i64 n)) (h11 : w.cell? ⟨p, 11, none⟩ = some (.int .i64 d)) :
    Calls Tryz.prog 31 #[.pointer (some ⟨p, 0, none⟩)] w fun e w' => e = .returned (.int .i64 (limE b n d)) ∧ Below w.heap.size w w' := by
  have hbX : Hid (Below w.heap.size w w.drew) := (Below.refl _ w).drew
  have hc := limited_any b n d w.drew
  go_enter Tryz.func31, Tryz.ntmps31
  go_wp2
  go_region_held3 (fun X => X.cell? ⟨p, 9, none⟩ = some (.bool b) ∧ X.cell? ⟨p, 10, none⟩ = some (.int .i64 n) ∧ X.cell? ⟨p, 11, none⟩ = some (.int .i64 d)) (first | exact ⟨h9, h10, h11⟩) (first | (go_at_call 42; refine hc.mono ?_; rintro e w' ⟨rfl, rfl⟩))
  go_wp2
  go_ret
  exact ⟨rfl, hbX.out⟩
end
