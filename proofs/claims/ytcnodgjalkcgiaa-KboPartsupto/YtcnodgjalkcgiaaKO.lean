/-
  The scales: arguments.
-/
import Derived.Test.YtcnodgjalkcgiaaKN
import Derived.Test.YtcnodgjalkcgiaaR
import Derived.WalkMore
namespace Go.Proofs.Ytcnodgjalkcgiaa
open Go.RowKit Go.Maps

/-- What x has more than y. -/
def cdif (x y : T) : Int → Int := fun v => ((x.vs.count v : Nat) : Int) - ((y.vs.count v : Nat) : Int)
/-- What the terms l have more than the terms m. -/
def cdifs (l m : List T) : Int → Int := fun v => (((l.map T.vs).flatten.count v : Nat) : Int) - (((m.map T.vs).flatten.count v : Nat) : Int)
def wdifs (g : Sg) (l m : List T) : Int := (l.map (T.wt g)).sum - (m.map (T.wt g)).sum

open Classical in
/-- What the first ones that are not the same come to. -/
noncomputable def argsV (g : Sg) : List T → List T → Int
  | a :: r, b :: s => if a = b then argsV g r s else kcmp g a b
  | _, _ => 0

theorem argsV_same (g : Sg) : ∀ l : List T, argsV g l l = 0
  | [] => rfl
  | a :: r => by simp [argsV, argsV_same g r]
theorem argsV_at (g : Sg) : ∀ (l m : List T) (i : Nat) (hi : i < l.length) (hj : i < m.length), l.take i = m.take i → l[i] ≠ m[i] → argsV g l m = kcmp g l[i] m[i]
  | [], _, i, hi, _, _, _ => absurd hi (by simp)
  | _ :: _, [], i, _, hj, _, _ => absurd hj (by simp)
  | a :: r, b :: s, 0, _, _, _, h => by
    have h' : a ≠ b := h
    simp [argsV, h']
  | a :: r, b :: s, i + 1, hi, hj, he, h => by
    simp only [List.take_succ_cons, List.cons.injEq] at he
    have h' : r[i]'(by simpa using hi) ≠ s[i]'(by simpa using hj) := h
    simp only [argsV, he.1, if_true, List.getElem_cons_succ]
    exact argsV_at g r s i (by simpa using hi) (by simpa using hj) he.2 h'

/-- What compare does, the scales being level. -/
def CmpAt (W0 : World) (g : Sg) (p bp bc : Nat) (vn vw : Value) (x : T) : Prop :=
  ∀ (y : T) (sx sy : Value) (L : Nat) (W : World), Sc W0 g p bp bc vn vw L 0 (fun _ => 0) W → ArgsP (Off p bc) W sx x.args → ArgsP (Off p bc) W sy y.args → x.shape = true → y.shape = true → L + 2 * x.size.toNat + 2 * y.size.toNat ≤ 100000 →
    Calls Try.prog 33 #[.pointer (some ⟨p, 0, none⟩), tval x sx, tval y sy] W fun e W' => e = .returned (.int .i64 (kcmp g x y)) ∧ Sc W0 g p bp bc vn vw (L + 2 * x.size.toNat + 2 * y.size.toNat) (x.wt g - y.wt g) (cdif x y) W' ∧ Only [p, bc] W W'

theorem szs_drop (l : List T) (j : Nat) : szs l = szs (l.take j) + szs (l.drop j) := by
  unfold szs
  rw [← List.sum_append, ← List.map_append, List.take_append_drop]

theorem wdifs_split (g : Sg) (l m : List T) (j : Nat) : wadd g (wadd g (wdifs g (l.take j) (m.take j)) 1 (l.drop j)) (-1) (m.drop j) = wdifs g l m := by
  have h : ∀ l : List T, (l.map (T.wt g)).sum = ((l.take j).map (T.wt g)).sum + ((l.drop j).map (T.wt g)).sum := fun l => by
    rw [← List.sum_append, ← List.map_append, List.take_append_drop]
  unfold wadd wdifs
  rw [h l, h m]
  omega
theorem cdifs_split (l m : List T) (j : Nat) : cadd (cadd (cdifs (l.take j) (m.take j)) 1 (l.drop j)) (-1) (m.drop j) = cdifs l m := by
  funext v
  have h : ∀ l : List T, (l.map T.vs).flatten.count v = ((l.take j).map T.vs).flatten.count v + ((l.drop j).map T.vs).flatten.count v := fun l => by
    rw [← List.count_append, ← List.flatten_append, ← List.map_append, List.take_append_drop]
  unfold cadd cdifs
  rw [h l, h m]
  omega
theorem wdifs_same (g : Sg) {l m : List T} (h : l = m) : wdifs g l m = 0 := by
  subst h
  unfold wdifs
  omega
theorem cdifs_same {l m : List T} (h : l = m) : cdifs l m = fun _ => 0 := by
  subst h
  funext v
  unfold cdifs
  omega
theorem wdifs_snoc (g : Sg) {l m : List T} (h : l = m) (x y : T) : wdifs g (l ++ [x]) (m ++ [y]) = x.wt g - y.wt g := by
  subst h
  unfold wdifs
  simp only [List.map_append, List.sum_append, List.map_cons, List.map_nil, List.sum_cons, List.sum_nil]
  omega
theorem cdifs_snoc {l m : List T} (h : l = m) (x y : T) : cdifs (l ++ [x]) (m ++ [y]) = cdif x y := by
  subst h
  funext v
  unfold cdifs cdif
  simp only [List.map_append, List.flatten_append, List.map_cons, List.map_nil, List.flatten_cons, List.flatten_nil, List.append_nil, List.count_append]
  omega

/-- A slice's end. -/
theorem ArgsP.drop {P : Nat → Prop} {W : World} {a : Option Addr} {c : Nat} {l : List T} (h : ArgsP P W (.slice a l.length c) l) (j : Nat) (hj : j ≤ l.length) : ArgsP P W (.slice (Option.map (fun x => x.add (j * 3)) a) (l.length - j) (c - j)) (l.drop j) := by
  have hld : (l.drop j).length = l.length - j := by simp
  rw [← hld]
  generalize hn : l.length = n at h
  cases h with
  | mk a c _ s hc hm at0 sub =>
    refine .mk _ _ (l.drop j) (fun i => s (j + i)) (by omega) (by omega) (fun h0 => ?_) (fun i hi => ?_)
    · obtain ⟨b, o, hP, hlt, rfl, hcell⟩ := at0 (by omega)
      refine ⟨b, o + j * 3, hP, hlt, by simp [addr_add], fun i hi => ?_⟩
      obtain ⟨h1, h2, h3⟩ := hcell (j + i) (by omega)
      have e : o + j * 3 + i * 3 = o + (j + i) * 3 := by omega
      rw [List.getElem_drop, e]
      exact ⟨h1, h2, h3⟩
    · rw [List.getElem_drop]
      exact sub (j + i) (by omega)
theorem ArgsP.end {P : Nat → Prop} {W : World} {a : Option Addr} {c : Nat} {l : List T} (h : ArgsP P W (.slice a l.length c) l) (j : Nat) (hj : j ≤ l.length) (hc : c = j) : ArgsP P W (.slice a (l.length - j) 0) (l.drop j) := by
  have hlc : l.length ≤ c := by
    generalize hn : l.length = n at h
    cases h with
    | mk a c _ s hc hm at0 sub => omega
  have hd : l.drop j = [] := List.drop_eq_nil_of_le (by omega)
  have : l.length - j = ([] : List T).length := by simp; omega
  rw [hd, this]
  exact .mk a 0 [] (fun _ => .slice none 0 0) (Nat.le_refl _) (by decide) (fun h => absurd h (by simp)) (fun i h => absurd h (by simp))

/-- The rest is laid on. -/
theorem rest_lay (W0 : World) (g : Sg) (p bp bc : Nat) (vn vw : Value) (l m : List T) (L : Nat) (W : World) (hsl : ∀ t ∈ l, t.shape = true) (hsm : ∀ t ∈ m, t.shape = true) (hL : L + szs l + szs m ≤ 100000) (j : Nat) (wr : World)
    (hS : Sc W0 g p bp bc vn vw (L + szs (l.take j) + szs (m.take j)) (wdifs g (l.take j) (m.take j)) (cdifs (l.take j) (m.take j)) wr) (hO : Only [p, bc] W wr) :
    ∃ Mid : World → Prop, (∀ sl, ArgsP (Off p bc) W sl (l.drop j) → Calls Try.prog 36 #[.pointer (some ⟨p, 0, none⟩), .int .i64 1, sl] wr fun e W' => (∃ v, e = .returned v) ∧ Mid W') ∧
      (∀ X, Mid X → ∀ sl, ArgsP (Off p bc) W sl (m.drop j) → Calls Try.prog 36 #[.pointer (some ⟨p, 0, none⟩), .int .i64 (-1), sl] X fun e W' => (∃ v, e = .returned v) ∧ Hid (Sc W0 g p bp bc vn vw (L + szs l + szs m) (wdifs g l m) (cdifs l m) W' ∧ Only [p, bc] W W')) := by
  have e1 := szs_drop l j
  have e2 := szs_drop m j
  refine ⟨fun X => Sc W0 g p bp bc vn vw (L + szs (l.take j) + szs (m.take j) + szs (l.drop j)) (wadd g (wdifs g (l.take j) (m.take j)) 1 (l.drop j)) (cadd (cdifs (l.take j) (m.take j)) 1 (l.drop j)) X ∧ Only [p, bc] W X, fun sl hA => ?_, fun X hX sl hA => ?_⟩
  · refine (lay_any W0 g p bp bc vn vw 1 (.inl rfl) (l.drop j) sl _ _ _ wr hS (hA.only hO) (fun t ht => hsl t (List.mem_of_mem_drop ht)) (by omega)).mono fun e W' ⟨h1, h2, h3⟩ => ⟨h1, h2, hO.trans h3 (by simp)⟩
  · refine (lay_any W0 g p bp bc vn vw (-1) (.inr rfl) (m.drop j) sl _ _ _ X hX.1 (hA.only hX.2) (fun t ht => hsm t (List.mem_of_mem_drop ht)) (by omega)).mono fun e W' ⟨h1, h2, h3⟩ => ⟨h1, h2.eq (by omega) (wdifs_split g l m j) (cdifs_split l m j), hX.2.trans h3 (by simp)⟩

set_option maxRecDepth 100000 in
set_option maxHeartbeats 4000000 in
theorem arguments_any (W0 : World) (g : Sg) (p bp bc : Nat) (vn vw : Value) (l m : List T) (ih : ∀ x ∈ l, CmpAt W0 g p bp bc vn vw x) (hlm : l.length = m.length) (sl sm : Value) (L : Nat) (W : World) (hS : Sc W0 g p bp bc vn vw L 0 (fun _ => 0) W)
    (hl : ArgsP (Off p bc) W sl l) (hm : ArgsP (Off p bc) W sm m) (hsl : ∀ t ∈ l, t.shape = true) (hsm : ∀ t ∈ m, t.shape = true) (hL : L + szs l + szs m ≤ 100000) :
    Calls Try.prog 52 #[.pointer (some ⟨p, 0, none⟩), sl, sm] W fun e W' => e = .returned (.int .i64 (argsV g l m)) ∧ Sc W0 g p bp bc vn vw (L + szs l + szs m) (wdifs g l m) (cdifs l m) W' ∧ Only [p, bc] W W' := by
  obtain ⟨a, ca, rfl⟩ := hl.slice
  obtain ⟨b, cb, rfl⟩ := hm.slice
  have hll := hl.len
  have HH : Hid (ArgsP (Off p bc) W (.slice a l.length ca) l ∧ ArgsP (Off p bc) W (.slice b m.length cb) m ∧ (∀ t ∈ l, t.shape = true) ∧ (∀ t ∈ m, t.shape = true) ∧ (∀ x ∈ l, CmpAt W0 g p bp bc vn vw x) ∧ l.length = m.length) := ⟨hl, hm, hsl, hsm, ih, hlm⟩
  have HS : Hid (Sc W0 g p bp bc vn vw L 0 (fun _ => 0) W) := hS
  clear hl hm hsl hsm ih hS hlm
  go_enter Try.func52, Try.ntmps52
  go_wp2
  go_step3
  go_wp2
  go_step3
  go_wp2
  go_loopw [7, 8, 12] (fun vo vx vi wr => ∃ i : Nat, vo = .int .i64 0 ∧ vx = .int .i64 i ∧ vi = .int .i64 i ∧ i ≤ l.length ∧ Hid (l.take i = m.take i) ∧ Hid (Sc W0 g p bp bc vn vw (L + szs (l.take i) + szs (m.take i)) 0 (fun _ => 0) wr ∧ Only [p, bc] W wr)) (fun _ _ vi _ => l.length - (intOf vi).toNat)
  case atStart => exact ⟨0, rfl, rfl, rfl, Nat.zero_le _, rfl, HS.out, Only.refl _ _⟩
  case round =>
    obtain ⟨i, rfl, rfl, rfl, hi, HE, HI⟩ := hrel
    by_cases hlt : i < l.length
    · have hlt' : i < m.length := HH.out.2.2.2.2.2 ▸ hlt
      obtain ⟨ba, oa, s, rfl, hPa, hba, a0, a1, a2, hs⟩ := (HH.out.1.only HI.out.2).nth hlt
      obtain ⟨bb, ob, s', rfl, hPb, hbb, b0, b1, b2, hs'⟩ := (HH.out.2.1.only HI.out.2).nth hlt'
      have HX : Hid (l.take (i + 1) = l.take i ++ [l[i]] ∧ m.take (i + 1) = m.take i ++ [m[i]]) := ⟨List.take_succ_eq_append_getElem hlt, List.take_succ_eq_append_getElem hlt'⟩
      have hdr : Below wr.heap.size wr wr.drew := (Below.refl _ wr).drew
      have e1 := szs_drop l (i + 1)
      have e2 := szs_drop m (i + 1)
      rw [HX.out.1, szs_snoc] at e1
      rw [HX.out.2, szs_snoc] at e2
      have hcall := HH.out.2.2.2.2.1 l[i] (List.getElem_mem hlt) m[i] s s' _ wr.drew (HI.out.1.keep hdr) (hs.only (Only.of_below hdr)) (hs'.only (Only.of_below hdr)) (HH.out.2.2.1 _ (List.getElem_mem hlt)) (HH.out.2.2.2.1 _ (List.getElem_mem hlt')) (by omega)
      have HZ : Hid (szs (l.take (i + 1)) = szs (l.take i) + 2 * l[i].size.toNat ∧ szs (m.take (i + 1)) = szs (m.take i) + 2 * m[i].size.toNat) := by rw [HX.out.1, HX.out.2]; exact ⟨szs_snoc _ _, szs_snoc _ _⟩
      have HV0 : Hid (l[i] ≠ m[i] → argsV g l m = kcmp g l[i] m[i]) := fun h => argsV_at g l m i hlt hlt' HE.out h
      obtain ⟨sa, sca, rfl⟩ := hs.slice
      obtain ⟨sb, scb, rfl⟩ := hs'.slice
      obtain ⟨x, hx⟩ : ∃ x, l[i] = x := ⟨_, rfl⟩
      obtain ⟨y, hy⟩ : ∃ y, m[i] = y := ⟨_, rfl⟩
      rw [hx] at hcall a0 a1 a2 HX HZ HV0
      rw [hy] at hcall b0 b1 b2 HX HZ HV0
      clear hs hs' hx hy e1 e2
      have hi1 : (0 : Int) ≤ (i : Int) := by omega
      have hi2 : (i : Int) < (l.length : Int) := by omega
      have hi3 : (i : Int) < (m.length : Int) := by omega
      have A0 : wr.drew.cell? ⟨ba, oa + i * 3, none⟩ = some (.int .i64 x.v) ∧ wr.drew.cell? ⟨ba, oa + i * 3 + 1, none⟩ = some (.string x.fn) ∧ wr.drew.cell? ⟨ba, oa + i * 3 + 2, none⟩ = some (.slice sa x.args.length sca) ∧ wr.drew.cell? ⟨bb, ob + i * 3, none⟩ = some (.int .i64 y.v) ∧ wr.drew.cell? ⟨bb, ob + i * 3 + 1, none⟩ = some (.string y.fn) ∧ wr.drew.cell? ⟨bb, ob + i * 3 + 2, none⟩ = some (.slice sb y.args.length scb) := ⟨a0, a1, a2, b0, b1, b2⟩
      have hS : ∀ X, Only [p, bc] wr.drew X → X.cell? ⟨ba, oa + i * 3, none⟩ = some (.int .i64 x.v) ∧ X.cell? ⟨ba, oa + i * 3 + 1, none⟩ = some (.string x.fn) ∧ X.cell? ⟨ba, oa + i * 3 + 2, none⟩ = some (.slice sa x.args.length sca) ∧ X.cell? ⟨bb, ob + i * 3, none⟩ = some (.int .i64 y.v) ∧ X.cell? ⟨bb, ob + i * 3 + 1, none⟩ = some (.string y.fn) ∧ X.cell? ⟨bb, ob + i * 3 + 2, none⟩ = some (.slice sb y.args.length scb) := fun X hX => by
        have ka := hX.block ba hba (by simp; exact hPa)
        have kb := hX.block bb hbb (by simp; exact hPb)
        exact ⟨(World.cell?_of_block (a := ⟨ba, _, none⟩) ka).trans A0.1, (World.cell?_of_block (a := ⟨ba, _, none⟩) ka).trans A0.2.1, (World.cell?_of_block (a := ⟨ba, _, none⟩) ka).trans A0.2.2.1, (World.cell?_of_block (a := ⟨bb, _, none⟩) kb).trans A0.2.2.2.1, (World.cell?_of_block (a := ⟨bb, _, none⟩) kb).trans A0.2.2.2.2.1, (World.cell?_of_block (a := ⟨bb, _, none⟩) kb).trans A0.2.2.2.2.2⟩
      have HO : Hid (∀ X, Only [p, bc] wr.drew X → Only [p, bc] W X) := fun X hX => (HI.out.2.trans (Only.of_below (B := [p, bc]) hdr) (by simp)).trans hX (by simp)
      clear a0 a1 a2 b0 b1 b2 HI hdr
      by_cases hxy : x = y
      · have hk : kcmp g x y = 0 := kcmp_zero.2 hxy
        rw [hk] at hcall
        have HT : Hid (l.take (i + 1) = m.take (i + 1)) := by rw [HX.out.1, HX.out.2]; show _ = _; rw [HE.out, hxy]
        have HC : Hid (x.wt g - y.wt g = 0 ∧ cdif x y = fun _ => 0) := by
          subst hxy
          refine ⟨by omega, ?_⟩
          funext v
          unfold cdif
          omega
        clear hk hxy HV0
        go_wp2
        go_region_held3 (fun X => X.cell? ⟨ba, oa + i * 3, none⟩ = some (.int .i64 x.v) ∧ X.cell? ⟨ba, oa + i * 3 + 1, none⟩ = some (.string x.fn) ∧ X.cell? ⟨ba, oa + i * 3 + 2, none⟩ = some (.slice sa x.args.length sca) ∧ X.cell? ⟨bb, ob + i * 3, none⟩ = some (.int .i64 y.v) ∧ X.cell? ⟨bb, ob + i * 3 + 1, none⟩ = some (.string y.fn) ∧ X.cell? ⟨bb, ob + i * 3 + 2, none⟩ = some (.slice sb y.args.length scb)) (first | exact A0 | exact K3) (first
          | (go_at_call 33; refine hcall.mono ?_; rintro e W3 ⟨rfl, hS3, hO3⟩; have K3 := hS _ hO3; have HN : Hid (Sc W0 g p bp bc vn vw (L + szs (l.take (i + 1)) + szs (m.take (i + 1))) 0 (fun _ => 0) W3 ∧ Only [p, bc] W W3) := ⟨hS3.eq (by rw [HZ.out.1, HZ.out.2]; omega) HC.out.1 HC.out.2, HO.out _ hO3⟩; clear hS3 hO3))
        go_wp2
        go_roundw
        case rel => exact ⟨i + 1, rfl, by go_num, by go_num, by omega, HT, HN⟩
        case measure => simp [intOf]; omega
      · have HV : Hid (argsV g l m = kcmp g x y) := HV0.out hxy
        have hk0 : kcmp g x y ≠ 0 := fun h => hxy (kcmp_zero.1 h)
        have hkr := kcmp_rng g x y
        obtain ⟨k, hk⟩ : ∃ k, kcmp g x y = k := ⟨_, rfl⟩
        rw [hk] at hcall HV hk0 hkr
        clear hk hxy HV0
        have hkk : k = -1 ∨ k = 1 ∨ k = 2 := by omega
        clear hkr hk0
        rcases hkk with rfl | rfl | rfl
        · go_wp2
          go_region_held3 (fun X => X.cell? ⟨ba, oa + i * 3, none⟩ = some (.int .i64 x.v) ∧ X.cell? ⟨ba, oa + i * 3 + 1, none⟩ = some (.string x.fn) ∧ X.cell? ⟨ba, oa + i * 3 + 2, none⟩ = some (.slice sa x.args.length sca) ∧ X.cell? ⟨bb, ob + i * 3, none⟩ = some (.int .i64 y.v) ∧ X.cell? ⟨bb, ob + i * 3 + 1, none⟩ = some (.string y.fn) ∧ X.cell? ⟨bb, ob + i * 3 + 2, none⟩ = some (.slice sb y.args.length scb)) (first | exact A0 | exact K3) (first
            | (go_at_call 33; refine hcall.mono ?_; rintro e W2 ⟨rfl, hS3, hO3⟩; have K3 := hS _ hO3; have HN : Hid (Sc W0 g p bp bc vn vw (L + szs (l.take (i + 1)) + szs (m.take (i + 1))) (wdifs g (l.take (i + 1)) (m.take (i + 1))) (cdifs (l.take (i + 1)) (m.take (i + 1))) W2 ∧ Only [p, bc] W W2) := ⟨hS3.eq (by rw [HZ.out.1, HZ.out.2]; omega) (by rw [HX.out.1, HX.out.2, wdifs_snoc g HE.out]) (by rw [HX.out.1, HX.out.2, cdifs_snoc HE.out]), HO.out _ hO3⟩; clear hS3 hO3))
          clear K3 A0 hS hcall
          obtain ⟨Mid, hA1, hB1⟩ := rest_lay W0 g p bp bc vn vw l m L W HH.out.2.2.1 HH.out.2.2.2.1 hL (i + 1) W2 HN.out.1 HN.out.2
          by_cases hca : ca = i + 1
          · by_cases hcb : cb = i + 1
            · have oA := HH.out.1.end (i + 1) (by omega) hca
              have oB := HH.out.2.1.end (i + 1) (by have := HH.out.2.2.2.2.2; omega) hcb
              try simp only [Option.map_some, addr_add] at oA oB
              have HA : Hid (ArgsP (Off p bc) W _ _) := oA
              have HB : Hid (ArgsP (Off p bc) W _ _) := oB
              have hib : ((i : Int) + 1) ≤ (m.length : Int) := by omega
              have hia : ((i : Int) + 1) ≤ (l.length : Int) := by omega
              clear oA oB
              go_wp2_with fail
              refine (hA1 _ HA.out).mono ?_
              rintro e W3 ⟨⟨v3, rfl⟩, hM3⟩
              go_wp2_with fail
              refine (hB1 _ hM3 _ HB.out).mono ?_
              rintro e W4 ⟨⟨v4, rfl⟩, HF⟩
              go_wp2
              try rw [Exit.noGoto_ret]
              go_ret
              exact ⟨ret_i64 HV.out.symm, HF.out⟩
            · have oA := HH.out.1.end (i + 1) (by omega) hca
              have oB := HH.out.2.1.drop (i + 1) (by have := HH.out.2.2.2.2.2; omega)
              try simp only [Option.map_some, addr_add] at oA oB
              have HA : Hid (ArgsP (Off p bc) W _ _) := oA
              have HB : Hid (ArgsP (Off p bc) W _ _) := oB
              have hib : ((i : Int) + 1) ≤ (m.length : Int) := by omega
              have hia : ((i : Int) + 1) ≤ (l.length : Int) := by omega
              clear oA oB
              go_wp2_with fail
              refine (hA1 _ HA.out).mono ?_
              rintro e W3 ⟨⟨v3, rfl⟩, hM3⟩
              go_wp2_with fail
              refine (hB1 _ hM3 _ HB.out).mono ?_
              rintro e W4 ⟨⟨v4, rfl⟩, HF⟩
              go_wp2
              try rw [Exit.noGoto_ret]
              go_ret
              exact ⟨ret_i64 HV.out.symm, HF.out⟩
          · by_cases hcb : cb = i + 1
            · have oA := HH.out.1.drop (i + 1) (by omega)
              have oB := HH.out.2.1.end (i + 1) (by have := HH.out.2.2.2.2.2; omega) hcb
              try simp only [Option.map_some, addr_add] at oA oB
              have HA : Hid (ArgsP (Off p bc) W _ _) := oA
              have HB : Hid (ArgsP (Off p bc) W _ _) := oB
              have hib : ((i : Int) + 1) ≤ (m.length : Int) := by omega
              have hia : ((i : Int) + 1) ≤ (l.length : Int) := by omega
              clear oA oB
              go_wp2_with fail
              refine (hA1 _ HA.out).mono ?_
              rintro e W3 ⟨⟨v3, rfl⟩, hM3⟩
              go_wp2_with fail
              refine (hB1 _ hM3 _ HB.out).mono ?_
              rintro e W4 ⟨⟨v4, rfl⟩, HF⟩
              go_wp2
              try rw [Exit.noGoto_ret]
              go_ret
              exact ⟨ret_i64 HV.out.symm, HF.out⟩
            · have oA := HH.out.1.drop (i + 1) (by omega)
              have oB := HH.out.2.1.drop (i + 1) (by have := HH.out.2.2.2.2.2; omega)
              try simp only [Option.map_some, addr_add] at oA oB
              have HA : Hid (ArgsP (Off p bc) W _ _) := oA
              have HB : Hid (ArgsP (Off p bc) W _ _) := oB
              have hib : ((i : Int) + 1) ≤ (m.length : Int) := by omega
              have hia : ((i : Int) + 1) ≤ (l.length : Int) := by omega
              clear oA oB
              go_wp2_with fail
              refine (hA1 _ HA.out).mono ?_
              rintro e W3 ⟨⟨v3, rfl⟩, hM3⟩
              go_wp2_with fail
              refine (hB1 _ hM3 _ HB.out).mono ?_
              rintro e W4 ⟨⟨v4, rfl⟩, HF⟩
              go_wp2
              try rw [Exit.noGoto_ret]
              go_ret
              exact ⟨ret_i64 HV.out.symm, HF.out⟩
        · go_wp2
          go_region_held3 (fun X => X.cell? ⟨ba, oa + i * 3, none⟩ = some (.int .i64 x.v) ∧ X.cell? ⟨ba, oa + i * 3 + 1, none⟩ = some (.string x.fn) ∧ X.cell? ⟨ba, oa + i * 3 + 2, none⟩ = some (.slice sa x.args.length sca) ∧ X.cell? ⟨bb, ob + i * 3, none⟩ = some (.int .i64 y.v) ∧ X.cell? ⟨bb, ob + i * 3 + 1, none⟩ = some (.string y.fn) ∧ X.cell? ⟨bb, ob + i * 3 + 2, none⟩ = some (.slice sb y.args.length scb)) (first | exact A0 | exact K3) (first
            | (go_at_call 33; refine hcall.mono ?_; rintro e W2 ⟨rfl, hS3, hO3⟩; have K3 := hS _ hO3; have HN : Hid (Sc W0 g p bp bc vn vw (L + szs (l.take (i + 1)) + szs (m.take (i + 1))) (wdifs g (l.take (i + 1)) (m.take (i + 1))) (cdifs (l.take (i + 1)) (m.take (i + 1))) W2 ∧ Only [p, bc] W W2) := ⟨hS3.eq (by rw [HZ.out.1, HZ.out.2]; omega) (by rw [HX.out.1, HX.out.2, wdifs_snoc g HE.out]) (by rw [HX.out.1, HX.out.2, cdifs_snoc HE.out]), HO.out _ hO3⟩; clear hS3 hO3))
          clear K3 A0 hS hcall
          obtain ⟨Mid, hA1, hB1⟩ := rest_lay W0 g p bp bc vn vw l m L W HH.out.2.2.1 HH.out.2.2.2.1 hL (i + 1) W2 HN.out.1 HN.out.2
          by_cases hca : ca = i + 1
          · by_cases hcb : cb = i + 1
            · have oA := HH.out.1.end (i + 1) (by omega) hca
              have oB := HH.out.2.1.end (i + 1) (by have := HH.out.2.2.2.2.2; omega) hcb
              try simp only [Option.map_some, addr_add] at oA oB
              have HA : Hid (ArgsP (Off p bc) W _ _) := oA
              have HB : Hid (ArgsP (Off p bc) W _ _) := oB
              have hib : ((i : Int) + 1) ≤ (m.length : Int) := by omega
              have hia : ((i : Int) + 1) ≤ (l.length : Int) := by omega
              clear oA oB
              go_wp2_with fail
              refine (hA1 _ HA.out).mono ?_
              rintro e W3 ⟨⟨v3, rfl⟩, hM3⟩
              go_wp2_with fail
              refine (hB1 _ hM3 _ HB.out).mono ?_
              rintro e W4 ⟨⟨v4, rfl⟩, HF⟩
              go_wp2
              try rw [Exit.noGoto_ret]
              go_ret
              exact ⟨ret_i64 HV.out.symm, HF.out⟩
            · have oA := HH.out.1.end (i + 1) (by omega) hca
              have oB := HH.out.2.1.drop (i + 1) (by have := HH.out.2.2.2.2.2; omega)
              try simp only [Option.map_some, addr_add] at oA oB
              have HA : Hid (ArgsP (Off p bc) W _ _) := oA
              have HB : Hid (ArgsP (Off p bc) W _ _) := oB
              have hib : ((i : Int) + 1) ≤ (m.length : Int) := by omega
              have hia : ((i : Int) + 1) ≤ (l.length : Int) := by omega
              clear oA oB
              go_wp2_with fail
              refine (hA1 _ HA.out).mono ?_
              rintro e W3 ⟨⟨v3, rfl⟩, hM3⟩
              go_wp2_with fail
              refine (hB1 _ hM3 _ HB.out).mono ?_
              rintro e W4 ⟨⟨v4, rfl⟩, HF⟩
              go_wp2
              try rw [Exit.noGoto_ret]
              go_ret
              exact ⟨ret_i64 HV.out.symm, HF.out⟩
          · by_cases hcb : cb = i + 1
            · have oA := HH.out.1.drop (i + 1) (by omega)
              have oB := HH.out.2.1.end (i + 1) (by have := HH.out.2.2.2.2.2; omega) hcb
              try simp only [Option.map_some, addr_add] at oA oB
              have HA : Hid (ArgsP (Off p bc) W _ _) := oA
              have HB : Hid (ArgsP (Off p bc) W _ _) := oB
              have hib : ((i : Int) + 1) ≤ (m.length : Int) := by omega
              have hia : ((i : Int) + 1) ≤ (l.length : Int) := by omega
              clear oA oB
              go_wp2_with fail
              refine (hA1 _ HA.out).mono ?_
              rintro e W3 ⟨⟨v3, rfl⟩, hM3⟩
              go_wp2_with fail
              refine (hB1 _ hM3 _ HB.out).mono ?_
              rintro e W4 ⟨⟨v4, rfl⟩, HF⟩
              go_wp2
              try rw [Exit.noGoto_ret]
              go_ret
              exact ⟨ret_i64 HV.out.symm, HF.out⟩
            · have oA := HH.out.1.drop (i + 1) (by omega)
              have oB := HH.out.2.1.drop (i + 1) (by have := HH.out.2.2.2.2.2; omega)
              try simp only [Option.map_some, addr_add] at oA oB
              have HA : Hid (ArgsP (Off p bc) W _ _) := oA
              have HB : Hid (ArgsP (Off p bc) W _ _) := oB
              have hib : ((i : Int) + 1) ≤ (m.length : Int) := by omega
              have hia : ((i : Int) + 1) ≤ (l.length : Int) := by omega
              clear oA oB
              go_wp2_with fail
              refine (hA1 _ HA.out).mono ?_
              rintro e W3 ⟨⟨v3, rfl⟩, hM3⟩
              go_wp2_with fail
              refine (hB1 _ hM3 _ HB.out).mono ?_
              rintro e W4 ⟨⟨v4, rfl⟩, HF⟩
              go_wp2
              try rw [Exit.noGoto_ret]
              go_ret
              exact ⟨ret_i64 HV.out.symm, HF.out⟩
        · go_wp2
          go_region_held3 (fun X => X.cell? ⟨ba, oa + i * 3, none⟩ = some (.int .i64 x.v) ∧ X.cell? ⟨ba, oa + i * 3 + 1, none⟩ = some (.string x.fn) ∧ X.cell? ⟨ba, oa + i * 3 + 2, none⟩ = some (.slice sa x.args.length sca) ∧ X.cell? ⟨bb, ob + i * 3, none⟩ = some (.int .i64 y.v) ∧ X.cell? ⟨bb, ob + i * 3 + 1, none⟩ = some (.string y.fn) ∧ X.cell? ⟨bb, ob + i * 3 + 2, none⟩ = some (.slice sb y.args.length scb)) (first | exact A0 | exact K3) (first
            | (go_at_call 33; refine hcall.mono ?_; rintro e W2 ⟨rfl, hS3, hO3⟩; have K3 := hS _ hO3; have HN : Hid (Sc W0 g p bp bc vn vw (L + szs (l.take (i + 1)) + szs (m.take (i + 1))) (wdifs g (l.take (i + 1)) (m.take (i + 1))) (cdifs (l.take (i + 1)) (m.take (i + 1))) W2 ∧ Only [p, bc] W W2) := ⟨hS3.eq (by rw [HZ.out.1, HZ.out.2]; omega) (by rw [HX.out.1, HX.out.2, wdifs_snoc g HE.out]) (by rw [HX.out.1, HX.out.2, cdifs_snoc HE.out]), HO.out _ hO3⟩; clear hS3 hO3))
          clear K3 A0 hS hcall
          obtain ⟨Mid, hA1, hB1⟩ := rest_lay W0 g p bp bc vn vw l m L W HH.out.2.2.1 HH.out.2.2.2.1 hL (i + 1) W2 HN.out.1 HN.out.2
          by_cases hca : ca = i + 1
          · by_cases hcb : cb = i + 1
            · have oA := HH.out.1.end (i + 1) (by omega) hca
              have oB := HH.out.2.1.end (i + 1) (by have := HH.out.2.2.2.2.2; omega) hcb
              try simp only [Option.map_some, addr_add] at oA oB
              have HA : Hid (ArgsP (Off p bc) W _ _) := oA
              have HB : Hid (ArgsP (Off p bc) W _ _) := oB
              have hib : ((i : Int) + 1) ≤ (m.length : Int) := by omega
              have hia : ((i : Int) + 1) ≤ (l.length : Int) := by omega
              clear oA oB
              go_wp2_with fail
              refine (hA1 _ HA.out).mono ?_
              rintro e W3 ⟨⟨v3, rfl⟩, hM3⟩
              go_wp2_with fail
              refine (hB1 _ hM3 _ HB.out).mono ?_
              rintro e W4 ⟨⟨v4, rfl⟩, HF⟩
              go_wp2
              try rw [Exit.noGoto_ret]
              go_ret
              exact ⟨ret_i64 HV.out.symm, HF.out⟩
            · have oA := HH.out.1.end (i + 1) (by omega) hca
              have oB := HH.out.2.1.drop (i + 1) (by have := HH.out.2.2.2.2.2; omega)
              try simp only [Option.map_some, addr_add] at oA oB
              have HA : Hid (ArgsP (Off p bc) W _ _) := oA
              have HB : Hid (ArgsP (Off p bc) W _ _) := oB
              have hib : ((i : Int) + 1) ≤ (m.length : Int) := by omega
              have hia : ((i : Int) + 1) ≤ (l.length : Int) := by omega
              clear oA oB
              go_wp2_with fail
              refine (hA1 _ HA.out).mono ?_
              rintro e W3 ⟨⟨v3, rfl⟩, hM3⟩
              go_wp2_with fail
              refine (hB1 _ hM3 _ HB.out).mono ?_
              rintro e W4 ⟨⟨v4, rfl⟩, HF⟩
              go_wp2
              try rw [Exit.noGoto_ret]
              go_ret
              exact ⟨ret_i64 HV.out.symm, HF.out⟩
          · by_cases hcb : cb = i + 1
            · have oA := HH.out.1.drop (i + 1) (by omega)
              have oB := HH.out.2.1.end (i + 1) (by have := HH.out.2.2.2.2.2; omega) hcb
              try simp only [Option.map_some, addr_add] at oA oB
              have HA : Hid (ArgsP (Off p bc) W _ _) := oA
              have HB : Hid (ArgsP (Off p bc) W _ _) := oB
              have hib : ((i : Int) + 1) ≤ (m.length : Int) := by omega
              have hia : ((i : Int) + 1) ≤ (l.length : Int) := by omega
              clear oA oB
              go_wp2_with fail
              refine (hA1 _ HA.out).mono ?_
              rintro e W3 ⟨⟨v3, rfl⟩, hM3⟩
              go_wp2_with fail
              refine (hB1 _ hM3 _ HB.out).mono ?_
              rintro e W4 ⟨⟨v4, rfl⟩, HF⟩
              go_wp2
              try rw [Exit.noGoto_ret]
              go_ret
              exact ⟨ret_i64 HV.out.symm, HF.out⟩
            · have oA := HH.out.1.drop (i + 1) (by omega)
              have oB := HH.out.2.1.drop (i + 1) (by have := HH.out.2.2.2.2.2; omega)
              try simp only [Option.map_some, addr_add] at oA oB
              have HA : Hid (ArgsP (Off p bc) W _ _) := oA
              have HB : Hid (ArgsP (Off p bc) W _ _) := oB
              have hib : ((i : Int) + 1) ≤ (m.length : Int) := by omega
              have hia : ((i : Int) + 1) ≤ (l.length : Int) := by omega
              clear oA oB
              go_wp2_with fail
              refine (hA1 _ HA.out).mono ?_
              rintro e W3 ⟨⟨v3, rfl⟩, hM3⟩
              go_wp2_with fail
              refine (hB1 _ hM3 _ HB.out).mono ?_
              rintro e W4 ⟨⟨v4, rfl⟩, HF⟩
              go_wp2
              try rw [Exit.noGoto_ret]
              go_ret
              exact ⟨ret_i64 HV.out.symm, HF.out⟩
    · have hie : i = l.length := by omega
      have HV : Hid (argsV g l m = 0) := by
        have h1 := HE.out
        rw [hie, List.take_length, HH.out.2.2.2.2.2, List.take_length] at h1
        rw [h1]
        exact argsV_same g m
      obtain ⟨Mid, hA1, hB1⟩ := rest_lay W0 g p bp bc vn vw l m L W HH.out.2.2.1 HH.out.2.2.2.1 hL i wr (by
        rw [wdifs_same g HE.out, cdifs_same HE.out]
        exact HI.out.1) HI.out.2
      clear hie
      by_cases hca : ca = i
      · by_cases hcb : cb = i
        · have oA := HH.out.1.end i (by omega) hca
          have oB := HH.out.2.1.end i (by have := HH.out.2.2.2.2.2; omega) hcb
          have HA : Hid (ArgsP (Off p bc) W _ _) := oA
          have HB : Hid (ArgsP (Off p bc) W _ _) := oB
          have hib : ((i : Nat) : Int) ≤ (m.length : Int) := by have := HH.out.2.2.2.2.2; omega
          clear oA oB
          go_wp2_with fail
          refine (hA1 _ HA.out).mono ?_
          rintro e W3 ⟨⟨v3, rfl⟩, hM3⟩
          go_wp2_with fail
          refine (hB1 _ hM3 _ HB.out).mono ?_
          rintro e W4 ⟨⟨v4, rfl⟩, HF⟩
          go_wp2
          try rw [Exit.noGoto_ret]
          go_ret
          exact ⟨ret_i64 HV.out.symm, HF.out⟩
        · have oA := HH.out.1.end i (by omega) hca
          have oB := HH.out.2.1.drop i (by have := HH.out.2.2.2.2.2; omega)
          have HA : Hid (ArgsP (Off p bc) W _ _) := oA
          have HB : Hid (ArgsP (Off p bc) W _ _) := oB
          have hib : ((i : Nat) : Int) ≤ (m.length : Int) := by have := HH.out.2.2.2.2.2; omega
          clear oA oB
          go_wp2_with fail
          refine (hA1 _ HA.out).mono ?_
          rintro e W3 ⟨⟨v3, rfl⟩, hM3⟩
          go_wp2_with fail
          refine (hB1 _ hM3 _ HB.out).mono ?_
          rintro e W4 ⟨⟨v4, rfl⟩, HF⟩
          go_wp2
          try rw [Exit.noGoto_ret]
          go_ret
          exact ⟨ret_i64 HV.out.symm, HF.out⟩
      · by_cases hcb : cb = i
        · have oA := HH.out.1.drop i (by omega)
          have oB := HH.out.2.1.end i (by have := HH.out.2.2.2.2.2; omega) hcb
          have HA : Hid (ArgsP (Off p bc) W _ _) := oA
          have HB : Hid (ArgsP (Off p bc) W _ _) := oB
          have hib : ((i : Nat) : Int) ≤ (m.length : Int) := by have := HH.out.2.2.2.2.2; omega
          clear oA oB
          go_wp2_with fail
          refine (hA1 _ HA.out).mono ?_
          rintro e W3 ⟨⟨v3, rfl⟩, hM3⟩
          go_wp2_with fail
          refine (hB1 _ hM3 _ HB.out).mono ?_
          rintro e W4 ⟨⟨v4, rfl⟩, HF⟩
          go_wp2
          try rw [Exit.noGoto_ret]
          go_ret
          exact ⟨ret_i64 HV.out.symm, HF.out⟩
        · have oA := HH.out.1.drop i (by omega)
          have oB := HH.out.2.1.drop i (by have := HH.out.2.2.2.2.2; omega)
          have HA : Hid (ArgsP (Off p bc) W _ _) := oA
          have HB : Hid (ArgsP (Off p bc) W _ _) := oB
          have hib : ((i : Nat) : Int) ≤ (m.length : Int) := by have := HH.out.2.2.2.2.2; omega
          clear oA oB
          go_wp2_with fail
          refine (hA1 _ HA.out).mono ?_
          rintro e W3 ⟨⟨v3, rfl⟩, hM3⟩
          go_wp2_with fail
          refine (hB1 _ hM3 _ HB.out).mono ?_
          rintro e W4 ⟨⟨v4, rfl⟩, HF⟩
          go_wp2
          try rw [Exit.noGoto_ret]
          go_ret
          exact ⟨ret_i64 HV.out.symm, HF.out⟩

end Go.Proofs.Ytcnodgjalkcgiaa
