import Derived.Test.YtglphfhlpobgcaaGreatKN
import Derived.Test.YtglphfhlpobgcaaGreatRB
import Derived.WalkMore

namespace Go.Proofs.YtglphfhlpobgcaaGreat
open Go.RowKit Go.Maps
def cdif (x y : T) : Int → Int := fun v => ((x.vs.count v : Nat) : Int) - ((y.vs.count v : Nat) : Int)
def cdifs (l m : List T) : Int → Int := fun v => (((l.map T.vs).flatten.count v : Nat) : Int) - (((m.map T.vs).flatten.count v : Nat) : Int)
def wdifs (g : Sg) (l m : List T) : Int := (l.map (T.wt g)).sum - (m.map (T.wt g)).sum
open Classical in
noncomputable def argsV (g : Sg) : List T → List T → Int
  | a :: r, b :: s => if a = b then argsV g r s else kcmp g a b
  | _, _ => 0
theorem argsV_same (g : Sg) : ∀ l : List T, argsV g l l = 0
  | [] => rfl
  | a :: r => by simp [argsV, argsV_same g r]
theorem argsV_at (g : Sg) : ∀ (l m : List T) (i : Nat) (hi : i < l.length) (hj : i < m.length), l.take i = m.take i → l[i] ≠ m[i] → argsV g l m = kcmp g l[i] m[i]
  | [], _, i, hi, _, _, _ => absurd hi (by simp)
  | _ :: _, [], i, _, hj, _, _ => absurd hj (by simp)
  | a :: r, b :: s, 0, _, _, _, h => by
    have h' : a ≠ b := h
    simp [argsV, h']
  | a :: r, b :: s, i + 1, hi, hj, he, h => by
    simp only [List.take_succ_cons, List.cons.injEq] at he
    have h' : r[i]'(by simpa using hi) ≠ s[i]'(by simpa using hj) := h
    simp only [argsV, he.1, if_true, List.getElem_cons_succ]
    exact argsV_at g r s i (by simpa using hi) (by simpa using hj) he.2 h'
def CmpAt (W0 : World) (g : Sg) (p bp bc : Nat) (vn vw : Value) (x : T) : Prop :=
  ∀ (y : T) (sx sy : Value) (L : Nat) (W : World), Sc W0 g p bp bc vn vw L 0 (fun _ => 0) W → ArgsP (Off p bc) W sx x.args → ArgsP (Off p bc) W sy y.args → x.shape = true → y.shape = true → L + 2 * x.size.toNat + 2 * y.size.toNat ≤ 100000 →
    Calls Tryz.prog 53 #[.pointer (some ⟨p, 0, none⟩), tval x sx, tval y sy] W fun e W' => e = .returned (.int .i64 (kcmp g x y)) ∧ Sc W0 g p bp bc vn vw (L + 2 * x.size.toNat + 2 * y.size.toNat) (x.wt g - y.wt g) (cdif x y) W' ∧ Only [p, bc] W W'
theorem szs_drop (l : List T) (j : Nat) : szs l = szs (l.take j) + szs (l.drop j) := by
  unfold szs
  rw [← List.sum_append, ← List.map_append, List.take_append_drop]
theorem wdifs_split (g : Sg) (l m : List T) (j : Nat) : wadd g (wadd g (wdifs g (l.take j) (m.take j)) 1 (l.drop j)) (-1) (m.drop j) = wdifs g l m := by
  have h : ∀ l : List T, (l.map (T.wt g)).sum = ((l.take j).map (T.wt g)).sum + ((l.drop j).map (T.wt g)).sum := fun l => by
    rw [← List.sum_append, ← List.map_append, List.take_append_drop]
  unfold wadd wdifs
  rw [h l, h m]
  omega
theorem cdifs_split (l m : List T) (j : Nat) : cadd (cadd (cdifs (l.take j) (m.take j)) 1 (l.drop j)) (-1) (m.drop j) = cdifs l m := by
  funext v
  have h : ∀ l : List T, (l.map T.vs).flatten.count v = ((l.take j).map T.vs).flatten.count v + ((l.drop j).map T.vs).flatten.count v := fun l => by
    rw [← List.count_append, ← List.flatten_append, ← List.map_append, List.take_append_drop]
  unfold cadd cdifs
  rw [h l, h m]
  omega
theorem wdifs_same (g : Sg) {l m : List T} (h : l = m) : wdifs g l m = 0 := by
  subst h
  unfold wdifs
  omega
theorem cdifs_same {l m : List T} (h : l = m) : cdifs l m = fun _ => 0 := by
  subst h
  funext v
  unfold cdifs
  omega
theorem wdifs_snoc (g : Sg) {l m : List T} (h : l = m) (x y : T) : wdifs g (l ++ [x]) (m ++ [y]) = x.wt g - y.wt g := by
  subst h
  unfold wdifs
  simp only [List.map_append, List.sum_append, List.map_cons, List.map_nil, List.sum_cons, List.sum_nil]
  omega
theorem cdifs_snoc {l m : List T} (h : l = m) (x y : T) : cdifs (l ++ [x]) (m ++ [y]) = cdif x y := by
  subst h
  funext v
  unfold cdifs cdif
  simp only [List.map_append, List.flatten_append, List.map_cons, List.map_nil, List.flatten_cons, List.flatten_nil, List.append_nil, List.count_append]
  omega
theorem ArgsP.drop {P : Nat → Prop} {W : World} {a : Option Addr} {c : Nat} {l : List T} (h : ArgsP P W (.slice a l.length c) l) (j : Nat) (hj : j ≤ l.length) : ArgsP P W (.slice (Option.map (fun x => x.add (j * 3)) a) (l.length - j) (c - j)) (l.drop j) := by
  have hld : (l.drop j).length = l.length - j := by simp
  rw [← hld]
  generalize hn : l.length = n at h
  cases h with
  | mk a c _ s hc hm at0 sub =>
    refine .mk _ _ (l.drop j) (fun i => s (j + i)) (by omega) (by omega) (fun h0 => ?_) (fun i hi => ?_)
    · obtain ⟨b, o, hP, hlt, rfl, hcell⟩ := at0 (by omega)
      refine ⟨b, o + j * 3, hP, hlt, by simp [addr_add], fun i hi => ?_⟩
      obtain ⟨h1, h2, h3⟩ := hcell (j + i) (by omega)
      have e : o + j * 3 + i * 3 = o + (j + i) * 3 := by omega
      rw [List.getElem_drop, e]
      exact ⟨h1, h2, h3⟩
    · rw [List.getElem_drop]
      exact sub (j + i) (by omega)
theorem ArgsP.end {P : Nat → Prop} {W : World} {a : Option Addr} {c : Nat} {l : List T} (h : ArgsP P W (.slice a l.length c) l) (j : Nat) (hj : j ≤ l.length) (hc : c = j) : ArgsP P W (.slice a (l.length - j) 0) (l.drop j) := by
  have hlc : l.length ≤ c := by
    generalize hn : l.length = n at h
    cases h with
    | mk a c _ s hc hm at0 sub => omega
  have hd : l.drop j = [] := List.drop_eq_nil_of_le (by omega)
  have : l.length - j = ([] : List T).length := by simp; omega
  rw [hd, this]
  exact .mk a 0 [] (fun _ => .slice none 0 0) (Nat.le_refl _) (by decide) (fun h => absurd h (by simp)) (fun i h => absurd h (by simp))
theorem rest_lay (W0 : World) (g : Sg) (p bp bc : Nat) (vn vw : Value) (l m : List T) (L : Nat) (W : World) (hsl : ∀ t ∈ l, t.shape = true) (hsm : ∀ t ∈ m, t.shape = true) (hL : L + szs l + szs m ≤ 100000) (j : Nat) (wr : World)
    (hS : Sc W0 g p bp bc vn vw (L + szs (l.take j) + szs (m.take j)) (wdifs g (l.take j) (m.take j)) (cdifs (l.take j) (m.take j)) wr) (hO : Only [p, bc] W wr) :
    ∃ Mid : World → Prop, (∀ sl, ArgsP (Off p bc) W sl (l.drop j) → Calls Tryz.prog 89 #[.pointer (some ⟨p, 0, none⟩), .int .i64 1, sl] wr fun e W' => (∃ v, e = .returned v) ∧ Mid W') ∧
      (∀ X, Mid X → ∀ sl, ArgsP (Off p bc) W sl (m.drop j) → Calls Tryz.prog 89 #[.pointer (some ⟨p, 0, none⟩), .int .i64 (-1), sl] X fun e W' => (∃ v, e = .returned v) ∧ Hid (Sc W0 g p bp bc vn vw (L + szs l + szs m) (wdifs g l m) (cdifs l m) W' ∧ Only [p, bc] W W')) := by
  have e1 := szs_drop l j
  have e2 := szs_drop m j
  refine ⟨fun X => Sc W0 g p bp bc vn vw (L + szs (l.take j) + szs (m.take j) + szs (l.drop j)) (wadd g (wdifs g (l.take j) (m.take j)) 1 (l.drop j)) (cadd (cdifs (l.take j) (m.take j)) 1 (l.drop j)) X ∧ Only [p, bc] W X, fun sl hA => ?_, fun X hX sl hA => ?_⟩
  · refine (lay_any W0 g p bp bc vn vw 1 (.inl rfl) (l.drop j) sl _ _ _ wr hS (hA.only hO) (fun t ht => hsl t (List.mem_of_mem_drop ht)) (by omega)).mono fun e W' ⟨h1, h2, h3⟩ => ⟨h1, h2, hO.trans h3 (by simp)⟩
  · refine (lay_any W0 g p bp bc vn vw (-1) (.inr rfl) (m.drop j) sl _ _ _ X hX.1 (hA.only hX.2) (fun t ht => hsm t (List.mem_of_mem_drop ht)) (by omega)).mono fun e W' ⟨h1, h2, h3⟩ => ⟨h1, h2.eq (by omega) (wdifs_split g l m j) (cdifs_split l m j), hX.2.trans h3 (by simp)⟩
set_option maxRecDepth 100000 in
set_option maxHeartbeats 4000000 in
theorem arguments_any (W0 : World) (g : Sg) (p bp bc : Nat) (vn vw : Value) (l m : List T) (ih : ∀ x ∈ l, CmpAt W0 g p bp bc vn vw x) (hlm : l.length = m.length) (sl sm : Value) (L : Nat) (W : World) (hS : Sc W0 g p bp bc vn vw L 0 (fun _ => 0) W)
    (hl : ArgsP (Off p bc) W sl l) (hm : ArgsP (Off p bc) W sm m) (hsl : ∀ t ∈ l, t.shape = true) (hsm : ∀ t ∈ m, t.shape = true) (hL : L + szs l + szs m ≤ 100000) :
    Calls Tryz.prog 92 #[.pointer (some ⟨p, 0, none⟩), sl, sm] W fun e W' => e = .returned (.int .i64 (argsV g l m)) ∧ Sc W0 g p bp bc vn vw (L + szs l + szs m) (wdifs g l m) (cdifs l m) W' ∧ Only [p, bc] W W' := by
  obtain ⟨a, ca, rfl⟩ := hl.slice
  obtain ⟨b, cb, rfl⟩ := hm.slice
  have hll := hl.len
  have HH : Hid (ArgsP (Off p bc) W (.slice a l.length ca) l ∧ ArgsP (Off p bc) W (.slice b m.length cb) m ∧ (∀ t ∈ l, t.shape = true) ∧ (∀ t ∈ m, t.shape = true) ∧ (∀ x ∈ l, CmpAt W0 g p bp bc vn vw x) ∧ l.length = m.length) := ⟨hl, hm, hsl, hsm, ih, hlm⟩
  have HS : Hid (Sc W0 g p bp bc vn vw L 0 (fun _ => 0) W) := hS
  clear hl hm hsl hsm ih hS hlm
  go_enter Tryz.func92, Tryz.ntmps92
  go_wp2
  go_step3
  go_wp2
  go_step3
  go_wp2
  go_loopw [7, 8, 12] (fun vo vx vi wr => ∃ i : Nat, vo = .int .i64 0 ∧ vx = .int .i64 i ∧ vi = .int .i64 i ∧ i ≤ l.length ∧ Hid (l.take i = m.take i) ∧ Hid (Sc W0 g p bp bc vn vw (L + szs (l.take i) + szs (m.take i)) 0 (fun _ => 0) wr ∧ Only [p, bc] W wr)) (fun _ _ vi _ => l.length - (intOf vi).toNat)
  case atStart => exact ⟨0, rfl, rfl, rfl, Nat.zero_le _, rfl, HS.out, Only.refl _ _⟩
  case round =>
    obtain ⟨i, rfl, rfl, rfl, hi, HE, HI⟩ := hrel
    by_cases hlt : i < l.length
    · have hlt' : i < m.length := HH.out.2.2.2.2.2 ▸ hlt
      obtain ⟨ba, oa, s, rfl, hPa, hba, a0, a1, a2, hs⟩ := (HH.out.1.only HI.out.2).nth hlt
      obtain ⟨bb, ob, s', rfl, hPb, hbb, b0, b1, b2, hs'⟩ := (HH.out.2.1.only HI.out.2).nth hlt'
      have HX : Hid (l.take (i + 1) = l.take i ++ [l[i]] ∧ m.take (i + 1) = m.take i ++ [m[i]]) := ⟨List.take_succ_eq_append_getElem hlt, List.take_succ_eq_append_getElem hlt'⟩
      have hdr : Below wr.heap.size wr wr.drew := (Below.refl _ wr).drew
      have e1 := szs_drop l (i + 1)
      have e2 := szs_drop m (i + 1)
      rw [HX.out.1, szs_snoc] at e1
      rw [HX.out.2, szs_snoc] at e2
      have hcall := HH.out.2.2.2.2.1 l[i] (List.getElem_mem hlt) m[i] s s' _ wr.drew (HI.out.1.keep hdr) (hs.only (Only.of_below hdr)) (hs'.only (Only.of_below hdr)) (HH.out.2.2.1 _ (List.getElem_mem hlt)) (HH.out.2.2.2.1 _ (List.getElem_mem hlt')) (by omega)
      have HZ : Hid (szs (l.take (i + 1)) = szs (l.take i) + 2 * l[i].size.toNat ∧ szs (m.take (i + 1)) = szs (m.take i) + 2 * m[i].size.toNat) := by rw [HX.out.1, HX.out.2]; exact ⟨szs_snoc _ _, szs_snoc _ _⟩
      have HV0 : Hid (l[i] ≠ m[i] → argsV g l m = kcmp g l[i] m[i]) := fun h => argsV_at g l m i hlt hlt' HE.out h
      obtain ⟨sa, sca, rfl⟩ := hs.slice
      obtain ⟨sb, scb, rfl⟩ := hs'.slice
      obtain ⟨x, hx⟩ : ∃ x, l[i] = x := ⟨_, rfl⟩
      obtain ⟨y, hy⟩ : ∃ y, m[i] = y := ⟨_, rfl⟩
      rw [hx] at hcall a0 a1 a2 HX HZ HV0
      rw [hy] at hcall b0 b1 b2 HX HZ HV0
      clear hs hs' hx hy e1 e2
      have hi1 : (0 : Int) ≤ (i : Int) := by omega
      have hi2 : (i : Int) < (l.length : Int) := by omega
      have hi3 : (i : Int) < (m.length : Int) := by omega
      have A0 : wr.drew.cell? ⟨ba, oa + i * 3, none⟩ = some (.int .i64 x.v) ∧ wr.drew.cell? ⟨ba, oa + i * 3 + 1, none⟩ = some (.string x.fn) ∧ wr.drew.cell? ⟨ba, oa + i * 3 + 2, none⟩ = some (.slice sa x.args.length sca) ∧ wr.drew.cell? ⟨bb, ob + i * 3, none⟩ = some (.int .i64 y.v) ∧ wr.drew.cell? ⟨bb, ob + i * 3 + 1, none⟩ = some (.string y.fn) ∧ wr.drew.cell? ⟨bb, ob + i * 3 + 2, none⟩ = some (.slice sb y.args.length scb) := ⟨a0, a1, a2, b0, b1, b2⟩
      have hS : ∀ X, Only [p, bc] wr.drew X → X.cell? ⟨ba, oa + i * 3, none⟩ = some (.int .i64 x.v) ∧ X.cell? ⟨ba, oa + i * 3 + 1, none⟩ = some (.string x.fn) ∧ X.cell? ⟨ba, oa + i * 3 + 2, none⟩ = some (.slice sa x.args.length sca) ∧ X.cell? ⟨bb, ob + i * 3, none⟩ = some (.int .i64 y.v) ∧ X.cell? ⟨bb, ob + i * 3 + 1, none⟩ = some (.string y.fn) ∧ X.cell? ⟨bb, ob + i * 3 + 2, none⟩ = some (.slice sb y.args.length scb) := fun X hX => by
        have ka := hX.block ba hba (by simp; exact hPa)
        have kb := hX.block bb hbb (by simp; exact hPb)
        exact ⟨(World.cell?_of_block (a := ⟨ba, _, none⟩) ka).trans A0.1, (World.cell?_of_block (a := ⟨ba, _, none⟩) ka).trans A0.2.1, (World.cell?_of_block (a := ⟨ba, _, none⟩) ka).trans A0.2.2.1, (World.cell?_of_block (a := ⟨bb, _, none⟩) kb).trans A0.2.2.2.1, (World.cell?_of_block (a := ⟨bb, _, none⟩) kb).trans A0.2.2.2.2.1, (World.cell?_of_block (a := ⟨bb, _, none⟩) kb).trans A0.2.2.2.2.2⟩
      have HO : Hid (∀ X, Only [p, bc] wr.drew X → Only [p, bc] W X) := fun X hX => (HI.out.2.trans (Only.of_below (B := [p, bc]) hdr) (by simp)).trans hX (by simp)
      clear a0 a1 a2 b0 b1 b2 HI hdr
      by_cases hxy : x = y
      · have hk : kcmp g x y = 0 := kcmp_zero.2 hxy
        rw [hk] at hcall
        have HT : Hid (l.take (i + 1) = m.take (i + 1)) := by rw [HX.out.1, HX.out.2]; show _ = _; rw [HE.out, hxy]
        have HC : Hid (x.wt g - y.wt g = 0 ∧ cdif x y = fun _ => 0) := by
          subst hxy
          refine ⟨by omega, ?_⟩
          funext v
          unfold cdif
          omega
        clear hk hxy HV0
        go_wp2
        go_region_held3 (fun X => X.cell? ⟨ba, oa + i * 3, none⟩ = some (.int .i64 x.v) ∧ X.cell? ⟨ba, oa + i * 3 + 1, none⟩ = some (.string x.fn) ∧ X.cell? ⟨ba, oa + i * 3 + 2, none⟩ = some (.slice sa x.args.length sca) ∧ X.cell? ⟨bb, ob + i * 3, none⟩ = some (.int .i64 y.v) ∧ X.cell? ⟨bb, ob + i * 3 + 1, none⟩ = some (.string y.fn) ∧ X.cell? ⟨bb, ob + i * 3 + 2, none⟩ = some (.slice sb y.args.length scb)) (first | exact A0 | exact K3) (first
          | (go_at_call 53; refine hcall.mono ?_; rintro e W3 ⟨rfl, hS3, hO3⟩; have K3 := hS _ hO3; have HN : Hid (Sc W0 g p bp bc vn vw (L + szs (l.take (i + 1)) + szs (m.take (i + 1))) 0 (fun _ => 0) W3 ∧ Only [p, bc] W W3) := ⟨hS3.eq (by rw [HZ.out.1, HZ.out.2]; omega) HC.out.1 HC.out.2, HO.out _ hO3⟩; clear hS3 hO3))
        go_wp2
        go_roundw
        case rel => exact ⟨i + 1, rfl, by go_num, by go_num, by omega, HT, HN⟩
        case measure => simp [intOf]; omega
      · have HV : Hid (argsV g l m = kcmp g x y) := HV0.out hxy
        have hk0 : kcmp g x y ≠ 0 := fun h => hxy (kcmp_zero.1 h)
        have hkr := kcmp_rng g x y
        obtain ⟨k, hk⟩ : ∃ k, kcmp g x y = k := ⟨_, rfl⟩
        rw [hk] at hcall HV hk0 hkr
        clear hk hxy HV0
        have hkk : k = -1 ∨ k = 1 ∨ k = 2 := by omega
        clear hkr hk0
        rcases hkk with rfl | rfl | rfl
        · go_wp2
          go_region_held3 (fun X => X.cell? ⟨ba, oa + i * 3, none⟩ = some (.int .i64 x.v) ∧ X.cell? ⟨ba, oa + i * 3 + 1, none⟩ = some (.string x.fn) ∧ X.cell? ⟨ba, oa + i * 3 + 2, none⟩ = some (.slice sa x.args.length sca) ∧ X.cell? ⟨bb, ob + i * 3, none⟩ = some (.int .i64 y.v) ∧ X.cell? ⟨bb, ob + i * 3 + 1, none⟩ = some (.string y.fn) ∧ X.cell? ⟨bb, ob + i * 3 + 2, none⟩ = some (.slice sb y.args.length scb)) (first | exact A0 | exact K3) (first
            | (go_at_call 53; refine hcall.mono ?_; rintro e W2 ⟨rfl, hS3, hO3⟩; have K3 := hS _ hO3; have HN : Hid (Sc W0 g p bp bc vn vw (L + szs (l.take (i + 1)) + szs (m.take (i + 1))) (wdifs g (l.take (i + 1)) (m.take (i + 1))) (cdifs (l.take (i + 1)) (m.take (i + 1))) W2 ∧ Only [p, bc] W W2) := ⟨hS3.eq (by rw [HZ.out.1, HZ.out.2]; omega) (by rw [HX.out.1, HX.out.2, wdifs_snoc g HE.out]) (by rw [HX.out.1, HX.out.2, cdifs_snoc HE.out]), HO.out _ hO3⟩; clear hS3 hO3))
          clear K3 A0 hS hcall
          obtain ⟨Mid, hA1, hB1⟩ := rest_lay W0 g p bp bc vn vw l m L W HH.out.2.2.1 HH.out.2.2.2.1 hL (i + 1) W2 HN.out.1 HN.out.2
          by_cases hca : ca = i + 1
          · by_cases hcb : cb = i + 1
            · have oA := HH.out.1.end (i + 1) (by omega) hca
              have oB := HH.out.2.1.end (i + 1) (by have := HH.out.2.2.2.2.2; omega) hcb
              try simp only [Option.map_some, addr_add] at oA oB
              have HA : Hid (ArgsP (Off p bc) W _ _) := oA
              have HB : Hid (ArgsP (Off p bc) W _ _) := oB
              have hib : ((i : Int) + 1) ≤ (m.length : Int) := by omega
              have hia : ((i : Int) + 1) ≤ (l.length : Int) := by omega
              clear oA oB
              go_wp2_with fail
              refine (hA1 _ HA.out).mono ?_
              rintro e W3 ⟨⟨v3, rfl⟩, hM3⟩
              go_wp2_with fail
              refine (hB1 _ hM3 _ HB.out).mono ?_
              rintro e W4 ⟨⟨v4, rfl⟩, HF⟩
              go_wp2
              try rw [Exit.noGoto_ret]
              go_ret
              exact ⟨ret_i64 HV.out.symm, HF.out⟩
            · have oA := HH.out.1.end (i + 1) (by omega) hca
              have oB := HH.out.2.1.drop (i + 1) (by have := HH.out.2.2.2.2.2; omega)
              try simp only [Option.map_some, addr_add] at oA oB
              have HA : Hid (ArgsP (Off p bc) W _ _) := oA
              have HB : Hid (ArgsP (Off p bc) W _ _) := oB
              have hib : ((i : Int) + 1) ≤ (m.length : Int) := by omega
              have hia : ((i : Int) + 1) ≤ (l.length : Int) := by omega
              clear oA oB
              go_wp2_with fail
              refine (hA1 _ HA.out).mono ?_
              rintro e W3 ⟨⟨v3, rfl⟩, hM3⟩
              go_wp2_with fail
              refine (hB1 _ hM3 _ HB.out).mono ?_
              rintro e W4 ⟨⟨v4, rfl⟩, HF⟩
              go_wp2
              try rw [Exit.noGoto_ret]
              go_ret
              exact ⟨ret_i64 HV.out.symm, HF.out⟩
          · by_cases hcb : cb = i + 1
            · have oA := HH.out.1.drop (i + 1) (by omega)
              have oB := HH.out.2.1.end (i + 1) (by have := HH.out.2.2.2.2.2; omega) hcb
              try simp only [Option.map_some, addr_add] at oA oB
              have HA : Hid (ArgsP (Off p bc) W _ _) := oA
              have HB : Hid (ArgsP (Off p bc) W _ _) := oB
              have hib : ((i : Int) + 1) ≤ (m.length : Int) := by omega
              have hia : ((i : Int) + 1) ≤ (l.length : Int) := by omega
              clear oA oB
              go_wp2_with fail
              refine (hA1 _ HA.out).mono ?_
              rintro e W3 ⟨⟨v3, rfl⟩, hM3⟩
              go_wp2_with fail
              refine (hB1 _ hM3 _ HB.out).mono ?_
              rintro e W4 ⟨⟨v4, rfl⟩, HF⟩
              go_wp2
              try rw [Exit.noGoto_ret]
              go_ret
              exact ⟨ret_i64 HV.out.symm, HF.out⟩
            · have oA := HH.out.1.drop (i + 1) (by omega)
              have oB := HH.out.2.1.drop (i + 1) (by have := HH.out.2.2.2.2.2; omega)
              try simp only [Option.map_some, addr_add] at oA oB
              have HA : Hid (ArgsP (Off p bc) W _ _) := oA
              have HB : Hid (ArgsP (Off p bc) W _ _) := oB
              have hib : ((i : Int) + 1) ≤ (m.length : Int) := by omega
              have hia : ((i : Int) + 1) ≤ (l.length : Int) := by omega
              clear oA oB
              go_wp2_with fail
              refine (hA1 _ HA.out).mono ?_
              rintro e W3 ⟨⟨v3, rfl⟩, hM3⟩
              go_wp2_with fail
              refine (hB1 _ hM3 _ HB.out).mono ?_
              rintro e W4 ⟨⟨v4, rfl⟩, HF⟩
              go_wp2
              try rw [Exit.noGoto_ret]
              go_ret
              exact ⟨ret_i64 HV.out.symm, HF.out⟩
        · go_wp2
          go_region_held3 (fun X => X.cell? ⟨ba, oa + i * 3, none⟩ = some (.int .i64 x.v) ∧ X.cell? ⟨ba, oa + i * 3 + 1, none⟩ = some (.string x.fn) ∧ X.cell? ⟨ba, oa + i * 3 + 2, none⟩ = some (.slice sa x.args.length sca) ∧ X.cell? ⟨bb, ob + i * 3, none⟩ = some (.int .i64 y.v) ∧ X.cell? ⟨bb, ob + i * 3 + 1, none⟩ = some (.string y.fn) ∧ X.cell? ⟨bb, ob + i * 3 + 2, none⟩ = some (.slice sb y.args.length scb)) (first | exact A0 | exact K3) (first
            | (go_at_call 53; refine hcall.mono ?_; rintro e W2 ⟨rfl, hS3, hO3⟩; have K3 := hS _ hO3; have HN : Hid (Sc W0 g p bp bc vn vw (L + szs (l.take (i + 1)) + szs (m.take (i + 1))) (wdifs g (l.take (i + 1)) (m.take (i + 1))) (cdifs (l.take (i + 1)) (m.take (i + 1))) W2 ∧ Only [p, bc] W W2) := ⟨hS3.eq (by rw [HZ.out.1, HZ.out.2]; omega) (by rw [HX.out.1, HX.out.2, wdifs_snoc g HE.out]) (by rw [HX.out.1, HX.out.2, cdifs_snoc HE.out]), HO.out _ hO3⟩; clear hS3 hO3))
          clear K3 A0 hS hcall
          obtain ⟨Mid, hA1, hB1⟩ := rest_lay W0 g p bp bc vn vw l m L W HH.out.2.2.1 HH.out.2.2.2.1 hL (i + 1) W2 HN.out.1 HN.out.2
          by_cases hca : ca = i + 1
          · by_cases hcb : cb = i + 1
            · have oA := HH.out.1.end (i + 1) (by omega) hca
              have oB := HH.out.2.1.end (i + 1) (by have := HH.out.2.2.2.2.2; omega) hcb
              try simp only [Option.map_some, addr_add] at oA oB
              have HA : Hid (ArgsP (Off p bc) W _ _) := oA
              have HB : Hid (ArgsP (Off p bc) W _ _) := oB
              have hib : ((i : Int) + 1) ≤ (m.length : Int) := by omega
              have hia : ((i : Int) + 1) ≤ (l.length : Int) := by omega
              clear oA oB
              go_wp2_with fail
              refine (hA1 _ HA.out).mono ?_
              rintro e W3 ⟨⟨v3, rfl⟩, hM3⟩
              go_wp2_with fail
              refine (hB1 _ hM3 _ HB.out).mono ?_
              rintro e W4 ⟨⟨v4, rfl⟩, HF⟩
              go_wp2
              try rw [Exit.noGoto_ret]
              go_ret
              exact ⟨ret_i64 HV.out.symm, HF.out⟩
            · have oA := HH.out.1.end (i + 1) (by omega) hca
              have oB := HH.out.2.1.drop (i + 1) (by have := HH.out.2.2.2.2.2; omega)
              try simp only [Option.map_some, addr_add] at oA oB
              have HA : Hid (ArgsP (Off p bc) W _ _) := oA
              have HB : Hid (ArgsP (Off p bc) W _ _) := oB
              have hib : ((i : Int) + 1) ≤ (m.length : Int) := by omega
              have hia : ((i : Int) + 1) ≤ (l.length : Int) := by omega
              clear oA oB
              go_wp2_with fail
              refine (hA1 _ HA.out).mono ?_
              rintro e W3 ⟨⟨v3, rfl⟩, hM3⟩
              go_wp2_with fail
              refine (hB1 _ hM3 _ HB.out).mono ?_
              rintro e W4 ⟨⟨v4, rfl⟩, HF⟩
              go_wp2
              try rw [Exit.noGoto_ret]
              go_ret
              exact ⟨ret_i64 HV.out.symm, HF.out⟩
          · by_cases hcb : cb = i + 1
            · have oA := HH.out.1.drop (i + 1) (by omega)
              have oB := HH.out.2.1.end (i + 1) (by have := HH.out.2.2.2.2.2; omega) hcb
              try simp only [Option.map_some, addr_add] at oA oB
              have HA : Hid (ArgsP (Off p bc) W _ _) := oA
              have HB : Hid (ArgsP (Off p bc) W _ _) := oB
              have hib : ((i : Int) + 1) ≤ (m.length : Int) := by omega
              have hia : ((i : Int) + 1) ≤ (l.length : Int) := by omega
              clear oA oB
              go_wp2_with fail
              refine (hA1 _ HA.out).mono ?_
              rintro e W3 ⟨⟨v3, rfl⟩, hM3⟩
              go_wp2_with fail
              refine (hB1 _ hM3 _ HB.out).mono ?_
              rintro e W4 ⟨⟨v4, rfl⟩, HF⟩
              go_wp2
              try rw [Exit.noGoto_ret]
              go_ret
              exact ⟨ret_i64 HV.out.symm, HF.out⟩
            · have oA := HH.out.1.drop (i + 1) (by omega)
              have oB := HH.out.2.1.drop (i + 1) (by have := HH.out.2.2.2.2.2; omega)
              try simp only [Option.map_some, addr_add] at oA oB
              have HA : Hid (ArgsP (Off p bc) W _ _) := oA
              have HB : Hid (ArgsP (Off p bc) W _ _) := oB
              have hib : ((i : Int) + 1) ≤ (m.length : Int) := by omega
              have hia : ((i : Int) + 1) ≤ (l.length : Int) := by omega
              clear oA oB
              go_wp2_with fail
              refine (hA1 _ HA.out).mono ?_
              rintro e W3 ⟨⟨v3, rfl⟩, hM3⟩
              go_wp2_with fail
              refine (hB1 _ hM3 _ HB.out).mono ?_
              rintro e W4 ⟨⟨v4, rfl⟩, HF⟩
              go_wp2
              try rw [Exit.noGoto_ret]
              go_ret
              exact ⟨ret_i64 HV.out.symm, HF.out⟩
        · go_wp2
          go_region_held3 (fun X => X.cell? ⟨ba, oa + i * 3, none⟩ = some (.int .i64 x.v) ∧ X.cell? ⟨ba, oa + i * 3 + 1, none⟩ = some (.string x.fn) ∧ X.cell? ⟨ba, oa + i * 3 + 2, none⟩ = some (.slice sa x.args.length sca) ∧ X.cell? ⟨bb, ob + i * 3, none⟩ = some (.int .i64 y.v) ∧ X.cell? ⟨bb, ob + i * 3 + 1, none⟩ = some (.string y.fn) ∧ X.cell? ⟨bb, ob + i * 3 + 2, none⟩ = some (.slice sb y.args.length scb)) (first | exact A0 | exact K3) (first
            | (go_at_call 53; refine hcall.mono ?_; rintro e W2 ⟨rfl, hS3, hO3⟩; have K3 := hS _ hO3; have HN : Hid (Sc W0 g p bp bc vn vw (L + szs (l.take (i + 1)) + szs (m.take (i + 1))) (wdifs g (l.take (i + 1)) (m.take (i + 1))) (cdifs (l.take (i + 1)) (m.take (i + 1))) W2 ∧ Only [p, bc] W W2) := ⟨hS3.eq (by rw [HZ.out.1, HZ.out.2]; omega) (by rw [HX.out.1, HX.out.2, wdifs_snoc g HE.out]) (by rw [HX.out.1, HX.out.2, cdifs_snoc HE.out]), HO.out _ hO3⟩; clear hS3 hO3))
          clear K3 A0 hS hcall
          obtain ⟨Mid, hA1, hB1⟩ := rest_lay W0 g p bp bc vn vw l m L W HH.out.2.2.1 HH.out.2.2.2.1 hL (i + 1) W2 HN.out.1 HN.out.2
          by_cases hca : ca = i + 1
          · by_cases hcb : cb = i + 1
            · have oA := HH.out.1.end (i + 1) (by omega) hca
              have oB := HH.out.2.1.end (i + 1) (by have := HH.out.2.2.2.2.2; omega) hcb
              try simp only [Option.map_some, addr_add] at oA oB
              have HA : Hid (ArgsP (Off p bc) W _ _) := oA
              have HB : Hid (ArgsP (Off p bc) W _ _) := oB
              have hib : ((i : Int) + 1) ≤ (m.length : Int) := by omega
              have hia : ((i : Int) + 1) ≤ (l.length : Int) := by omega
              clear oA oB
              go_wp2_with fail
              refine (hA1 _ HA.out).mono ?_
              rintro e W3 ⟨⟨v3, rfl⟩, hM3⟩
              go_wp2_with fail
              refine (hB1 _ hM3 _ HB.out).mono ?_
              rintro e W4 ⟨⟨v4, rfl⟩, HF⟩
              go_wp2
              try rw [Exit.noGoto_ret]
              go_ret
              exact ⟨ret_i64 HV.out.symm, HF.out⟩
            · have oA := HH.out.1.end (i + 1) (by omega) hca
              have oB := HH.out.2.1.drop (i + 1) (by have := HH.out.2.2.2.2.2; omega)
              try simp only [Option.map_some, addr_add] at oA oB
              have HA : Hid (ArgsP (Off p bc) W _ _) := oA
              have HB : Hid (ArgsP (Off p bc) W _ _) := oB
              have hib : ((i : Int) + 1) ≤ (m.length : Int) := by omega
              have hia : ((i : Int) + 1) ≤ (l.length : Int) := by omega
              clear oA oB
              go_wp2_with fail
              refine (hA1 _ HA.out).mono ?_
              rintro e W3 ⟨⟨v3, rfl⟩, hM3⟩
              go_wp2_with fail
              refine (hB1 _ hM3 _ HB.out).mono ?_
              rintro e W4 ⟨⟨v4, rfl⟩, HF⟩
              go_wp2
              try rw [Exit.noGoto_ret]
              go_ret
              exact ⟨ret_i64 HV.out.symm, HF.out⟩
          · by_cases hcb : cb = i + 1
            · have oA := HH.out.1.drop (i + 1) (by omega)
              have oB := HH.out.2.1.end (i + 1) (by have := HH.out.2.2.2.2.2; omega) hcb
              try simp only [Option.map_some, addr_add] at oA oB
              have HA : Hid (ArgsP (Off p bc) W _ _) := oA
              have HB : Hid (ArgsP (Off p bc) W _ _) := oB
              have hib : ((i : Int) + 1) ≤ (m.length : Int) := by omega
              have hia : ((i : Int) + 1) ≤ (l.length : Int) := by omega
              clear oA oB
              go_wp2_with fail
              refine (hA1 _ HA.out).mono ?_
              rintro e W3 ⟨⟨v3, rfl⟩, hM3⟩
              go_wp2_with fail
              refine (hB1 _ hM3 _ HB.out).mono ?_
              rintro e W4 ⟨⟨v4, rfl⟩, HF⟩
              go_wp2
              try rw [Exit.noGoto_ret]
              go_ret
              exact ⟨ret_i64 HV.out.symm, HF.out⟩
            · have oA := HH.out.1.drop (i + 1) (by omega)
              have oB := HH.out.2.1.drop (i + 1) (by have := HH.out.2.2.2.2.2; omega)
              try simp only [Option.map_some, addr_add] at oA oB
              have HA : Hid (ArgsP (Off p bc) W _ _) := oA
              have HB : Hid (ArgsP (Off p bc) W _ _) := oB
              have hib : ((i : Int) + 1) ≤ (m.length : Int) := by omega
              have hia : ((i : Int) + 1) ≤ (l.length : Int) := by omega
              clear oA oB
              go_wp2_with fail
              refine (hA1 _ HA.out).mono ?_
              rintro e W3 ⟨⟨v3, rfl⟩, hM3⟩
              go_wp2_with fail
              refine (hB1 _ hM3 _ HB.out).mono ?_
              rintro e W4 ⟨⟨v4, rfl⟩, HF⟩
              go_wp2
              try rw [Exit.noGoto_ret]
              go_ret
              exact ⟨ret_i64 HV.out.symm, HF.out⟩
    · have hie : i = l.length := by omega
      have HV : Hid (argsV g l m = 0) := by
        have h1 := HE.out
        rw [hie, List.take_length, HH.out.2.2.2.2.2, List.take_length] at h1
        rw [h1]
        exact argsV_same g m
      obtain ⟨Mid, hA1, hB1⟩ := rest_lay W0 g p bp bc vn vw l m L W HH.out.2.2.1 HH.out.2.2.2.1 hL i wr (by
        rw [wdifs_same g HE.out, cdifs_same HE.out]
        exact HI.out.1) HI.out.2
      clear hie
      by_cases hca : ca = i
      · by_cases hcb : cb = i
        · have oA := HH.out.1.end i (by omega) hca
          have oB := HH.out.2.1.end i (by have := HH.out.2.2.2.2.2; omega) hcb
          have HA : Hid (ArgsP (Off p bc) W _ _) := oA
          have HB : Hid (ArgsP (Off p bc) W _ _) := oB
          have hib : ((i : Nat) : Int) ≤ (m.length : Int) := by have := HH.out.2.2.2.2.2; omega
          clear oA oB
          go_wp2_with fail
          refine (hA1 _ HA.out).mono ?_
          rintro e W3 ⟨⟨v3, rfl⟩, hM3⟩
          go_wp2_with fail
          refine (hB1 _ hM3 _ HB.out).mono ?_
          rintro e W4 ⟨⟨v4, rfl⟩, HF⟩
          go_wp2
          try rw [Exit.noGoto_ret]
          go_ret
          exact ⟨ret_i64 HV.out.symm, HF.out⟩
        · have oA := HH.out.1.end i (by omega) hca
          have oB := HH.out.2.1.drop i (by have := HH.out.2.2.2.2.2; omega)
          have HA : Hid (ArgsP (Off p bc) W _ _) := oA
          have HB : Hid (ArgsP (Off p bc) W _ _) := oB
          have hib : ((i : Nat) : Int) ≤ (m.length : Int) := by have := HH.out.2.2.2.2.2; omega
          clear oA oB
          go_wp2_with fail
          refine (hA1 _ HA.out).mono ?_
          rintro e W3 ⟨⟨v3, rfl⟩, hM3⟩
          go_wp2_with fail
          refine (hB1 _ hM3 _ HB.out).mono ?_
          rintro e W4 ⟨⟨v4, rfl⟩, HF⟩
          go_wp2
          try rw [Exit.noGoto_ret]
          go_ret
          exact ⟨ret_i64 HV.out.symm, HF.out⟩
      · by_cases hcb : cb = i
        · have oA := HH.out.1.drop i (by omega)
          have oB := HH.out.2.1.end i (by have := HH.out.2.2.2.2.2; omega) hcb
          have HA : Hid (ArgsP (Off p bc) W _ _) := oA
          have HB : Hid (ArgsP (Off p bc) W _ _) := oB
          have hib : ((i : Nat) : Int) ≤ (m.length : Int) := by have := HH.out.2.2.2.2.2; omega
          clear oA oB
          go_wp2_with fail
          refine (hA1 _ HA.out).mono ?_
          rintro e W3 ⟨⟨v3, rfl⟩, hM3⟩
          go_wp2_with fail
          refine (hB1 _ hM3 _ HB.out).mono ?_
          rintro e W4 ⟨⟨v4, rfl⟩, HF⟩
          go_wp2
          try rw [Exit.noGoto_ret]
          go_ret
          exact ⟨ret_i64 HV.out.symm, HF.out⟩
        · have oA := HH.out.1.drop i (by omega)
          have oB := HH.out.2.1.drop i (by have := HH.out.2.2.2.2.2; omega)
          have HA : Hid (ArgsP (Off p bc) W _ _) := oA
          have HB : Hid (ArgsP (Off p bc) W _ _) := oB
          have hib : ((i : Nat) : Int) ≤ (m.length : Int) := by have := HH.out.2.2.2.2.2; omega
          clear oA oB
          go_wp2_with fail
          refine (hA1 _ HA.out).mono ?_
          rintro e W3 ⟨⟨v3, rfl⟩, hM3⟩
          go_wp2_with fail
          refine (hB1 _ hM3 _ HB.out).mono ?_
          rintro e W4 ⟨⟨v4, rfl⟩, HF⟩
          go_wp2
          try rw [Exit.noGoto_ret]
          go_ret
          exact ⟨ret_i64 HV.out.symm, HF.out⟩
end Go.Proofs.YtglphfhlpobgcaaGreat

namespace Go.Proofs.YtglphfhlpobgcaaGreat
open Go.RowKit
theorem fe_vle {x y : T} (hs : ∀ v, v < 0 ∨ 1000000 ≤ v → cdif x y v = 0) : 0 < fe (cdif x y) ↔ ¬ vle y x := by
  rw [fe_pos hs]
  unfold vle cdif
  constructor
  · rintro ⟨v, h⟩ k
    have := k v
    omega
  · intro h
    refine Classical.byContradiction fun k => h fun v => ?_
    refine Classical.byContradiction fun k2 => k ⟨v, ?_⟩
    omega
theorem mo_vle {x y : T} (hs : ∀ v, v < 0 ∨ 1000000 ≤ v → cdif x y v = 0) : 0 < mo (cdif x y) ↔ ¬ vle x y := by
  rw [mo_pos hs]
  unfold vle cdif
  constructor
  · rintro ⟨v, h⟩ k
    have := k v
    omega
  · intro h
    refine Classical.byContradiction fun k => h fun v => ?_
    refine Classical.byContradiction fun k2 => k ⟨v, ?_⟩
    omega
theorem argsV_one (g : Sg) : ∀ l m : List T, argsV g l m = 1 ↔ gr.grs g l m
  | [], [] => by simp [argsV, gr.grs]
  | [], _ :: _ => by simp [argsV, gr.grs]
  | _ :: _, [] => by simp [argsV, gr.grs]
  | a :: r, b :: s => by
    simp only [argsV, gr.grs]
    by_cases e : a = b
    · rw [if_pos e, argsV_one g r s]
      simp [e]
    · rw [if_neg e, kcmp_gr]
      simp [e]
theorem argsV_neg (g : Sg) : ∀ l m : List T, argsV g l m = -1 ↔ gr.grs g m l
  | [], [] => by simp [argsV, gr.grs]
  | [], _ :: _ => by simp [argsV, gr.grs]
  | _ :: _, [] => by simp [argsV, gr.grs]
  | a :: r, b :: s => by
    simp only [argsV, gr.grs]
    by_cases e : a = b
    · rw [if_pos e, argsV_neg g r s]
      simp [e]
    · have e' : ¬ b = a := fun h => e h.symm
      rw [if_neg e, kcmp_ls]
      simp [e']
theorem argsV_zero (g : Sg) : ∀ l m : List T, l.length = m.length → argsV g l m = 0 → l = m
  | [], [], _, _ => rfl
  | [], _ :: _, h, _ => by simp at h
  | _ :: _, [], h, _ => by simp at h
  | a :: r, b :: s, h, k => by
    simp only [argsV] at k
    by_cases e : a = b
    · rw [if_pos e] at k
      rw [e, argsV_zero g r s (by simpa using h) k]
    · rw [if_neg e] at k
      exact absurd (kcmp_zero.1 k) e
theorem argsV_rng (g : Sg) : ∀ l m : List T, argsV g l m = 0 ∨ argsV g l m = 1 ∨ argsV g l m = -1 ∨ argsV g l m = 2
  | [], [] => .inl rfl
  | [], _ :: _ => .inl rfl
  | _ :: _, [] => .inl rfl
  | a :: r, b :: s => by
    simp only [argsV]
    split
    · exact argsV_rng g r s
    · exact kcmp_rng g a b
theorem told_wt {g : Sg} {x y : T} {o : Int} (hs : ∀ v, v < 0 ∨ 1000000 ≤ v → cdif x y v = 0) (h : x.wt g ≠ y.wt g) : toldV o (x.wt g - y.wt g) (mo (cdif x y)) (fe (cdif x y)) = kcmp g x y := by
  have hne : x ≠ y := fun e => h (by rw [e])
  have hF := fe_vle hs
  have hM := mo_vle hs
  unfold toldV ordV
  rw [if_neg (show ¬ x.wt g - y.wt g = 0 by omega)]
  by_cases hp : y.wt g < x.wt g
  · have e : cI (x.wt g - y.wt g) 0 = 1 := by unfold cI Lib.compareInt; rw [if_neg (by omega), if_pos (by omega)]
    rw [e]
    have hyx : ¬ gr g y x := fun k => by
      rcases ((gr_eq g y x).1 k).2 with k | ⟨k, _⟩ <;> omega
    by_cases hf : 0 < fe (cdif x y)
    · rw [if_pos (.inl ⟨rfl, hf⟩)]
      exact (kcmp_none hne (fun k => hF.1 hf ((gr_eq g x y).1 k).1) hyx).symm
    · rw [if_neg (by omega)]
      exact (kcmp_gr.2 ((gr_eq g x y).2 ⟨Classical.byContradiction fun k => hf (hF.2 k), .inl hp⟩)).symm
  · have e : cI (x.wt g - y.wt g) 0 = -1 := by unfold cI Lib.compareInt; rw [if_pos (by omega)]
    rw [e]
    have hxy : ¬ gr g x y := fun k => by
      rcases ((gr_eq g x y).1 k).2 with k | ⟨k, _⟩ <;> omega
    by_cases hf : 0 < mo (cdif x y)
    · rw [if_pos (.inr ⟨rfl, hf⟩)]
      exact (kcmp_none hne hxy (fun k => hM.1 hf ((gr_eq g y x).1 k).1)).symm
    · rw [if_neg (by omega)]
      exact (kcmp_ls.2 ((gr_eq g y x).2 ⟨Classical.byContradiction fun k => hf (hM.2 k), .inl (by omega)⟩)).symm
theorem told_tie {g : Sg} {x y : T} {o : Int} (hs : ∀ v, v < 0 ∨ 1000000 ≤ v → cdif x y v = 0) (h : x.wt g = y.wt g)
    (h0 : o = 0 → x = y) (h1 : o = 1 → (vle y x → gr g x y) ∧ ¬ gr g y x ∧ x ≠ y) (h2 : o = -1 → (vle x y → gr g y x) ∧ ¬ gr g x y ∧ x ≠ y) (h3 : o = 2 → x ≠ y ∧ ¬ gr g x y ∧ ¬ gr g y x) (hr : o = 0 ∨ o = 1 ∨ o = -1 ∨ o = 2) :
    toldV o (x.wt g - y.wt g) (mo (cdif x y)) (fe (cdif x y)) = kcmp g x y := by
  have hF := fe_vle hs
  have hM := mo_vle hs
  unfold toldV ordV
  rw [if_pos (show x.wt g - y.wt g = 0 by omega)]
  rcases hr with rfl | rfl | rfl | rfl
  · rw [if_neg (by omega)]
    exact (kcmp_zero.2 (h0 rfl)).symm
  · obtain ⟨k1, k2, k3⟩ := h1 rfl
    by_cases hf : 0 < fe (cdif x y)
    · rw [if_pos (.inl ⟨rfl, hf⟩)]
      exact (kcmp_none k3 (fun k => hF.1 hf ((gr_eq g x y).1 k).1) k2).symm
    · rw [if_neg (by omega)]
      exact (kcmp_gr.2 (k1 (Classical.byContradiction fun k => hf (hF.2 k)))).symm
  · obtain ⟨k1, k2, k3⟩ := h2 rfl
    by_cases hf : 0 < mo (cdif x y)
    · rw [if_pos (.inr ⟨rfl, hf⟩)]
      exact (kcmp_none k3 k2 (fun k => hM.1 hf ((gr_eq g y x).1 k).1)).symm
    · rw [if_neg (by omega)]
      exact (kcmp_ls.2 (k1 (Classical.byContradiction fun k => hf (hM.2 k)))).symm
  · obtain ⟨k1, k2, k3⟩ := h3 rfl
    rw [if_neg (by omega)]
    exact (kcmp_none k1 k2 k3).symm
theorem sym_asymm {g : Sg} {a b : ByteArray} {k l : Nat} (h : g.sym a b k l) : ¬ g.sym b a l k := fun h' => sym_irrefl g a k (sym_trans h h')
theorem sym_ne {g : Sg} {a b : ByteArray} {k l : Nat} (h : g.sym a b k l) : ¬ (a = b ∧ k = l) := fun ⟨e1, e2⟩ => by
  subst e1 e2
  exact sym_irrefl g a k h
theorem told_heads {g : Sg} {x y : T} (hx : x.shape = true) (hy : y.shape = true) (hs : ∀ v, v < 0 ∨ 1000000 ≤ v → cdif x y v = 0) (hd : x.fn.size = 0 ∨ y.fn.size = 0 ∨ x.fn ≠ y.fn ∨ x.args.length ≠ y.args.length) :
    toldV (headsV g x y) (x.wt g - y.wt g) (mo (cdif x y)) (fe (cdif x y)) = kcmp g x y := by
  by_cases hw : x.wt g = y.wt g
  · unfold headsV
    by_cases c1 : x.fn.size = 0 ∧ y.fn.size = 0 ∧ x.v = y.v
    · rw [if_pos c1]
      refine told_tie hs hw (fun _ => ?_) (fun h => by omega) (fun h => by omega) (fun h => by omega) (.inl rfl)
      rcases shape_cases hx with ⟨_, _, _, ha⟩ | ⟨h, _⟩
      · rcases shape_cases hy with ⟨_, _, _, hb⟩ | ⟨h, _⟩
        · exact same_ext c1.2.2 (by rw [ba_empty.1 c1.1, ba_empty.1 c1.2.1]) (by rw [ha, hb])
        · exact absurd c1.2.1 h
      · exact absurd c1.1 h
    · rw [if_neg c1]
      by_cases c2 : x.fn.size = 0 ∨ y.fn.size = 0
      · rw [if_pos c2]
        refine told_tie hs hw (fun h => by omega) (fun h => by omega) (fun h => by omega) (fun _ => ⟨fun e => c1 ?_, fun k => ?_, fun k => ?_⟩) (.inr (.inr (.inr rfl)))
        · subst e
          exact ⟨c2.elim id id, c2.elim id id, rfl⟩
        · rcases ((gr_eq g x y).1 k).2 with k | ⟨_, k1, k2, _⟩
          · omega
          · exact c2.elim k1 k2
        · rcases ((gr_eq g y x).1 k).2 with k | ⟨_, k1, k2, _⟩
          · omega
          · exact c2.elim k2 k1
      · rw [if_neg c2]
        have n1 : x.fn.size ≠ 0 := fun h => c2 (.inl h)
        have n2 : y.fn.size ≠ 0 := fun h => c2 (.inr h)
        have hd' : x.fn ≠ y.fn ∨ x.args.length ≠ y.args.length := by
          rcases hd with h | h | h
          · exact absurd h n1
          · exact absurd h n2
          · exact h
        have hne : x ≠ y := fun e => by subst e; rcases hd' with h | h <;> exact h rfl
        have no : ∀ a b : T, a.wt g = b.wt g → g.sym a.fn b.fn a.args.length b.args.length → ¬ gr g b a := fun a b hab h k => by
          rcases ((gr_eq g b a).1 k).2 with k | ⟨_, _, _, k | ⟨k1, k2, _⟩⟩
          · omega
          · exact sym_asymm h k
          · exact sym_ne h ⟨k1.symm, k2.symm⟩
        by_cases c3 : g.above x.fn y.fn = true ∨ (x.fn = y.fn ∧ y.args.length < x.args.length)
        · rw [if_pos c3]
          have c3' : g.sym x.fn y.fn x.args.length y.args.length := c3
          exact told_tie hs hw (fun h => by omega) (fun _ => ⟨fun hv => (gr_eq g x y).2 ⟨hv, .inr ⟨hw, n1, n2, .inl c3'⟩⟩, no x y hw c3', hne⟩) (fun h => by omega) (fun h => by omega) (.inr (.inl rfl))
        · rw [if_neg c3]
          have c3' : g.sym y.fn x.fn y.args.length x.args.length := by
            rcases sym_total g hd' with h | h
            · exact absurd h c3
            · exact h
          exact told_tie hs hw (fun h => by omega) (fun h => by omega) (fun _ => ⟨fun hv => (gr_eq g y x).2 ⟨hv, .inr ⟨hw.symm, n2, n1, .inl c3'⟩⟩, no y x hw.symm c3', hne⟩) (fun h => by omega) (.inr (.inr (.inl rfl)))
  · exact told_wt hs hw
theorem told_args {g : Sg} {x y : T} (hx : x.shape = true) (hy : y.shape = true) (hs : ∀ v, v < 0 ∨ 1000000 ≤ v → cdif x y v = 0) (n1 : x.fn.size ≠ 0) (hf : x.fn = y.fn) (hl : x.args.length = y.args.length) :
    toldV (argsV g x.args y.args) (x.wt g - y.wt g) (mo (cdif x y)) (fe (cdif x y)) = kcmp g x y := by
  have n2 : y.fn.size ≠ 0 := by rw [← hf]; exact n1
  by_cases hw : x.wt g = y.wt g
  · have ns : ∀ a b : T, a.fn = b.fn → a.args.length = b.args.length → ¬ g.sym a.fn b.fn a.args.length b.args.length := fun a b h1 h2 h => sym_ne h ⟨h1, h2⟩
    have xy : gr g x y ↔ vle y x ∧ gr.grs g x.args y.args := by
      rw [gr_eq]
      constructor
      · rintro ⟨h1, h2 | ⟨_, _, _, h2 | ⟨_, _, h2⟩⟩⟩
        · omega
        · exact absurd h2 (ns x y hf hl)
        · exact ⟨h1, h2⟩
      · rintro ⟨h1, h2⟩
        exact ⟨h1, .inr ⟨hw, n1, n2, .inr ⟨hf, hl, h2⟩⟩⟩
    have yx : gr g y x ↔ vle x y ∧ gr.grs g y.args x.args := by
      rw [gr_eq]
      constructor
      · rintro ⟨h1, h2 | ⟨_, _, _, h2 | ⟨_, _, h2⟩⟩⟩
        · omega
        · exact absurd h2 (ns y x hf.symm hl.symm)
        · exact ⟨h1, h2⟩
      · rintro ⟨h1, h2⟩
        exact ⟨h1, .inr ⟨hw.symm, n2, n1, .inr ⟨hf.symm, hl.symm, h2⟩⟩⟩
    have a1 := argsV_one g x.args y.args
    have a2 := argsV_neg g x.args y.args
    have hne : argsV g x.args y.args ≠ 0 → x ≠ y := fun h e => h (by rw [e]; exact argsV_same g y.args)
    refine told_tie hs hw (fun h => ?_) (fun h => ⟨fun hv => xy.2 ⟨hv, a1.1 h⟩, fun k => ?_, hne (by omega)⟩) (fun h => ⟨fun hv => yx.2 ⟨hv, a2.1 h⟩, fun k => ?_, hne (by omega)⟩) (fun h => ⟨hne (by omega), fun k => ?_, fun k => ?_⟩) (argsV_rng g _ _)
    · have := argsV_zero g _ _ hl h
      rcases shape_cases hx with ⟨h, _⟩ | ⟨_, v1, _⟩
      · exact absurd h n1
      · rcases shape_cases hy with ⟨h, _⟩ | ⟨_, v2, _⟩
        · exact absurd h n2
        · exact same_ext (by rw [v1, v2]) hf this
    · have := a2.2 (yx.1 k).2
      omega
    · have := a1.2 (xy.1 k).2
      omega
    · have := a1.2 (xy.1 k).2
      omega
    · have := a2.2 (yx.1 k).2
      omega
  · exact told_wt hs hw
theorem wdifs_args {g : Sg} {x y : T} (hf : x.fn = y.fn) : wdifs g x.args y.args = x.wt g - y.wt g := by
  unfold wdifs
  rw [x.wt_eq, y.wt_eq, hf]
  omega
theorem cdifs_args {x y : T} (h1 : x.fn.size ≠ 0) (h2 : y.fn.size ≠ 0) : cdifs x.args y.args = cdif x y := by
  funext v
  unfold cdifs cdif
  rw [x.vs_eq, y.vs_eq, if_neg h1, if_neg h2, List.nil_append, List.nil_append]
theorem wadd_one (g : Sg) (x y : T) : wadd g (wadd g 0 1 [x]) (-1) [y] = x.wt g - y.wt g := by
  simp only [wadd, List.map_cons, List.map_nil, List.sum_cons, List.sum_nil]
  omega
theorem cadd_one (x y : T) : cadd (cadd (fun _ => 0) 1 [x]) (-1) [y] = cdif x y := by
  funext v
  simp only [cadd, cdif, List.map_cons, List.map_nil, List.flatten_cons, List.flatten_nil, List.append_nil]
  omega
theorem szs_one (x : T) : szs [x] = 2 * x.size.toNat := by simp [szs]
end Go.Proofs.YtglphfhlpobgcaaGreat
