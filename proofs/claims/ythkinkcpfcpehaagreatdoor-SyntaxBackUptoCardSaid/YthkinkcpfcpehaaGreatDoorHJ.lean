import Derived.Test.YthkinkcpfcpehaaGreatDoorHH
import Derived.Test.YthkinkcpfcpehaaGreatDoorHF
namespace Go.Proofs.YthkinkcpfcpehaaGreatDoor
set_option maxRecDepth 100000
set_option maxHeartbeats 8000000
section
open Go.RowKit Go.Shelf
theorem trimAt_any (s : ByteArray) (h : Lib.hasPrefix s.data.toList [64] = true) (w : World) : Calls Tryz.prog 110 #[.string s, .string ⟨#[64]⟩] w fun e w' => e = .returned (.string (s.extract 1 s.size)) ∧ w' = w := by
  have hs : 1 ≤ s.size := hasP_pos h
  have hs1 : (1 : Int) ≤ (s.size : Int) := by omega
  have hc : ∀ W, Calls Tryz.prog 179 #[.string s, .string ⟨#[64]⟩] W fun e w' => e = .returned (.bool true) ∧ w' = W := fun W => by
    have := Lx.Tryz.stringslite_HasPrefix s ⟨#[64]⟩ W
    rw [show Lib.hasPrefix s.data.toList (⟨#[64]⟩ : ByteArray).data.toList = true from h] at this
    exact this
  have h1 : (⟨#[64]⟩ : ByteArray).size = 1 := rfl
  have hi : ∀ W, Calls Tryz.prog 149 #[.string s, .string ⟨#[64]⟩] W fun e w' => e = .returned (.string (s.extract 1 s.size)) ∧ w' = W := fun W => by
    go_enter Tryz.func149, Tryz.ntmps149
    go_wp2_with fail
    refine (hc _).mono ?_
    rintro e W2 ⟨rfl, rfl⟩
    go_wp2
    go_ret
    exact ⟨rfl, rfl⟩
  clear hc h
  go_enter Tryz.func110, Tryz.ntmps110
  go_wp2_with fail
  refine (hi _).mono ?_
  rintro e W2 ⟨rfl, rfl⟩
  go_wp2
  go_ret
  exact ⟨rfl, rfl⟩
/-- A predicate's name and arguments. -/
def predT (f : Fm) : T := .mk 0 (f.l.fn.extract 1 f.l.fn.size) f.l.args
/-- The text of an atom. -/
def shA (f : Fm) (sign : ByteArray) : List UInt8 := if pB f = true then shT (predT f) else shT f.l ++ ([32] ++ sign.data.toList ++ [32]) ++ shT f.r
theorem KidsP.kp {B : Nat} {W W' : World} {v : Value} {l : List Fm} (h : KidsP (fun k => k < B) W v l) (hk : Kp B W W') : KidsP (fun k => k < B) W' v l :=
  h.keep hk.size fun k hP hl => ⟨hP, hk.blk k hl (Nat.ne_of_lt hP) (fun hb => absurd hb (by omega))⟩
theorem FmP.kp {B : Nat} {W W' : World} {f : Fm} {sl sr sk : Value} (h : FmP (fun k => k < B) W f sl sr sk) (hk : Kp B W W') : FmP (fun k => k < B) W' f sl sr sk := ⟨h.l.kp hk, h.r.kp hk, h.k.kp hk⟩
theorem watom_any {f : Fm} (hn : f.nsm) {B : Nat} {l : List UInt8} {w : World} {sl sr sk : Value} (sign : ByteArray) (h : Wr B l w) (hf : FmP (fun k => k < B) w f sl sr sk) (hlen : l.length + (shA f sign).length ≤ 140737488355328) :
    Calls Tryz.prog 66 #[.pointer (some ⟨B, 0, none⟩), fval f sl sr sk, .string sign] w fun e w' => e = .returned (.tuple #[]) ∧ Wr B (l ++ shA f sign) w' ∧ Kp B w w' := by
  have hb0 := below_box w (fbox f sl sr sk)
  have hz0 := (MapKept.heap_alloc w (fbox f sl sr sk)).1
  have hlt := h.lt
  have h0 := h.keep hb0
  have hf0 := hf.kp (Kp.of_below (B := B) hb0)
  have hc := isPred_any hf0
  obtain ⟨W0, hW0⟩ : ∃ X : World, w.alloc (fbox f sl sr sk) = X := ⟨_, rfl⟩
  obtain ⟨R, hR⟩ : ∃ R, w.heap.size = R := ⟨_, rfl⟩
  rw [hW0] at hb0 hz0 h0 hf0 hc
  rw [hR] at hz0 hlt
  have hRB : R ≠ B := by omega
  obtain ⟨la, lc, rfl, _, _⟩ := hf.l.slice'
  obtain ⟨ra, rc, rfl, _, _⟩ := hf.r.slice'
  obtain ⟨ka, kc, rfl, _, _⟩ := hf.k.slice
  have HE : Hid (shA f sign = if pB f = true then shT (predT f) else shT f.l ++ ([32] ++ sign.data.toList ++ [32]) ++ shT f.r) := rfl
  have HW0 := hidR hW0
  have HL := hidR hlen
  have HN := hidR hn
  have hps : Hid (pB f = true → Lib.hasPrefix f.l.fn.data.toList [64] = true) := fun h => h
  obtain ⟨p, hp⟩ : ∃ b, pB f = b := ⟨_, rfl⟩
  rw [hp] at hc HE hps
  have H0 := hidR (And.intro (Kp.of_below (B := B) hb0) (And.intro h0 (And.intro hf0 hz0)))
  obtain ⟨⟨n0, n1, n2, n3, n4, n5, n6, n7, n8⟩, -⟩ := f_cells hz0
  clear h hf hlen hn hb0 hz0 h0 hf0 hW0 hp hlt
  go_enter Tryz.func66, Tryz.ntmps66
  go_upto_region 1 with fail
  try simp only [hR]
  rw [show _ = W0 from HW0.out]
  clear HW0
  go_wp2_with fail
  refine hc.mono ?_
  rintro e W1 ⟨rfl, hb1⟩
  clear hc n0 n1 n2 n3 n4 n5 n6 n7 n8
  have hz1 : W1.heap[R]? = some _ := (hb1.block R (Array.getElem?_eq_some_iff.1 H0.out.2.2.2).1).trans H0.out.2.2.2
  have hw1 := H0.out.2.1.keep hb1
  have hf1 := H0.out.2.2.1.kp (Kp.of_below (B := B) hb1)
  have HK1 := hidR (H0.out.1.trans (Kp.of_below (B := B) hb1))
  clear hb1 H0
  cases p with
  | true =>
    have ht := trimAt_any f.l.fn (hps.out rfl)
    have hdr := (Below.refl W1.heap.size W1).drew
    have hnl := Fm.nsm_l HN.out
    have hpn : (predT f).nsm := by
      unfold predT
      rw [T.nsm]
      refine ⟨?_, ?_⟩
      · rw [Lx.extract_drop, Lx.ofL_size, List.length_drop, Lx.size_len]; have := T.nsm_fn hnl; omega
      · have key : ∀ q : List T, (∀ a ∈ q, a.nsm) → T.nsm.nsms q := by
          intro q
          induction q with
          | nil => intro _; rw [T.nsm.nsms]; trivial
          | cons a r ih => intro h; rw [T.nsm.nsms]; exact ⟨h a (by simp), ih fun b hb => h b (by simp [hb])⟩
        exact key _ (T.nsm_args hnl)
    have hwt := wterm_any (predT f) hpn B l W1.drew (.slice la f.l.args.length lc) (hw1.keep hdr) (hf1.l.kp (Kp.of_below (B := B) hdr)) (by have := HL.out; rw [HE.out] at this; exact this)
    have HEE : Hid (shA f sign = shT (predT f)) := by show _ = _; rw [HE.out]; rfl
    have HKD := hidR (Kp.of_below (B := B) hdr)
    obtain ⟨⟨n0, n1, n2, n3, n4, n5, n6, n7, n8⟩, -⟩ := f_cells hz1
    have hwt' : Calls Tryz.prog 109 #[.pointer (some ⟨B, 0, none⟩), .agg #[.int .i64 0, .string (f.l.fn.extract 1 f.l.fn.size), .slice la f.l.args.length lc]] W1.drew fun e w' => e = .returned (.tuple #[]) ∧ Wr B (l ++ shT (predT f)) w' ∧ Kp B W1.drew w' := hwt
    have HZ : Hid (W1.drew.heap[R]? = some (fbox f (.slice la f.l.args.length lc) (.slice ra f.r.args.length rc) (.slice ka f.kids.length kc))) := hz1
    clear hz1 hw1 hf1 hnl hpn hps hdr HE hwt n0 n1 n2 n5 n6 n7 n8
    go_wp2
    go_region_held3 (fun X => X.cell? ⟨R, 3, none⟩ = some (.string f.l.fn) ∧ X.cell? ⟨R, 4, none⟩ = some (.slice la f.l.args.length lc)) (first | exact ⟨n3, n4⟩ | exact K4) (first
      | (go_at_call 110; refine (ht _).mono ?_; rintro e W3 ⟨rfl, rfl⟩)
      | (go_at_call 109; refine hwt'.mono ?_; rintro e W4 ⟨rfl, HW4, HKW⟩; have hz4 := (f_cells (HKW.same HZ.out hRB (by decide))).1; have K4 := And.intro hz4.2.2.2.1 hz4.2.2.2.2.1))
    have HX : Hid (Wr B (l ++ shA f sign) W4 ∧ Kp B w W4) := ⟨by rw [HEE.out]; exact HW4, (HK1.out.trans HKD.out).trans HKW⟩
    clear HW4 HKW hz4 K4
    go_wp2
    (try simp only [Exit.inBlock, Exit.then])
    refine bodyPost_ret (results_none rfl _ _ _) rfl ?_
    exact ⟨rfl, HX.out.1, HX.out.2⟩
  | false =>
    have HEE : Hid (shA f sign = shT f.l ++ ([32] ++ sign.data.toList ++ [32]) ++ shT f.r) := by show _ = _; rw [HE.out]; rfl
    have HLL : Hid (l.length + ((shT f.l).length + (1 + sign.size + 1) + (shT f.r).length) ≤ 140737488355328) := by
      have := HL.out
      rw [HEE.out] at this
      simp only [List.length_append, List.length_cons, List.length_nil, Lx.size_len] at this
      show _ ≤ _
      omega
    have hwl := wterm_any f.l (Fm.nsm_l HN.out) B l W1 (.slice la f.l.args.length lc) hw1 hf1.l (by have := HLL.out; omega)
    obtain ⟨⟨n0, n1, n2, n3, n4, n5, n6, n7, n8⟩, -⟩ := f_cells hz1
    have H1 := hidR (And.intro hz1 hf1)
    clear hz1 hw1 hf1 HE hps
    go_wp2_with fail
    refine hwl.mono ?_
    rintro e W2 ⟨rfl, hw2, hk2⟩
    have hp := put3 hw2 ⟨#[32]⟩ sign ⟨#[32]⟩ (by have := HLL.out; show (l ++ shT f.l).length + (1 + sign.size + 1) ≤ _; rw [List.length_append]; omega)
    have HZ2 := hidR (And.intro (H1.out.1) hk2)
    clear hwl n0 n1 n2 n3 n4 n5 n6 n7 n8 hw2 hk2
    go_wp2_with fail
    refine hp.mono ?_
    rintro e W3 ⟨rfl, hw3, hk3⟩
    have hz3 := hk3.same (HZ2.out.2.same HZ2.out.1 hRB (by decide)) hRB (by decide)
    obtain ⟨⟨n0, n1, n2, n3, n4, n5, n6, n7, n8⟩, -⟩ := f_cells hz3
    have hwr := wterm_any f.r (Fm.nsm_r HN.out) B _ W3 (.slice ra f.r.args.length rc) hw3 ((H1.out.2.r.kp HZ2.out.2).kp hk3) (by have := HLL.out; show (l ++ shT f.l ++ ([32] ++ sign.data.toList ++ [32])).length + _ ≤ _; simp only [List.length_append, List.length_cons, List.length_nil, Lx.size_len]; omega)
    have HK3 := hidR ((HK1.out.trans HZ2.out.2).trans hk3)
    clear hp hw3 hk3 hz3 HZ2 H1
    go_wp2_with fail
    refine hwr.mono ?_
    rintro e W4 ⟨rfl, hw4, hk4⟩
    have HX : Hid (Wr B (l ++ shA f sign) W4 ∧ Kp B w W4) := ⟨by
      rw [HEE.out]
      have h9 : l ++ shT f.l ++ ([32] ++ sign.data.toList ++ [32]) ++ shT f.r = l ++ (shT f.l ++ ([32] ++ sign.data.toList ++ [32]) ++ shT f.r) := by simp only [List.append_assoc]
      rw [← h9]; exact hw4, HK3.out.trans hk4⟩
    clear hwr hw4 hk4
    go_wp2
    refine bodyPost_end (results_none rfl _ _ _) rfl ?_
    exact ⟨rfl, HX.out.1, HX.out.2⟩
end
section
open Go.RowKit Go.Shelf
/-- The sign of a kind. -/
def sgn (k : Int) : ByteArray := if k = 2 then ⟨#[126]⟩ else if k = 3 then ⟨#[38]⟩ else if k = 4 then ⟨#[124]⟩ else if k = 5 then ⟨#[61, 62]⟩ else if k = 6 then ⟨#[60, 61, 62]⟩ else if k = 7 then ⟨#[33]⟩ else if k = 8 then ⟨#[63]⟩ else if k = 9 then ⟨#[36, 116, 114, 117, 101]⟩ else ⟨#[36, 102, 97, 108, 115, 101]⟩
/-- The text of what is not. -/
def shNg (g : Fm) (t : List UInt8) : List UInt8 := if g.k = 1 ∧ pB g = false then shA g ⟨#[33, 61]⟩ else [126, 32] ++ t
/-- The text of a formula, by its kids' texts. -/
def shJ (f : Fm) (ts : List (List UInt8)) : List UInt8 :=
  if f.k = 1 then shA f ⟨#[61]⟩ else if f.k = 2 then (match f.kids with | [] => [] | a :: _ => shNg a (ts.headD [])) else if f.k = 7 ∨ f.k = 8 then ((sgn f.k).data.toList ++ [32, 91] ++ f.nm.data.toList ++ [93, 32, 58, 32]) ++ ts.headD [] else if f.k = 9 ∨ f.k = 10 then (sgn f.k).data.toList else [40] ++ ts.headD [] ++ ([32] ++ (sgn f.k).data.toList ++ [32]) ++ (ts.drop 1).headD [] ++ [41]
def shF : Fm → List UInt8
  | .mk k n l r ks => shJ (.mk k n l r ks) (shs ks)
where shs : List Fm → List (List UInt8)
  | [] => []
  | a :: r => shF a :: shs r
theorem shs_map (l : List Fm) : shF.shs l = l.map shF := by
  induction l with
  | nil => rfl
  | cons a r ih => rw [shF.shs, ih]; rfl
theorem shF_eq (f : Fm) : shF f = shJ f (f.kids.map shF) := by cases f; rw [← shs_map, shF]; rfl
theorem Sg.kp {B : Nat} {W W' : World} (h : Sg W) (hk : Kp B W W') (h0 : 0 < B) : Sg W' := hk.same h (by omega) (by decide)
/-- What writing a formula does. -/
def WFc (g : Fm) : Prop := ∀ (B : Nat) (l : List UInt8) (w : World) (sl sr sk : Value), Wr B l w → FmP (fun k => k < B) w g sl sr sk → Sg w → 0 < B → l.length + (shF g).length ≤ 140737488355328 → Calls Tryz.prog 35 #[.pointer (some ⟨B, 0, none⟩), fval g sl sr sk] w fun e w' => e = .returned (.tuple #[]) ∧ Wr B (l ++ shF g) w' ∧ Kp B w w'
/-- The state of writing a formula. -/
structure WS (w : World) (B R : Nat) (f : Fm) (sl sr sk : Value) (l : List UInt8) (X : World) : Prop where
  wr : Wr B l X
  kp : Kp B w X
  fm : FmP (fun k => k < B) X f sl sr sk
  z : X.heap[R]? = some (fbox f sl sr sk)
  sg : Sg X
  RB : R ≠ B
  B0 : 0 < B
theorem WS.next {w : World} {B R : Nat} {f : Fm} {sl sr sk : Value} {l l' : List UInt8} {X X' : World} (h : WS w B R f sl sr sk l X) (hw : Wr B l' X') (hk : Kp B X X') : WS w B R f sl sr sk l' X' :=
  ⟨hw, h.kp.trans hk, h.fm.kp hk, hk.same h.z h.RB (by decide), h.sg.kp hk h.B0, h.RB, h.B0⟩
theorem WS.start {w : World} {B : Nat} {f : Fm} {sl sr sk : Value} {l : List UInt8} (h : Wr B l w) (hf : FmP (fun k => k < B) w f sl sr sk) (hs : Sg w) (h0 : 0 < B) : WS w B w.heap.size f sl sr sk l (w.alloc (fbox f sl sr sk)) := by
  have hb := below_box w (fbox f sl sr sk)
  exact ⟨h.keep hb, Kp.of_below hb, hf.kp (Kp.of_below hb), (MapKept.heap_alloc _ _).1, hs.kp (Kp.of_below (B := B) hb) h0, by have := h.lt; omega, h0⟩
theorem WS.cells {w : World} {B R : Nat} {f : Fm} {sl sr sk : Value} {l : List UInt8} {X : World} (h : WS w B R f sl sr sk l X) : X.cell? ⟨R, 0, none⟩ = some (.int .i64 f.k) ∧ X.cell? ⟨R, 1, none⟩ = some (.string f.nm) ∧ X.cell? ⟨R, 2, none⟩ = some (.int .i64 f.l.v) ∧ X.cell? ⟨R, 3, none⟩ = some (.string f.l.fn) ∧ X.cell? ⟨R, 4, none⟩ = some sl ∧ X.cell? ⟨R, 5, none⟩ = some (.int .i64 f.r.v) ∧ X.cell? ⟨R, 6, none⟩ = some (.string f.r.fn) ∧ X.cell? ⟨R, 7, none⟩ = some sr ∧ X.cell? ⟨R, 8, none⟩ = some sk := (f_cells h.z).1
theorem wneg_any {g : Fm} (hn : g.nsm) (hW : WFc g) {B : Nat} {l : List UInt8} {w : World} {sl sr sk : Value} (h : Wr B l w) (hf : FmP (fun k => k < B) w g sl sr sk) (hs : Sg w) (hB : 0 < B) (hlen : l.length + (shNg g (shF g)).length ≤ 140737488355328) :
    Calls Tryz.prog 67 #[.pointer (some ⟨B, 0, none⟩), fval g sl sr sk] w fun e w' => e = .returned (.tuple #[]) ∧ Wr B (l ++ shNg g (shF g)) w' ∧ Kp B w w' := by
  have hS0 := WS.start h hf hs hB
  obtain ⟨W0, hW0⟩ : ∃ X : World, w.alloc (fbox g sl sr sk) = X := ⟨_, rfl⟩
  obtain ⟨R, hR⟩ : ∃ R, w.heap.size = R := ⟨_, rfl⟩
  rw [hW0, hR] at hS0
  obtain ⟨la, lc, rfl, _, _⟩ := hf.l.slice'
  obtain ⟨ra, rc, rfl, _, _⟩ := hf.r.slice'
  obtain ⟨ka, kc, rfl, _, _⟩ := hf.k.slice
  have HE : Hid (shNg g (shF g) = if g.k = 1 ∧ pB g = false then shA g ⟨#[33, 61]⟩ else [126, 32] ++ shF g) := rfl
  have HW0 := hidR hW0
  have HL := hidR hlen
  have HN := hidR hn
  have HW := hidR hW
  have HS0 := hidR hS0
  obtain ⟨n0, n1, n2, n3, n4, n5, n6, n7, n8⟩ := hS0.cells
  have hc := isPred_any hS0.fm
  obtain ⟨p, hp⟩ : ∃ b, pB g = b := ⟨_, rfl⟩
  rw [hp] at hc HE
  clear h hf hs hB hlen hn hW hS0 hW0 hp
  by_cases hk : g.k = 1
  · have hkb : (g.k == 1) = true := by simpa using hk
    cases p with
    | false =>
      have HEE : Hid (shNg g (shF g) = shA g ⟨#[33, 61]⟩) := by show _ = _; rw [HE.out, if_pos ⟨hk, rfl⟩]
      clear HE hk HW
      go_enter Tryz.func67, Tryz.ntmps67
      go_upto_region 1 with fail
      try simp only [hR]
      rw [show _ = W0 from HW0.out]
      go_wp2_with fail
      refine hc.mono ?_
      rintro e W1 ⟨rfl, hb1⟩
      have hS1 := HS0.out.next (HS0.out.wr.keep hb1) (Kp.of_below hb1)
      have HS1 := hidR hS1
      have hwa := watom_any HN.out ⟨#[33, 61]⟩ hS1.wr hS1.fm (by have := HL.out; rw [HEE.out] at this; exact this)
      clear hc hb1 n0 n1 n2 n3 n4 n5 n6 n7 n8 HW0
      obtain ⟨n0, n1, n2, n3, n4, n5, n6, n7, n8⟩ := hS1.cells
      clear hS1 HS0
      go_wp2_with fail
      refine hwa.mono ?_
      rintro e W2 ⟨rfl, hw2, hk2⟩
      have HX : Hid (Wr B (l ++ shNg g (shF g)) W2 ∧ Kp B w W2) := ⟨by rw [HEE.out]; exact hw2, HS1.out.kp.trans hk2⟩
      clear hwa hw2 hk2
      go_wp2
      (try simp only [Exit.inBlock, Exit.then])
      refine bodyPost_ret (results_none rfl _ _ _) rfl ?_
      exact ⟨rfl, HX.out.1, HX.out.2⟩
    | true =>
      have HEE : Hid (shNg g (shF g) = [126, 32] ++ shF g) := by show _ = _; rw [HE.out, if_neg (by simp)]
      clear HE hk
      go_enter Tryz.func67, Tryz.ntmps67
      go_upto_region 1 with fail
      try simp only [hR]
      rw [show _ = W0 from HW0.out]
      go_wp2_with fail
      refine hc.mono ?_
      rintro e W1 ⟨rfl, hb1⟩
      have hS1 := HS0.out.next (HS0.out.wr.keep hb1) (Kp.of_below hb1)
      clear hc hb1 n0 n1 n2 n3 n4 n5 n6 n7 n8 HW0 HS0
      have HS1 := hidR hS1
      have s2 : W1.cell? ⟨0, 2, none⟩ = some (.string ⟨#[126]⟩) := cell_storeR hS1.sg rfl
      have hp2 := put2 HS1.out.wr ⟨#[126]⟩ ⟨#[32]⟩ (by have := HL.out; rw [HEE.out, List.length_append] at this; show _ + (1 + 1) ≤ _; simp only [List.length_cons, List.length_nil] at this; omega)
      go_wp2_with fail
      refine hp2.mono ?_
      rintro e W2 ⟨rfl, hw2, hk2⟩
      have hS2 := HS1.out.next hw2 hk2
      have hwf := HW.out B _ W2 _ _ _ hS2.wr hS2.fm hS2.sg hS2.B0 (by have := HL.out; rw [HEE.out, List.length_append] at this; rw [List.length_append]; simp only [List.length_cons, List.length_nil, List.length_append] at this ⊢; show l.length + (1 + 1) + _ ≤ _; omega)
      have HS2 := hidR hS2
      clear hp2 hw2 hk2 HS1 hS1 s2
      obtain ⟨n0, n1, n2, n3, n4, n5, n6, n7, n8⟩ := hS2.cells
      clear hS2
      go_wp2_with fail
      refine hwf.mono ?_
      rintro e W3 ⟨rfl, hw3, hk3⟩
      have HX : Hid (Wr B (l ++ shNg g (shF g)) W3 ∧ Kp B w W3) := ⟨by rw [HEE.out, ← List.append_assoc]; exact hw3, HS2.out.kp.trans hk3⟩
      clear hwf hw3 hk3
      go_wp2
      refine bodyPost_end (results_none rfl _ _ _) rfl ?_
      exact ⟨rfl, HX.out.1, HX.out.2⟩
  · have hkb : (g.k == 1) = false := by simpa using hk
    have HEE : Hid (shNg g (shF g) = [126, 32] ++ shF g) := by show _ = _; rw [HE.out, if_neg (fun h => hk h.1)]
    have s2 : W0.cell? ⟨0, 2, none⟩ = some (.string ⟨#[126]⟩) := cell_storeR HS0.out.sg rfl
    clear HE hk hc
    have HS1 := HS0
    clear HS0
    go_enter Tryz.func67, Tryz.ntmps67
    go_upto_region 1 with fail
    try simp only [hR]
    rw [show _ = W0 from HW0.out]
    clear HW0
    have hp2 := put2 HS1.out.wr ⟨#[126]⟩ ⟨#[32]⟩ (by have := HL.out; rw [HEE.out, List.length_append] at this; show _ + (1 + 1) ≤ _; simp only [List.length_cons, List.length_nil] at this; omega)
    go_wp2_with fail
    refine hp2.mono ?_
    rintro e W2 ⟨rfl, hw2, hk2⟩
    have hS2 := HS1.out.next hw2 hk2
    have hwf := HW.out B _ W2 _ _ _ hS2.wr hS2.fm hS2.sg hS2.B0 (by have := HL.out; rw [HEE.out, List.length_append] at this; rw [List.length_append]; simp only [List.length_cons, List.length_nil, List.length_append] at this ⊢; show l.length + (1 + 1) + _ ≤ _; omega)
    have HS2 := hidR hS2
    clear hp2 hw2 hk2 HS1 n0 n1 n2 n3 n4 n5 n6 n7 n8 s2
    obtain ⟨n0, n1, n2, n3, n4, n5, n6, n7, n8⟩ := hS2.cells
    clear hS2
    go_wp2_with fail
    refine hwf.mono ?_
    rintro e W3 ⟨rfl, hw3, hk3⟩
    have HX : Hid (Wr B (l ++ shNg g (shF g)) W3 ∧ Kp B w W3) := ⟨by rw [HEE.out, ← List.append_assoc]; exact hw3, HS2.out.kp.trans hk3⟩
    clear hwf hw3 hk3
    go_wp2
    refine bodyPost_end (results_none rfl _ _ _) rfl ?_
    exact ⟨rfl, HX.out.1, HX.out.2⟩
end
