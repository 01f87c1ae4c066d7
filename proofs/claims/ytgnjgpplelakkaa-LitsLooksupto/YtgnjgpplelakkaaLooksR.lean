import Derived.Test.YtgnjgpplelakkaaNA
import Derived.Test.YtgnjgpplelakkaaMF
import Derived.Test.YtgnjgpplelakkaaMJ
import Derived.Deep.RegionHeld3
import Derived.Test.YtgnjgpplelakkaaRB
import Derived.Test.YtgnjgpplelakkaaLG
import Derived.JoinedCond

/-
  LitsLooks' walk.
-/
namespace Go.Proofs.Ytgnjgpplelakkaa
open Go.RowKit Go.Maps

/-- Two literals in boxes, two clauses. -/
structure LkS (w : World) (x y : Lt) (sl sr ml mr vc vd : Value) (l m : List Lt) (X : World) : Prop where
  la : LitAt X w.heap.size 0 x sl sr
  lb : LitAt X (w.heap.size + 1) 0 y ml mr
  lc : ClauseAt X vc l
  ld : ClauseAt X vd m
  bel : Below w.heap.size w X

theorem LkS.keep {w : World} {x y : Lt} {sl sr ml mr vc vd : Value} {l m : List Lt} {X X' : World} (h : LkS w x y sl sr ml mr vc vd l m X) (hb : Below X.heap.size X X') : LkS w x y sl sr ml mr vc vd l m X' :=
  ⟨h.la.keep hb, h.lb.keep hb, h.lc.keep hb, h.ld.keep hb, h.bel.trans (hb.mono h.bel.size)⟩

theorem LkS.serves {w : World} {x y : Lt} {sl sr ml mr vc vd : Value} {l m : List Lt} {f : Nat} {args : Array Value} {r : Value} (h : ∀ X, LkS w x y sl sr ml mr vc vd l m X → Calls Try.prog f args X fun e X' => e = .returned r ∧ Below X.heap.size X X') : Serves (LkS w x y sl sr ml mr vc vd l m) f args r :=
  fun X hX => (h X hX).mono fun _ _ ⟨he, hb⟩ => ⟨he, hX.keep hb⟩

theorem field1 (n : Bool) (a b : Int) (s t : ByteArray) (u v : Value) (W : World) : Sem.run Try.prog (Instr.field 28 (.agg #[.bool n, .int .i64 a, .string s, u, .int .i64 b, .string t, v]) 1) W = .ok (.agg #[.int .i64 a, .string s, u]) W := by kernel_rfl
theorem field0 (n : Bool) (a b : Int) (s t : ByteArray) (u v : Value) (W : World) : Sem.run Try.prog (Instr.field 28 (.agg #[.bool n, .int .i64 a, .string s, u, .int .i64 b, .string t, v]) 0) W = .ok (.bool n) W := by kernel_rfl

theorem vs_size (t : T) : (t.vs.length : Int) ≤ t.size := by
  have h1 := pvs_len (t.parts [])
  rw [vs_parts t []] at h1
  have h2 := size_parts t []
  omega

theorem cvs_len : ∀ (l : List Lt), ((cvs l).length : Int) ≤ csize l
  | [] => by simp [cvs, sidesOf, csize]
  | x :: r => by
    have h1 := cvs_len r
    have h2 := vs_size x.l
    have h3 := vs_size x.r
    have e : cvs (x :: r) = x.l.vs ++ (x.r.vs ++ cvs r) := rfl
    have e2 : csize (x :: r) = x.l.size + x.r.size + csize r := by simp [csize]
    rw [e, e2, List.length_append, List.length_append]
    omega

set_option maxRecDepth 100000 in
set_option maxHeartbeats 8000000 in
theorem looks_any (l m : List Lt) (x y : Lt) (sl sr ml mr vc vd : Value) (w : World) (hl : ClauseAt w vc l) (hm : ClauseAt w vd m) (hxl : ArgsAt w sl x.l.args) (hxr : ArgsAt w sr x.r.args) (hyl : ArgsAt w ml y.l.args) (hyr : ArgsAt w mr y.r.args) (hsz : csize l ≤ 1048576) (hx : x.l.size ≤ 1048576) :
    Calls Try.prog 3 #[vc, vd, lval x sl sr, lval y ml mr] w fun e w' => e = .returned (.bool true) ∧ Below w.heap.size w w' := by
  have hlen : l.length ≤ 1048576 := by have := csize_len l; omega
  have hsh : ∀ t ∈ sidesOf l, Short t ∧ (t.parts []).length ≤ 1048576 := fun t ht => by
    obtain ⟨z, hz, rfl | rfl⟩ := side_mem ht
    · exact short_of _ (by have := (size_in hz).1; omega)
    · exact short_of _ (by have := (size_in hz).2; omega)
  have hN : (cvs l).length ≤ 1048576 := by have := cvs_len l; omega
  have hkl : ((cvs l).foldl wth []).length ≤ 1048576 := by
    have := wths_len (cvs l) []
    simp only [List.length_nil] at this
    omega
  obtain ⟨ca, cc, rfl⟩ := hl.slice
  obtain ⟨da, dc, rfl⟩ := hm.slice
  obtain ⟨pa, pc, rfl, _, _⟩ := hxl.slice
  obtain ⟨qa, qc, rfl, _, _⟩ := hxr.slice
  obtain ⟨ra, rc, rfl, _, _⟩ := hyl.slice
  obtain ⟨ua, uc, rfl, _, _⟩ := hyr.slice
  have hb1 := below_box w (lbox x (.slice pa x.l.args.length pc) (.slice qa x.r.args.length qc))
  have hb2 := below_box (w.alloc (lbox x (.slice pa x.l.args.length pc) (.slice qa x.r.args.length qc))) (lbox y (.slice ra y.l.args.length rc) (.slice ua y.r.args.length uc))
  have hS0 : LkS w x y (.slice pa x.l.args.length pc) (.slice qa x.r.args.length qc) (.slice ra y.l.args.length rc) (.slice ua y.r.args.length uc) (.slice ca l.length cc) (.slice da m.length dc) l m ((w.alloc (lbox x (.slice pa x.l.args.length pc) (.slice qa x.r.args.length qc))).alloc (lbox y (.slice ra y.l.args.length rc) (.slice ua y.r.args.length uc))) := by
    have hB := hb1.trans (hb2.mono hb1.size)
    have h3 := lbox_at (w.alloc (lbox x (.slice pa x.l.args.length pc) (.slice qa x.r.args.length qc))) y _ _ (ArgsAt.keep hb1 (Nat.le_refl _) hyl) (ArgsAt.keep hb1 (Nat.le_refl _) hyr)
    rw [World.size_alloc] at h3
    exact ⟨(lbox_at w x _ _ hxl hxr).keep hb2, h3, hl.keep hB, hm.keep hB, hB⟩
  have h8 : Serves (LkS w x y (.slice pa x.l.args.length pc) (.slice qa x.r.args.length qc) (.slice ra y.l.args.length rc) (.slice ua y.r.args.length uc) (.slice ca l.length cc) (.slice da m.length dc) l m) 8 #[(.slice ca l.length cc)] (.int .i64 (crightW l)) := LkS.serves fun X hX => lright_any l _ X hX.lc fun t ht => (hsh t ht).1
  have h9 : Serves (LkS w x y (.slice pa x.l.args.length pc) (.slice qa x.r.args.length qc) (.slice ra y.l.args.length rc) (.slice ua y.r.args.length uc) (.slice ca l.length cc) (.slice da m.length dc) l m) 9 #[(.slice ca l.length cc)] (.int .i64 (crightW l)) := LkS.serves fun X hX => rcright_any l _ X hX.lc
  have h10 : Serves (LkS w x y (.slice pa x.l.args.length pc) (.slice qa x.r.args.length qc) (.slice ra y.l.args.length rc) (.slice ua y.r.args.length uc) (.slice ca l.length cc) (.slice da m.length dc) l m) 10 #[(.slice ca l.length cc)] (.int .i64 (wrap64 (csize l))) := LkS.serves fun X hX => lsize_any l _ X hX.lc fun t ht => (hsh t ht).1
  have h11 : Serves (LkS w x y (.slice pa x.l.args.length pc) (.slice qa x.r.args.length qc) (.slice ra y.l.args.length rc) (.slice ua y.r.args.length uc) (.slice ca l.length cc) (.slice da m.length dc) l m) 11 #[(.slice ca l.length cc)] (.int .i64 (wrap64 (csize l))) := LkS.serves fun X hX => rcsize_any l _ X hX.lc
  have h15 : Serves (LkS w x y (.slice pa x.l.args.length pc) (.slice qa x.r.args.length qc) (.slice ra y.l.args.length rc) (.slice ua y.r.args.length uc) (.slice ca l.length cc) (.slice da m.length dc) l m) 15 #[(.slice ca l.length cc), (.slice da m.length dc)] (.bool (ceq l m)) := LkS.serves fun X hX => cequal_any l m _ _ X hX.lc hX.ld
  have h16 : Serves (LkS w x y (.slice pa x.l.args.length pc) (.slice qa x.r.args.length qc) (.slice ra y.l.args.length rc) (.slice ua y.r.args.length uc) (.slice ca l.length cc) (.slice da m.length dc) l m) 16 #[(.slice ca l.length cc), (.slice da m.length dc)] (.bool (ceq l m)) := LkS.serves fun X hX => rcequal_any l m _ _ X hX.lc hX.ld
  have h17 : Serves (LkS w x y (.slice pa x.l.args.length pc) (.slice qa x.r.args.length qc) (.slice ra y.l.args.length rc) (.slice ua y.r.args.length uc) (.slice ca l.length cc) (.slice da m.length dc) l m) 17 #[lval x (.slice pa x.l.args.length pc) (.slice qa x.r.args.length qc), lval y (.slice ra y.l.args.length rc) (.slice ua y.r.args.length uc)] (.bool (lsame x y)) := LkS.serves fun X hX => lsame_any x y _ _ _ _ X hX.la.al hX.la.ar hX.lb.al hX.lb.ar
  have h18 : Serves (LkS w x y (.slice pa x.l.args.length pc) (.slice qa x.r.args.length qc) (.slice ra y.l.args.length rc) (.slice ua y.r.args.length uc) (.slice ca l.length cc) (.slice da m.length dc) l m) 18 #[lval x (.slice pa x.l.args.length pc) (.slice qa x.r.args.length qc), lval y (.slice ra y.l.args.length rc) (.slice ua y.r.args.length uc)] (.bool (lsame x y)) := LkS.serves fun X hX => rlsame_any x y _ _ _ _ X hX.la.al hX.la.ar hX.lb.al hX.lb.ar
  have h19 : Serves (LkS w x y (.slice pa x.l.args.length pc) (.slice qa x.r.args.length qc) (.slice ra y.l.args.length rc) (.slice ua y.r.args.length uc) (.slice ca l.length cc) (.slice da m.length dc) l m) 19 #[lval x (.slice pa x.l.args.length pc) (.slice qa x.r.args.length qc)] (.bool (same x.r tru)) := LkS.serves fun X hX => isAtom_any x _ _ X hX.la.al hX.la.ar
  have h20 : Serves (LkS w x y (.slice pa x.l.args.length pc) (.slice qa x.r.args.length qc) (.slice ra y.l.args.length rc) (.slice ua y.r.args.length uc) (.slice ca l.length cc) (.slice da m.length dc) l m) 20 #[lval x (.slice pa x.l.args.length pc) (.slice qa x.r.args.length qc)] (.bool (same x.r tru)) := LkS.serves fun X hX => risAtom_any x _ _ X hX.la.al hX.la.ar
  have h23 : Serves (LkS w x y (.slice pa x.l.args.length pc) (.slice qa x.r.args.length qc) (.slice ra y.l.args.length rc) (.slice ua y.r.args.length uc) (.slice ca l.length cc) (.slice da m.length dc) l m) 23 #[] (.bool true) := LkS.serves fun X _ => alive_any X
  have h22 : ∀ X, LkS w x y (.slice pa x.l.args.length pc) (.slice qa x.r.args.length qc) (.slice ra y.l.args.length rc) (.slice ua y.r.args.length uc) (.slice ca l.length cc) (.slice da m.length dc) l m X → Calls Try.prog 22 #[tval x.l (.slice pa x.l.args.length pc)] X fun e X' => ∃ p d, e = .returned (.agg #[.bool false, .int .i64 x.l.v, .string x.l.fn, .slice p x.l.args.length d, .int .i64 tru.v, .string tru.fn, .slice none 0 0]) ∧ ArgsAt X' (.slice p x.l.args.length d) x.l.args ∧ LkS w x y (.slice pa x.l.args.length pc) (.slice qa x.r.args.length qc) (.slice ra y.l.args.length rc) (.slice ua y.r.args.length uc) (.slice ca l.length cc) (.slice da m.length dc) l m X' := fun X hX => (atom_any x.l _ X hX.la.al hx).mono fun e X' ⟨s', he, hf, hb⟩ => by
    obtain ⟨p, d, rfl⟩ := hf.slice
    exact ⟨p, d, he, (frP hf).args, hX.keep hb⟩
  have h21 : ∀ X p d, LkS w x y (.slice pa x.l.args.length pc) (.slice qa x.r.args.length qc) (.slice ra y.l.args.length rc) (.slice ua y.r.args.length uc) (.slice ca l.length cc) (.slice da m.length dc) l m X → ArgsAt X (.slice p x.l.args.length d) x.l.args → Calls Try.prog 21 #[tval x.l (.slice p x.l.args.length d), tval x.l (.slice pa x.l.args.length pc)] X fun e X' => e = .returned (.bool true) ∧ LkS w x y (.slice pa x.l.args.length pc) (.slice qa x.r.args.length qc) (.slice ra y.l.args.length rc) (.slice ua y.r.args.length uc) (.slice ca l.length cc) (.slice da m.length dc) l m X' := fun X p d hX hA => (rsame_any x.l x.l _ _ X hA hX.la.al).mono fun e X' ⟨he, hb⟩ => ⟨by rw [he]; exact ret_bool (same_iff.2 rfl), hX.keep hb⟩
  have h20b : ∀ X p d, LkS w x y (.slice pa x.l.args.length pc) (.slice qa x.r.args.length qc) (.slice ra y.l.args.length rc) (.slice ua y.r.args.length uc) (.slice ca l.length cc) (.slice da m.length dc) l m X → ArgsAt X (.slice p x.l.args.length d) x.l.args → Calls Try.prog 20 #[(.agg #[.bool false, .int .i64 x.l.v, .string x.l.fn, .slice p x.l.args.length d, .int .i64 tru.v, .string tru.fn, .slice none 0 0])] X fun e X' => e = .returned (.bool true) ∧ LkS w x y (.slice pa x.l.args.length pc) (.slice qa x.r.args.length qc) (.slice ra y.l.args.length rc) (.slice ua y.r.args.length uc) (.slice ca l.length cc) (.slice da m.length dc) l m X' := fun X p d hX hA => (risAtom_any ⟨false, x.l, tru⟩ _ _ X hA (nilArgs _)).mono fun e X' ⟨he, hb⟩ => ⟨by rw [he]; exact ret_bool (same_iff.2 rfl), hX.keep hb⟩
  obtain ⟨k, hk⟩ : ∃ k, ((cvs l).foldl wth []).length = k := ⟨_, rfl⟩
  obtain ⟨vals, hvals⟩ : ∃ vals, ((cvs l).foldl wth []).map (Value.int .i64) = vals := ⟨_, rfl⟩
  have hlenv : ∀ (X : World) b v n, X.ownsRow b 3 1 v n vals → ∃ p d, v = .slice p k d ∧ n = k := by
    intro X b v n h
    have : n = k := by
      have := h.1
      rw [← hvals, List.length_map, hk] at this
      omega
    subst this
    obtain ⟨p, d, rfl⟩ := row_form h
    exact ⟨p, d, rfl, rfl⟩
  have h13 : ∀ X, LkS w x y (.slice pa x.l.args.length pc) (.slice qa x.r.args.length qc) (.slice ra y.l.args.length rc) (.slice ua y.r.args.length uc) (.slice ca l.length cc) (.slice da m.length dc) l m X → Calls Try.prog 13 #[(.slice ca l.length cc)] X fun e X' => ∃ p d, e = .returned (.slice p k d) ∧ X'.ownsRow 0 3 1 (.slice p k d) k vals ∧ LkS w x y (.slice pa x.l.args.length pc) (.slice qa x.r.args.length qc) (.slice ra y.l.args.length rc) (.slice ua y.r.args.length uc) (.slice ca l.length cc) (.slice da m.length dc) l m X' := fun X hX => (lvars_any l _ X hX.lc hsh hN).mono fun e X' ⟨v, n, he, hr, hb⟩ => by
    rw [hvals] at hr
    obtain ⟨p, d, rfl, rfl⟩ := hlenv _ _ _ _ hr
    exact ⟨p, d, he, row_low hr (Nat.zero_le _), hX.keep hb⟩
  have h14 : ∀ X, LkS w x y (.slice pa x.l.args.length pc) (.slice qa x.r.args.length qc) (.slice ra y.l.args.length rc) (.slice ua y.r.args.length uc) (.slice ca l.length cc) (.slice da m.length dc) l m X → ∀ v, X.ownsRow 0 3 1 v k vals → Calls Try.prog 14 #[(.slice ca l.length cc)] X fun e X' => ∃ p d, e = .returned (.slice p k d) ∧ X'.ownsRow 0 3 1 (.slice p k d) k vals ∧ X'.ownsRow 0 3 1 v k vals ∧ LkS w x y (.slice pa x.l.args.length pc) (.slice qa x.r.args.length qc) (.slice ra y.l.args.length rc) (.slice ua y.r.args.length uc) (.slice ca l.length cc) (.slice da m.length dc) l m X' := fun X hX u hu => (rcvars_any l _ X hX.lc hlen hN).mono fun e X' ⟨v, n, he, hr, hb⟩ => by
    rw [hvals] at hr
    obtain ⟨p, d, rfl, rfl⟩ := hlenv _ _ _ _ hr
    exact ⟨p, d, he, row_low hr (Nat.zero_le _), row_below hu hb, hX.keep hb⟩
  have h12 : ∀ X, LkS w x y (.slice pa x.l.args.length pc) (.slice qa x.r.args.length qc) (.slice ra y.l.args.length rc) (.slice ua y.r.args.length uc) (.slice ca l.length cc) (.slice da m.length dc) l m X → ∀ u v, X.ownsRow 0 3 1 u k vals → X.ownsRow 0 3 1 v k vals → Calls Try.prog 12 #[u, v] X fun e X' => e = .returned (.bool true) ∧ LkS w x y (.slice pa x.l.args.length pc) (.slice qa x.r.args.length qc) (.slice ra y.l.args.length rc) (.slice ua y.r.args.length uc) (.slice ca l.length cc) (.slice da m.length dc) l m X' := fun X hX u v hu hv => by
    rw [← hvals] at hu hv
    exact (ints_any 0 0 u v k _ X hu hv (by omega)).mono fun e X' ⟨he, hb⟩ => ⟨he, hX.keep hb⟩
  have hC : ∀ X, LkS w x y (.slice pa x.l.args.length pc) (.slice qa x.r.args.length qc) (.slice ra y.l.args.length rc) (.slice ua y.r.args.length uc) (.slice ca l.length cc) (.slice da m.length dc) l m X → X.cell? ⟨w.heap.size, 0, none⟩ = some (.bool x.neg) ∧ X.cell? ⟨w.heap.size, 1, none⟩ = some (.int .i64 x.l.v) ∧ X.cell? ⟨w.heap.size, 2, none⟩ = some (.string x.l.fn) ∧ X.cell? ⟨w.heap.size, 3, none⟩ = some (.slice pa x.l.args.length pc) ∧ X.cell? ⟨w.heap.size, 4, none⟩ = some (.int .i64 x.r.v) ∧ X.cell? ⟨w.heap.size, 5, none⟩ = some (.string x.r.fn) ∧ X.cell? ⟨w.heap.size, 6, none⟩ = some (.slice qa x.r.args.length qc) ∧ X.cell? ⟨w.heap.size + 1, 0, none⟩ = some (.bool y.neg) ∧ X.cell? ⟨w.heap.size + 1, 1, none⟩ = some (.int .i64 y.l.v) ∧ X.cell? ⟨w.heap.size + 1, 2, none⟩ = some (.string y.l.fn) ∧ X.cell? ⟨w.heap.size + 1, 3, none⟩ = some (.slice ra y.l.args.length rc) ∧ X.cell? ⟨w.heap.size + 1, 4, none⟩ = some (.int .i64 y.r.v) ∧ X.cell? ⟨w.heap.size + 1, 5, none⟩ = some (.string y.r.fn) ∧ X.cell? ⟨w.heap.size + 1, 6, none⟩ = some (.slice ua y.r.args.length uc) := fun X h => by
    obtain ⟨a0, a1, a2, a3, a4, a5, a6⟩ := h.la.zero
    obtain ⟨b0, b1, b2, b3, b4, b5, b6⟩ := h.lb.zero
    exact ⟨a0, a1, a2, a3, a4, a5, a6, b0, b1, b2, b3, b4, b5, b6⟩
  have hdr : ∀ X, LkS w x y (.slice pa x.l.args.length pc) (.slice qa x.r.args.length qc) (.slice ra y.l.args.length rc) (.slice ua y.r.args.length uc) (.slice ca l.length cc) (.slice da m.length dc) l m X → LkS w x y (.slice pa x.l.args.length pc) (.slice qa x.r.args.length qc) (.slice ra y.l.args.length rc) (.slice ua y.r.args.length uc) (.slice ca l.length cc) (.slice da m.length dc) l m X.drew := fun X h => h.keep (Below.refl _ X).drew
  have hbl : ∀ X, LkS w x y (.slice pa x.l.args.length pc) (.slice qa x.r.args.length qc) (.slice ra y.l.args.length rc) (.slice ua y.r.args.length uc) (.slice ca l.length cc) (.slice da m.length dc) l m X → Below w.heap.size w X := fun X h => h.bel
  clear hl hm hxl hxr hyl hyr hb1 hb2 hsh hN hkl hlenv hvals hk hsz hx hlen
  obtain ⟨S, hS⟩ : ∃ S, LkS w x y (.slice pa x.l.args.length pc) (.slice qa x.r.args.length qc) (.slice ra y.l.args.length rc) (.slice ua y.r.args.length uc) (.slice ca l.length cc) (.slice da m.length dc) l m = S := ⟨_, rfl⟩
  rw [hS] at hS0 h8 h9 h10 h11 h15 h16 h17 h18 h19 h20 h23 h22 h21 h20b h13 h14 h12 hC hdr hbl
  clear hS
  obtain ⟨rw0, hrw0⟩ : ∃ r, crightW l = r := ⟨_, rfl⟩
  rw [hrw0] at h8 h9
  obtain ⟨sz0, hsz0⟩ : ∃ r, wrap64 (csize l) = r := ⟨_, rfl⟩
  rw [hsz0] at h10 h11
  obtain ⟨eq0, heq0⟩ : ∃ r, ceq l m = r := ⟨_, rfl⟩
  rw [heq0] at h15 h16
  obtain ⟨sm0, hsm0⟩ : ∃ r, lsame x y = r := ⟨_, rfl⟩
  rw [hsm0] at h17 h18
  obtain ⟨at0, hat0⟩ : ∃ r, same x.r tru = r := ⟨_, rfl⟩
  rw [hat0] at h19 h20
  clear hrw0 hsz0 heq0 hsm0 hat0
  have q1 : (rw0 == rw0) = true := by simp
  have q2 : (sz0 == sz0) = true := by simp
  have q3 : (eq0 == eq0) = true := by simp
  have q4 : (sm0 == sm0) = true := by simp
  have q5 : (at0 == at0) = true := by simp
  have hSd := hdr _ hS0
  obtain ⟨n0, n1, n2, n3, n4, n5, n6, o0, o1, o2, o3, o4, o5, o6⟩ := hC _ hSd
  clear hdr hS0
  have fl1 := field1
  have fl0 := field0
  go_enter Try.func3, Try.ntmps3
  go_wp2
  simp only [List.append_eq, List.cons_append, List.nil_append]
  go_region_held3 (fun X => X.cell? ⟨w.heap.size, 0, none⟩ = some (.bool x.neg) ∧ X.cell? ⟨w.heap.size, 1, none⟩ = some (.int .i64 x.l.v) ∧ X.cell? ⟨w.heap.size, 2, none⟩ = some (.string x.l.fn) ∧ X.cell? ⟨w.heap.size, 3, none⟩ = some (.slice pa x.l.args.length pc) ∧ X.cell? ⟨w.heap.size, 4, none⟩ = some (.int .i64 x.r.v) ∧ X.cell? ⟨w.heap.size, 5, none⟩ = some (.string x.r.fn) ∧ X.cell? ⟨w.heap.size, 6, none⟩ = some (.slice qa x.r.args.length qc) ∧ X.cell? ⟨w.heap.size + 1, 0, none⟩ = some (.bool y.neg) ∧ X.cell? ⟨w.heap.size + 1, 1, none⟩ = some (.int .i64 y.l.v) ∧ X.cell? ⟨w.heap.size + 1, 2, none⟩ = some (.string y.l.fn) ∧ X.cell? ⟨w.heap.size + 1, 3, none⟩ = some (.slice ra y.l.args.length rc) ∧ X.cell? ⟨w.heap.size + 1, 4, none⟩ = some (.int .i64 y.r.v) ∧ X.cell? ⟨w.heap.size + 1, 5, none⟩ = some (.string y.r.fn) ∧ X.cell? ⟨w.heap.size + 1, 6, none⟩ = some (.slice ua y.r.args.length uc)) (first | exact ⟨n0, n1, n2, n3, n4, n5, n6, o0, o1, o2, o3, o4, o5, o6⟩ | exact K3 | exact K4 | exact K5 | exact K6 | exact K7 | exact K8 | exact K9 | exact K10 | exact K11 | exact K12 | exact K13 | exact K14 | exact K15 | exact K16 | exact K17 | exact K18 | exact K19 | exact K20 | exact K21) (first
    | (go_at_call 23; refine (h23 _ HW20).mono ?_; rintro e W21 ⟨rfl, HW21⟩; have K21 := hC _ HW21)
    | (go_at_call 22; refine (h22 _ HW19).mono ?_; rintro e W20 ⟨p5, d5, rfl, A20, HW20⟩; have K20 := hC _ HW20)
    | (go_at_call 20; refine (h20b _ _ _ HW18 A18).mono ?_; rintro e W19 ⟨rfl, HW19⟩; have K19 := hC _ HW19)
    | (go_at_call 22; refine (h22 _ HW17).mono ?_; rintro e W18 ⟨p4, d4, rfl, A18, HW18⟩; have K18 := hC _ HW18)
    | (go_at_call 21; refine (h21 _ _ _ HW16 A16).mono ?_; rintro e W17 ⟨rfl, HW17⟩; have K17 := hC _ HW17)
    | (go_at_call 22; refine (h22 _ HW15).mono ?_; rintro e W16 ⟨p3, d3, rfl, A16, HW16⟩; have K16 := hC _ HW16)
    | (go_at_call 20; refine (h20 _ HW14).mono ?_; rintro e W15 ⟨rfl, HW15⟩; have K15 := hC _ HW15)
    | (go_at_call 19; refine (h19 _ HW13).mono ?_; rintro e W14 ⟨rfl, HW14⟩; have K14 := hC _ HW14)
    | (go_at_call 18; refine (h18 _ HW12).mono ?_; rintro e W13 ⟨rfl, HW13⟩; have K13 := hC _ HW13)
    | (go_at_call 17; refine (h17 _ HW11).mono ?_; rintro e W12 ⟨rfl, HW12⟩; have K12 := hC _ HW12)
    | (go_at_call 16; refine (h16 _ HW10).mono ?_; rintro e W11 ⟨rfl, HW11⟩; have K11 := hC _ HW11)
    | (go_at_call 15; refine (h15 _ HW9).mono ?_; rintro e W10 ⟨rfl, HW10⟩; have K10 := hC _ HW10)
    | (go_at_call 12; refine (h12 _ HW8 _ _ R9 R8).mono ?_; rintro e W9 ⟨rfl, HW9⟩; have K9 := hC _ HW9)
    | (go_at_call 14; refine (h14 _ HW7 _ R7).mono ?_; rintro e W8 ⟨p2, d2, rfl, R8, R9, HW8⟩; have K8 := hC _ HW8)
    | (go_at_call 13; refine (h13 _ HW6).mono ?_; rintro e W7 ⟨p1, d1, rfl, R7, HW7⟩; have K7 := hC _ HW7)
    | (go_at_call 11; refine (h11 _ HW5).mono ?_; rintro e W6 ⟨rfl, HW6⟩; have K6 := hC _ HW6)
    | (go_at_call 10; refine (h10 _ HW4).mono ?_; rintro e W5 ⟨rfl, HW5⟩; have K5 := hC _ HW5)
    | (go_at_call 9; refine (h9 _ HW3).mono ?_; rintro e W4 ⟨rfl, HW4⟩; have K4 := hC _ HW4)
    | (go_at_call 8; refine (h8 _ hSd).mono ?_; rintro e W3 ⟨rfl, HW3⟩; have K3 := hC _ HW3))
  go_wp2
  go_ret
  exact ⟨rfl, hbl _ HW21⟩

end Go.Proofs.Ytgnjgpplelakkaa

/-
  Literals and clauses that came in as arguments: how they lie in memory, and how great they are.
-/
namespace Go.Proofs.Ytgnjgpplelakkaa
open Go.ChangeShapes Go.WideShapes Go.ChangeAt Go.RowKit

theorem Try.cells28 : Try.prog.cellsOf 28 = 7 := by kernel_rfl
theorem Try.cells4 : Try.prog.cellsOf 4 = 1 := by kernel_rfl

theorem list7 {cs : List Value} (h : cs.length = 7) : ∃ c0 c1 c2 c3 c4 c5 c6, cs = [c0, c1, c2, c3, c4, c5, c6] := by
  match cs, h with
  | [c0, c1, c2, c3, c4, c5, c6], _ => exact ⟨c0, c1, c2, c3, c4, c5, c6, rfl⟩

theorem struct28 {H : Type} {enc : TypeId × Value → H} {W : World} {fuel : Nat} {cs : List Value} {x : DataW H × List MemPlace}
    (h : DataW.trod enc Try.prog W 0 (fun _ => true) true fuel 28 cs = some x) : ∃ (b : Lt) (sl sr : Value), cs = [.bool b.neg, .int .i64 b.l.v, .string b.l.fn, sl, .int .i64 b.r.v, .string b.r.fn, sr] ∧ ArgsAt W sl b.l.args ∧ ArgsAt W sr b.r.args ∧ b.l.size + b.r.size ≤ (Rows.uptoBulk x.1 : Int) := by
  obtain ⟨xs, n, rfl, hx, hlen, hxs, hf⟩ := DataW.trod_struct Try.underlying28 h
  rw [Try.cells28] at hlen
  obtain ⟨c0, c1, c2, c3, c4, c5, c6, rfl⟩ := list7 hlen
  match xs, hxs, hx, hf with
  | [y0, y1, y2], _, hx, hf =>
    have t0 : DataW.trod enc Try.prog W 0 (fun _ => true) true n 4 (List.take (Try.prog.cellsOf 4) (List.drop 0 [c0, c1, c2, c3, c4, c5, c6])) = some y0 := hf 0 _ rfl
    have t1 : DataW.trod enc Try.prog W 0 (fun _ => true) true n 26 (List.take (Try.prog.cellsOf 26) (List.drop 1 [c0, c1, c2, c3, c4, c5, c6])) = some y1 := hf 1 _ rfl
    have t2 : DataW.trod enc Try.prog W 0 (fun _ => true) true n 26 (List.take (Try.prog.cellsOf 26) (List.drop 4 [c0, c1, c2, c3, c4, c5, c6])) = some y2 := hf 2 _ rfl
    rw [Try.cells4] at t0
    rw [Try.cells26] at t1 t2
    have t0' : DataW.trod enc Try.prog W 0 (fun _ => true) true n 4 [c0] = some y0 := t0
    have t1' : DataW.trod enc Try.prog W 0 (fun _ => true) true n 26 [c1, c2, c3] = some y1 := t1
    have t2' : DataW.trod enc Try.prog W 0 (fun _ => true) true n 26 [c4, c5, c6] = some y2 := t2
    obtain ⟨k, e0, z0⟩ := DataW.trod_bool Try.underlying4 t0'
    obtain ⟨v, fn, sl, m, q0, q1, q2, hm, e1, _, _, s2, ex, _⟩ := struct24 t1'
    obtain ⟨v', fn', sl', m', p0, p1, p2, hm', e2, _, _, s2', ex', _⟩ := struct24 t2'
    obtain ⟨l, hA, hS⟩ := args_trodB m sl _ s2
    obtain ⟨l', hA', hS'⟩ := args_trodB m' sl' _ s2'
    simp only [List.cons.injEq, and_true] at e0 e1 e2
    obtain ⟨rfl, rfl, rfl⟩ := e1
    obtain ⟨rfl, rfl, rfl⟩ := e2
    subst e0
    refine ⟨⟨k, .mk v fn l, .mk v' fn' l'⟩, c3, c6, rfl, hA, hA', ?_⟩
    rw [hx]
    simp only [List.map_cons, List.map_nil, Rows.uptoBulk, Rows.uptoBulkAll]
    rw [ex, ex', T.size_eq, T.size_eq]
    simp only [Rows.uptoBulk, Rows.uptoBulkAll]
    have h1 : ((T.mk v fn l).args.map T.size).sum ≤ (Rows.uptoBulk q2.1 : Int) := hS
    have h2 : ((T.mk v' fn' l').args.map T.size).sum ≤ (Rows.uptoBulk p2.1 : Int) := hS'
    omega

set_option maxRecDepth 100000 in
/-- What is read of a literal that came in. -/
theorem lit_in {H : Type} {enc : TypeId × Value → H} {W : World} {base : Nat} {v : Value} {d : DataW H} {p : List MemPlace} (hv : Value.okWide Try.prog W .any base 28 v)
    (h : DataW.Trod enc Try.prog W 0 (fun _ => true) true 28 v d p) : ∃ x sl sr, v = lval x sl sr ∧ ArgsAt W sl x.l.args ∧ ArgsAt W sr x.r.args ∧ x.l.size + x.r.size ≤ (Rows.uptoBulk d : Int) := by
  obtain ⟨cs, rfl, hcs⟩ := okWide_struct Try.underlying28 hv
  obtain ⟨fuel, hf⟩ := h
  obtain ⟨x, sl, sr, hc, hA, hA', hS⟩ := struct28 hf
  refine ⟨x, sl, sr, ?_, hA, hA', hS⟩
  have : cs.toList = [.bool x.neg, .int .i64 x.l.v, .string x.l.fn, sl, .int .i64 x.r.v, .string x.r.fn, sr] := hc
  obtain ⟨cl⟩ := cs
  have h2 : cl = [.bool x.neg, .int .i64 x.l.v, .string x.l.fn, sl, .int .i64 x.r.v, .string x.r.fn, sr] := this
  rw [h2]

theorem csize_range (n : Nat) (g : Nat → Lt) : csize ((List.range n).map g) = ((List.range n).map fun i => (g i).l.size + (g i).r.size).sum := by
  unfold csize
  rw [List.map_map]
  rfl

/-- What is read of a clause that came in. -/
theorem clause_in {H : Type} {enc : TypeId × Value → H} {W : World} {a : Option Addr} {n c : Nat} {d : DataW H} {p : List MemPlace}
    (h : DataW.Trod enc Try.prog W 0 (fun _ => true) true 23 (.slice a n c) d p) : ∃ l, ClauseAt W (.slice a n c) l ∧ csize l ≤ (Rows.uptoBulk d : Int) := by
  obtain ⟨fuel, hf⟩ := h
  rcases DataW.trod_slice Try.underlying23 hf with ⟨hcs, hx⟩ | ⟨ad, len, cap, elems, rest, m, _, hcs, hx, _, hl, hm, hel, hat, _⟩
  · simp [Value.cells] at hcs
    obtain ⟨rfl, rfl, rfl⟩ := hcs
    exact ⟨[], ⟨none, 0, rfl, Nat.le_refl _, by decide, fun h => absurd h (by simp)⟩, by simp [csize]⟩
  · simp [Value.cells] at hcs
    obtain ⟨rfl, rfl, rfl⟩ := hcs
    rw [Try.cells28] at hat
    have each : ∀ i, i < n → ∃ q : Lt × Value × Value, (W.cell? ((ad.add (i * 7)).add 0) = some (.bool q.1.neg) ∧ W.cell? ((ad.add (i * 7)).add 1) = some (.int .i64 q.1.l.v) ∧ W.cell? ((ad.add (i * 7)).add 2) = some (.string q.1.l.fn) ∧ W.cell? ((ad.add (i * 7)).add 3) = some q.2.1 ∧ W.cell? ((ad.add (i * 7)).add 4) = some (.int .i64 q.1.r.v) ∧ W.cell? ((ad.add (i * 7)).add 5) = some (.string q.1.r.fn) ∧ W.cell? ((ad.add (i * 7)).add 6) = some q.2.2 ∧ ArgsAt W q.2.1 q.1.l.args ∧ ArgsAt W q.2.2 q.1.r.args) ∧ ∀ (h : i < elems.length), q.1.l.size + q.1.r.size ≤ (Rows.uptoBulk elems[i].1 : Int) := by
      intro i hi
      have hi' := hat i hi
      have hie : i < elems.length := by omega
      rw [List.getElem?_eq_getElem hie] at hi'
      obtain ⟨cs, hc, ht⟩ := Option.bind_eq_some_iff.1 hi'
      obtain ⟨_, hlen, hcell⟩ := World.cells?_some hc
      obtain ⟨b, sl, sr, rfl, hA, hA', hS⟩ := struct28 ht
      exact ⟨(b, sl, sr), ⟨by simpa using hcell 0 (by simp), by simpa using hcell 1 (by simp), by simpa using hcell 2 (by simp), by simpa using hcell 3 (by simp), by simpa using hcell 4 (by simp), by simpa using hcell 5 (by simp), by simpa using hcell 6 (by simp), hA, hA'⟩, fun _ => hS⟩
    have hbulk : (Rows.uptoBulkAll (elems.map (fun x => x.1)) : Int) ≤ (Rows.uptoBulk d : Int) := by
      have e : d = .slice (elems.map fun x => x.1) (rest.map fun x => x.1) := congrArg Prod.fst hx
      rw [e]
      simp only [Rows.uptoBulk]
      omega
    by_cases h0 : n = 0
    · subst h0
      exact ⟨[], ⟨some ad, c, rfl, Nat.zero_le _, by unfold maxLen at hm; omega, fun h => absurd h (by simp)⟩, by simp [csize]⟩
    · obtain ⟨q0, ⟨hc0, _⟩, _⟩ := each 0 (by omega)
      have hxb : ∃ b o, ad = ⟨b, o, none⟩ := by
        obtain ⟨b, o, spot⟩ := ad
        have hspot : spot = none := by simpa [Addr.add] using World.cell?_spot hc0
        exact ⟨b, o, by rw [hspot]⟩
      obtain ⟨b, o, rfl⟩ := hxb
      haveI : Inhabited (Lt × Value × Value) := ⟨(⟨false, .mk 0 ⟨#[]⟩ [], .mk 0 ⟨#[]⟩ []⟩, undef, undef)⟩
      obtain ⟨f, hfq⟩ := Deep.choose_lt each
      have hlt : b < W.heap.size := by have := lt_of_cell hc0; simpa [Addr.add] using this
      refine ⟨(List.range n).map (fun i => (f i).1), ⟨some ⟨b, o, none⟩, c, by simp, by simpa using hl, by unfold maxLen at hm; omega, fun _ => ⟨b, o, rfl, fun i hi => ?_⟩⟩, ?_⟩
      · have hi' : i < n := by simpa using hi
        obtain ⟨⟨k0, k1, k2, k3, k4, k5, k6, hA, hA'⟩, _⟩ := hfq i hi'
        simp only [addr_add, Nat.add_zero] at k0 k1 k2 k3 k4 k5 k6
        simp only [List.getElem_map, List.getElem_range]
        exact ⟨(f i).2.1, (f i).2.2, hlt, k0, k1, k2, k3, k4, k5, k6, hA, hA'⟩
      · refine Int.le_trans ?_ hbulk
        rw [csize_range]
        have := sum_bulk (elems.map (fun x => x.1)) (fun i => (f i).1.l.size + (f i).1.r.size) (fun i hi => by
          have hie : i < elems.length := by simpa using hi
          have := (hfq i (by omega)).2 hie
          simpa using this)
        rw [List.length_map, hel] at this
        exact this

end Go.Proofs.Ytgnjgpplelakkaa

/-
  LitsLooks: for any two clauses and any two literals of bulk at most 1048576, the law returns true, and the arguments read behind the call as they read before.
-/
namespace Go.Proofs.Ytgnjgpplelakkaa
open Go.ChangeShapes Go.WideShapes Go.ChangeAt Go.RowKit

set_option maxRecDepth 100000 in
theorem looks_contract (H : Type) (enc : TypeId × Value → H) (W : World) (base : Nat) (args : Array Value) (ds gs : List (DataW H)) (before : List MemPlace)
    (hval : ∀ (j : Nat) t v, Try.f3.params[j]? = some t → args[j]? = some v → Value.okWide Try.prog W .any base t v)
    (hW : DataW.Whole enc Try.prog Try.f3.params.toList Rows.litsLooksSpec.vars false W args.toList ds gs before)
    (hk : Rows.uptoSmall H (ds ++ gs) = true) :
    Calls Try.prog 3 args W fun e W' => ∃ v, e = .returned v ∧ Rows.litsLooksSpec.post enc Try.prog Try.f3 false true false false W args v W' := by
  have hW' := hW
  obtain ⟨p, q, hA0, hV, rfl, hfz, hnd⟩ := hW
  have hA : DataW.TrodAll enc Try.prog W 0 (fun _ => true) true Try.f3.params.toList args.toList ds p := hA0
  rw [Try.params3] at hA hval
  obtain ⟨v0, vs0, d0, ds0, p0, q0, hargs, rfl, rfl, h0, r0⟩ := trodAll_cons hA
  obtain ⟨v1, vs1, d1, ds1, p1, q1, rfl, rfl, rfl, h1, r1⟩ := trodAll_cons r0
  obtain ⟨v2, vs2, d2, ds2, p2, q2, rfl, rfl, rfl, h2, r2⟩ := trodAll_cons r1
  obtain ⟨v3, vs3, d3, ds3, p3, q3, rfl, rfl, rfl, h3, r3⟩ := trodAll_cons r2
  obtain ⟨rfl, rfl, rfl⟩ := trodAll_nil r3
  obtain rfl : args = #[v0, v1, v2, v3] := by cases args; simp_all
  obtain ⟨rfl, rfl⟩ := trodVars_none hV
  obtain ⟨a0, n0, c0, rfl⟩ := okWide_slice Try.underlying23 (hval 0 23 v0 rfl rfl)
  obtain ⟨l, hl, hsl⟩ := clause_in h0
  obtain ⟨a1, n1, c1, rfl⟩ := okWide_slice Try.underlying23 (hval 1 23 v1 rfl rfl)
  obtain ⟨m, hm, _⟩ := clause_in h1
  obtain ⟨x, sl, sr, rfl, hxl, hxr, hxs⟩ := lit_in (hval 2 28 v2 rfl rfl) h2
  obtain ⟨y, ml, mr, rfl, hyl, hyr, _⟩ := lit_in (hval 3 28 v3 rfl rfl) h3
  have hxr0 := size_pos x.r
  have lt0 : ∀ x ∈ p0, x.block < W.heap.size := by obtain ⟨m, hm⟩ := h0; exact DataW.trod_lt m _ _ _ hm
  have lt1 : ∀ x ∈ p1, x.block < W.heap.size := by obtain ⟨m, hm⟩ := h1; exact DataW.trod_lt m _ _ _ hm
  have lt2 : ∀ x ∈ p2, x.block < W.heap.size := by obtain ⟨m, hm⟩ := h2; exact DataW.trod_lt m _ _ _ hm
  have lt3 : ∀ x ∈ p3, x.block < W.heap.size := by obtain ⟨m, hm⟩ := h3; exact DataW.trod_lt m _ _ _ hm
  have hsum := of_decide_eq_true hk
  simp only [List.append_nil, Rows.uptoBulkAll] at hsum
  clear hA0
  refine (looks_any l m x y sl sr ml mr _ _ W hl hm hxl hxr hyl hyr (by omega) (by omega)).mono fun e W' ⟨he, bel⟩ => ?_
  subst he
  exact ⟨_, rfl, _, _, _, [], _, [], hW', trodAll_mk1 (shut_bool Try.underlying4 _), (trodAll_cons_mk (Below.trod laidOut (by kernel_rfl) (of_decide_eq_true (by kernel_rfl)) h0 bel lt0) (trodAll_cons_mk (Below.trod laidOut (by kernel_rfl) (of_decide_eq_true (by kernel_rfl)) h1 bel lt1) (trodAll_cons_mk (Below.trod laidOut (by kernel_rfl) (of_decide_eq_true (by kernel_rfl)) h2 bel lt2) (trodAll_cons_mk (Below.trod laidOut (by kernel_rfl) (of_decide_eq_true (by kernel_rfl)) h3 bel lt3) trodAll_mk0)))), rfl, bel.frame _, fun h => by cases h⟩

set_option maxRecDepth 100000 in
theorem looks_lifted (os : Os) (started : os.Started) (H : Type) (enc : TypeId × Value → H) (F : Stop.Interp) :
    ReturnsInHanded {} Try.checked os 3 .any ((Rows.OpenSpec.upto Rows.litsLooksSpec).pre6 enc Try.prog Try.f3 Rows.litsLooksUptoRow.domain false) (((Rows.OpenSpec.upto Rows.litsLooksSpec).at F).post enc Try.prog Try.f3 false true false false) := by
  refine returnsInHanded_of_cond (C := Try.checked) (s := Rows.OpenSpec.upto Rows.litsLooksSpec) (k := Rows.uptoSmall) rfl own started (by kernel_rfl) Try.func3
    (OpenSpec.witness (enc := enc) (C := Try.checked) (s := Rows.OpenSpec.upto Rows.litsLooksSpec) (k := Rows.uptoSmall) rfl false ⟨#[], #[.slice none 0 0, .slice none 0 0, .agg #[.bool false, .int .i64 0, .string ⟨#[]⟩, .slice none 0 0, .int .i64 0, .string ⟨#[]⟩, .slice none 0 0], .agg #[.bool false, .int .i64 0, .string ⟨#[]⟩, .slice none 0 0, .int .i64 0, .string ⟨#[]⟩, .slice none 0 0]], []⟩ 8 (by kernel_rfl) (by kernel_rfl) (by kernel_rfl)
      (x := ([.nil, .nil, .agg [.lit (.bool false), .agg [.lit (.int .i64 0), .lit (.string []), .nil], .agg [.lit (.int .i64 0), .lit (.string []), .nil]], .agg [.lit (.bool false), .agg [.lit (.int .i64 0), .lit (.string []), .nil], .agg [.lit (.int .i64 0), .lit (.string []), .nil]]], [], [])) (by kernel_rfl) rfl (by kernel_rfl)) ?_
  intro W base args ds gs before hval hW _ hk _
  exact looks_contract H enc W base args ds gs before hval hW hk

theorem litsLooks_holds : Rows.LitsLooksUptoSaid :=
  OpenClaim.holds_of_cond 3 Try.f3 rfl rfl rfl rfl rfl rfl rfl ⟨rfl, rfl, rfl, rfl, rfl⟩ rfl rfl rfl rfl rfl (by kernel_rfl) Try.func3 (by kernel_rfl)
    (of_decide_eq_true (by kernel_rfl)) (by unfold Func.isWrapper; first | (rw [if_pos (by decide +kernel)]; kernel_rfl) | (rw [if_neg (by decide +kernel)]; exact ⟨rfl, rfl⟩))
    (fun os started H enc _ F => looks_lifted os started H enc F)

end Go.Proofs.Ytgnjgpplelakkaa
