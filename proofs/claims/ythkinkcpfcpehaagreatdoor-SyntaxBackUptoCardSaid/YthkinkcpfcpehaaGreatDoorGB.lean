import Derived.BigQuiet
import Derived.Test.YthkinkcpfcpehaaGreatDoorFZ
import Derived.Deep.RegionHeld3
import Derived.Deep.RegionWith
namespace Go.Proofs.YthkinkcpfcpehaaGreatDoor
set_option maxRecDepth 100000
set_option maxHeartbeats 8000000
section
open Go.RowKit Go.Maps
open Lx (Tk ofL KsAt)
/-- Where the document's parser lies. -/
structure DE where
  B : Nat
  n : Nat
  L : List Tk
  a : Option Addr
  c : Nat
def frV : List Tk → Int
  | [] => -1
  | t :: _ => (t.a : Nat)
/-- The place of the next token. -/
def plc (n : Nat) : List Tk → Nat
  | [] => n
  | t :: _ => t.a
section
variable {D : DE} {W W' w : World} {l r fr : List Tk} {t : Tk} {mn : Bool} {bd : Int}
end
section
variable {D : DE} {w : World} {l fr : List Tk} {mn : Bool} {bd : Int}
end
end
section
open Go.RowKit Go.Maps
open Lx (Tk ofL KsAt agg_store row_block row_keep)
theorem info24s : (Tryz.prog.info? 24).map (·.size) = some 3 := by kernel_rfl
section
variable {P : Nat → Prop} {X Y : World} {n bx : Nat} {t : T} {sl : Value}
theorem ArgsP.one (h : ArgsP P X sl t.args) : ∀ u ∈ [Value.int .i64 t.v, .string t.fn, sl], u.oneCell' = true := by
  obtain ⟨la, lc, rfl, _, _⟩ := h.slice'
  intro u hu
  simp only [List.mem_cons, List.not_mem_nil, or_false] at hu
  rcases hu with rfl | rfl | rfl <;> rfl
theorem t_store {cur : Array Value} (h : Y.heap[bx]? = some (.cells cur 24 (0, 0))) (hl : cur.size = 3) (ht : ArgsP P X sl t.args) :
    ∃ Y', (Instr.storeAt 24 (.pointer (some ⟨bx, 0, none⟩)) (tval t sl)).run Tryz.prog Y = .ok () Y' ∧ Y'.heap[bx]? = some (tbox t sl) ∧ Only [bx] Y Y' := by
  obtain ⟨Y', h1, h2, h3⟩ := agg_store 24 Y bx cur [.int .i64 t.v, .string t.fn, sl] h hl info24s ht.one
  exact ⟨Y', h1, h2, ⟨h3.os, h3.tape, h3.output, h3.size, h3.block⟩⟩
end
end
section
open Go.RowKit Go.Maps
open Lx (Tk ofL KsAt agg_store wpList_store_run row_block row_keep)
section
variable {D : DE} {w : World} {l r fr : List Tk} {t : Tk} {mn : Bool} {bd : Int}
/-- While a function is read. -/
structure TBx (D : DE) (w : World) (R O : Nat) (tx : ByteArray) (v : Value) (Z : World) : Prop where
  res : Z.heap[R]? = some (.cells #[.int .i64 0, .string ⟨#[]⟩, .slice none 0 0] 24 (0, 0))
  out : Z.heap[O]? = some (.cells #[.int .i64 0, .string tx, v] 24 (0, 0))
  BR : D.B < R
  RO : R < O
  on : Only [D.B] w Z
  wR : w.heap.size = R
theorem TBx.step {R O : Nat} {v : Value} {tx : ByteArray} {Z Z' : World} (h : TBx D w R O tx v Z) (ho : Only [D.B] Z Z') : TBx D w R O tx v Z' :=
  ⟨(ho.block R (Array.getElem?_eq_some_iff.1 h.res).1 (by have := h.BR; simp; omega)).trans h.res, (ho.block O (Array.getElem?_eq_some_iff.1 h.out).1 (by have := h.BR; have := h.RO; simp; omega)).trans h.out, h.BR, h.RO, h.on.trans ho (fun r hr => .inl hr), h.wR⟩
/-- Terms that were read, in a row; l1 is left. -/
structure ABx (D : DE) (w : World) (R O : Nat) (tx : ByteArray) (zs : List (T × Value)) (v : Value) (Z : World) : Prop where
  bx : TBx D w R O tx v Z
  row : Z.ownsRow (O + 1) 24 3 v zs.length (flT zs)
  args : ∀ p ∈ zs, ArgsP (fun k => O < k ∧ v.ownBlock ≠ some k) Z p.2 p.1.args
theorem ABx.lt {R O : Nat} {tx : ByteArray} {zs : List (T × Value)} {v : Value} {Z : World} (h : ABx D w R O tx zs v Z) : O < Z.heap.size := (Array.getElem?_eq_some_iff.1 h.bx.out).1
theorem ABx.step {R O : Nat} {tx : ByteArray} {zs : List (T × Value)} {v : Value} {Z Z' : World} (h : ABx D w R O tx zs v Z) (ho : Only [D.B] Z Z') : ABx D w R O tx zs v Z' := by
  have hBR := h.bx.BR
  have hRO := h.bx.RO
  refine ⟨h.bx.step ho, row_keep h.row (fun g hg => ?_), fun p hp => (h.args p hp).keep ho.size (fun k hk hkl => ⟨hk, ho.block k hkl (by have := hk.1; simp; omega)⟩)⟩
  obtain ⟨h1, cu, hcu⟩ := row_block h.row hg
  exact ho.block g (Array.getElem?_eq_some_iff.1 hcu).1 (by simp; omega)
/-- One more is laid into the row. -/
theorem ABx.push {R O : Nat} {tx : ByteArray} {zs : List (T × Value)} {v v' : Value} {Z w6 : World} {t : T} {sl : Value} (h : ABx D w R O tx zs v Z) {m : Nat} (hm : O < m) (hvm : ∀ g, v.ownBlock = some g → g < m) (ha : ArgsP (fun k => m ≤ k) Z sl t.args)
    (hrow : w6.ownsRow (O + 1) 24 3 v' (zs.length + 1) (flT zs ++ [.int .i64 t.v, .string t.fn, sl])) {X : World} (hX : Below Z.heap.size Z X) (hg : X.grownBy w6 v.ownBlock) (hat : v'.ownBlock = v.ownBlock ∨ v'.ownBlock = some X.heap.size) :
    ABx D w R O tx (zs ++ [(t, sl)]) v' (w6.setCell ⟨O, 2, none⟩ v') ∧ Only (O :: v.ownBlock.toList) Z (w6.setCell ⟨O, 2, none⟩ v') ∧ w6.cell? ⟨O, 2, none⟩ = some v ∧ w6.frozen? ⟨O, 2, none⟩ = false := by
  have hBR := h.bx.BR
  have hRO := h.bx.RO
  have hOl := h.lt
  have hvO : ∀ g, v.ownBlock = some g → O + 1 ≤ g ∧ g < Z.heap.size := fun g hg => by
    obtain ⟨h1, cu, hcu⟩ := row_block h.row hg
    exact ⟨h1, (Array.getElem?_eq_some_iff.1 hcu).1⟩
  have same : ∀ k, k < Z.heap.size → k ≠ O → v.ownBlock ≠ some k → (w6.setCell ⟨O, 2, none⟩ v').heap[k]? = Z.heap[k]? := fun k hk h1 h2 =>
    (Below.heap_setCell _ _ _ k h1).trans ((hg.block k (Nat.lt_of_lt_of_le hk hX.size) (fun e => h2 e.symm)).trans (hX.block k hk))
  have hO6 : w6.heap[O]? = some (.cells #[.int .i64 0, .string tx, v] 24 (0, 0)) := (hg.block O (Nat.lt_of_lt_of_le hOl hX.size) (fun e => by have := (hvO O e.symm).1; omega)).trans ((hX.block O hOl).trans h.bx.out)
  have hO7 := heap_setCell_same w6 O 2 _ 24 v' hO6
  have hsz : Z.heap.size ≤ (w6.setCell ⟨O, 2, none⟩ v').heap.size := by have := hX.size; have := hg.size; simp; omega
  have hon : Only (O :: v.ownBlock.toList) Z (w6.setCell ⟨O, 2, none⟩ v') :=
    ⟨hg.os.trans hX.os, hg.tape.trans hX.tape, hg.output.trans hX.output, hsz, fun k hk hn => same k hk (fun e => hn (by rw [e]; simp)) (fun e => hn (by rw [e]; simp))⟩
  have hv' : ∀ g, v'.ownBlock = some g → O + 1 ≤ g := fun g hg' => (row_block hrow hg').1
  refine ⟨⟨⟨(same R (Nat.lt_trans hRO hOl) (by omega) (fun e => by have := (hvO R e).1; omega)).trans h.bx.res, by simpa using hO7, hBR, hRO, ?_, h.bx.wR⟩, ?_, ?_⟩, hon, cell_store (vs := [_, _, _]) hO6 rfl, frozen_cells hO6⟩
  · exact h.bx.on.trans hon (fun x hx => .inr (by
      have hw := h.bx.wR
      simp only [List.mem_cons, Option.mem_toList] at hx
      rcases hx with rfl | hx
      · omega
      · have := (hvO x hx).1; omega))
  · rw [flT_snoc, List.length_append]
    exact row_keep hrow (fun g hg' => Below.heap_setCell _ _ _ g (by have := hv' g hg'; show g ≠ O; omega))
  · have grow : ∀ {P : Nat → Prop} {sl : Value} {us : List T}, ArgsP P Z sl us → (∀ j, P j → j < Z.heap.size → O < j ∧ v.ownBlock ≠ some j) → ArgsP (fun j => O < j ∧ v'.ownBlock ≠ some j) (w6.setCell ⟨O, 2, none⟩ v') sl us := fun ha hP =>
      ha.keep hsz fun j hj hjl => by
        obtain ⟨g1, g2⟩ := hP j hj hjl
        refine ⟨⟨g1, fun e => ?_⟩, same j hjl (by omega) g2⟩
        rcases hat with h1 | h1
        · exact g2 (h1 ▸ e)
        · rw [h1] at e; have := Option.some.inj e; have := hX.size; omega
    intro p hp
    rcases List.mem_append.1 hp with hp | hp
    · exact grow (h.args p hp) (fun j hj _ => hj)
    · simp only [List.mem_singleton] at hp
      subst hp
      exact grow ha (fun j hj hjl => ⟨by omega, fun e => by have := hvm j e; omega⟩)
end
end
section
open Go.RowKit Go.Maps
open Lx (Tk ofL KsAt agg_store wpList_store_run row_block row_keep row_slice lit3)
section
variable {D : DE} {w : World} {l r fr : List Tk} {t : Tk} {mn : Bool} {bd : Int}
theorem ABx.all {R O : Nat} {tx : ByteArray} {zs : List (T × Value)} {v : Value} {Z : World} (h : ABx D w R O tx zs v Z) : ArgsP (fun k => R < k) Z v (zs.map (·.1)) := by
  have hRO := h.bx.RO
  exact argsP_of_row h.row (fun g hg => by have := (row_block h.row hg).1; show R < g; omega) (fun p hp => (h.args p hp).keep (Nat.le_refl _) (fun k hk _ => ⟨by have := hk.1; show R < k; omega, rfl⟩))
end
end
section
open Go.RowKit
open Lx (Tk ofL)
theorem PT.total {bd : List (List UInt8)} : ∀ (n : Nat) (l : List Tk), l.length ≤ n → (∃ x, PT bd l x) ∧ ∃ x, PTs bd l x := by
  intro n
  induction n with
  | zero =>
    intro l hl
    have : l = [] := List.eq_nil_of_length_eq_zero (by omega)
    subst this
    exact ⟨⟨_, PT.nil⟩, _, PTs.first_no PT.nil⟩
  | succ n ih =>
    intro l hl
    have h1 : ∃ x, PT bd l x := by
      cases l with
      | nil => exact ⟨_, PT.nil⟩
      | cons t r =>
        by_cases h2 : t.k = 2
        · exact ⟨_, PT.var h2⟩
        · by_cases h1 : t.k = 1
          · cases hm : isM [40] r with
            | false => exact ⟨_, PT.const h1 hm⟩
            | true =>
              obtain ⟨x, hx⟩ := (ih r.tail (by simp only [List.length_cons] at hl; rw [List.length_tail]; omega)).2
              cases x with
              | no q => exact ⟨_, PT.args_no h1 hm hx⟩
              | ok us fr q =>
                cases hq : isM [41] q with
                | true => exact ⟨_, PT.fn h1 hm hx hq⟩
                | false => exact ⟨_, PT.fn_no h1 hm hx hq⟩
          · exact ⟨_, PT.wrong h1 h2⟩
    refine ⟨h1, ?_⟩
    obtain ⟨x, hx⟩ := h1
    cases x with
    | no q => exact ⟨_, PTs.first_no hx⟩
    | ok us fr q =>
      cases hq : isM [44] q with
      | false => exact ⟨_, PTs.last hx hq⟩
      | true =>
        obtain ⟨t1, r1, rfl, _, _⟩ := isM_cons hq
        have := hx.len
        obtain ⟨y, hy⟩ := (ih r1 (by simp only [List.length_cons] at this; omega)).2
        cases y with
        | no q' => exact ⟨_, PTs.more_no hx hq (by simpa using hy)⟩
        | ok bs fr' q' => exact ⟨_, PTs.more hx hq (by simpa using hy)⟩
section
variable {E : Env} {w : World} {l q : List Tk} {bd : List (List UInt8)} {fr fr' : List Tk} {kb : Nat} {fv c5 : Value}
theorem term_ok (h : PSt E w l bd fr kb fv c5) {t : T} (hp : PT bd l (.ok [t] fr' q)) :
    Calls Tryz.prog 199 #[.pointer (some ⟨E.B, 0, none⟩)] w fun e w' => ∃ sl fv', e = .returned (tval t sl) ∧ ArgsP (Good E w.heap.size fv') w' sl t.args ∧ PSt E w' q bd (fr ++ fr') kb fv' c5 ∧ Stay E w fv w' fv' := by
  refine (term_any _ l (Nat.le_refl _) w bd fr kb fv h).mono ?_
  rintro e w' (⟨t', sl, fr1, q1, fv1, hp1, he, ha, hs, hy⟩ | ⟨q1, fv1, hp1, _⟩)
  · have := PT.one hp hp1
    cases this
    exact ⟨sl, fv1, he, ha, hs, hy⟩
  · have := PT.one hp hp1
    cases this
theorem term_no (h : PSt E w l bd fr kb fv c5) (hp : PT bd l (.no q)) :
    Calls Tryz.prog 199 #[.pointer (some ⟨E.B, 0, none⟩)] w fun e w' => e = .panicked misfit ∧ ∃ fv', Bx w' E.B E.n E.n0 q (.map (some E.mb)) (.map (some E.mm)) fv' c5 ∧ Stay E w fv w' fv' := by
  refine (term_any _ l (Nat.le_refl _) w bd fr kb fv h).mono ?_
  rintro e w' (⟨t', sl, fr1, q1, fv1, hp1, _⟩ | ⟨q1, fv1, hp1, he, hb, hy⟩)
  · have := PT.one hp hp1
    cases this
  · have := PT.one hp hp1
    cases this
    exact ⟨he, fv1, hb, hy⟩
theorem tok_form (n : Nat) (l : List Tk) : ∃ (kd a : Int) (s : ByteArray), tokV n l = .agg #[.int .i64 kd, .int .i64 a, .string s] ∧ (kd == 1) = isK 1 l := by
  cases l with
  | nil => exact ⟨0, _, _, rfl, rfl⟩
  | cons t r => exact ⟨t.k, _, _, rfl, rfl⟩
theorem PSt.llen (h : PSt E w l bd fr kb fv c5) : l.length ≤ 2097155 := by have h1 := h.bud; have h2 := h.mx; omega
/-- A box with a term is laid. -/
structure GBox (E : Env) (w : World) (G : Nat) (t : T) (sl : Value) (fv : Value) (W : World) : Prop where
  box : W.heap[G]? = some (.cells #[.int .i64 t.v, .string t.fn, sl] 24 (0, 0))
  own : ¬ Own E fv G
  lo : w.heap.size ≤ G
  args : ArgsP (fun k => Good E w.heap.size fv k ∧ k ≠ G) W sl t.args
theorem GBox.cells {E : Env} {w : World} {G : Nat} {t : T} {sl : Value} {fv : Value} {W : World} (h : GBox E w G t sl fv W) : W.cell? ⟨G, 0, none⟩ = some (.int .i64 t.v) ∧ W.cell? ⟨G, 1, none⟩ = some (.string t.fn) ∧ W.cell? ⟨G, 2, none⟩ = some sl := (res_cells h.box).1
theorem GBox.stay {E : Env} {w : World} {G : Nat} {t : T} {sl : Value} {fv fv' : Value} {W W' : World} (h : GBox E w G t sl fv W) (hs : Stay E W fv W' fv') : GBox E w G t sl fv' W' :=
  have hb := hs.blk G (Array.getElem?_eq_some_iff.1 h.box).1 h.own
  ⟨hb.1.trans h.box, hb.2, h.lo, h.args.keep hs.size fun k hk hl => ⟨⟨⟨hk.1.1, (hs.blk k hl hk.1.2).2⟩, hk.2⟩, (hs.blk k hl hk.1.2).1⟩⟩
theorem GBox.start (h : PSt E w l bd fr kb fv c5) {w0 : World} (hs : w0.heap.size ≤ w.heap.size) {t : T} {sl : Value} (ha : ArgsP (Good E w0.heap.size fv) w sl t.args) : GBox E w0 w.heap.size t sl fv (w.alloc (.cells #[.int .i64 t.v, .string t.fn, sl] 24)) :=
  ⟨(MapKept.heap_alloc w _).1, h.fresh (Nat.le_refl _), hs, ha.keep (below_box w _).size fun k hk hl => ⟨⟨hk, by omega⟩, (below_box w _).block k hl⟩⟩
theorem GBox.good {E : Env} {w : World} {G : Nat} {t : T} {sl : Value} {fv : Value} {W : World} (h : GBox E w G t sl fv W) : ArgsP (Good E w.heap.size fv) W sl t.args := h.args.keep (Nat.le_refl _) fun _k hk _ => ⟨hk.1, rfl⟩
end
end
section
open Go.RowKit Go.Maps
open Lx (Tk ofL KsAt flK flK_snoc row_keep row_block row_slice)
attribute [local go_sem] fld0 fld2
/-- A term's name is a token's text. -/
theorem PT.name {bd : List (List UInt8)} {l q : List Tk} {fr : List Tk} {t : T} (h : PT bd l (.ok [t] fr q)) : ∃ tk ∈ l, t.fn = ofL tk.t := by
  obtain ⟨n, h⟩ := h
  cases n with
  | zero => cases h
  | succ n =>
    cases l with
    | nil => simp [pTerm] at h
    | cons tk r =>
      refine ⟨tk, List.mem_cons_self .., ?_⟩
      simp only [pTerm] at h
      repeat' split at h
      all_goals simp at h
      all_goals (rw [← h.1]; rfl)
theorem atom_any {E : Env} {w : World} {l : List Tk} {bd : List (List UInt8)} {fr : List Tk} {kb : Nat} {fv c5 : Value} (h : PSt E w l bd fr kb fv c5) :
    Calls Tryz.prog 175 #[.pointer (some ⟨E.B, 0, none⟩)] w (PieceP E w (PA bd l) bd fr fv c5) := by
  have HL := hid (And.intro h.llen fun tk htk => (h.tok tk htk).len63)
  have HN : Hid (E.n0 ≤ w.heap.size) := by show E.n0 ≤ w.heap.size; have := h.ownlt (k := E.B) (.inl rfl); omega
  obtain ⟨kd, ka, ks, htk, hkd⟩ := tok_form E.n l
  have ha := pahead h
  rw [htk] at ha
  obtain ⟨nb, hnb⟩ : ∃ nb, isK 1 l = nb := ⟨_, rfl⟩
  rw [hnb] at hkd
  clear htk h
  go_enter Tryz.func175, Tryz.ntmps175
  go_wp2_with fail
  refine ha.mono ?_
  rintro e W1 ⟨rfl, h1, s1⟩
  have H1 := hid s1
  clear ha s1
  go_upto_region 2 with fail
  try simp only [hkd]
  obtain ⟨x, hx⟩ := (PT.total (bd := bd) _ l (Nat.le_refl _)).1
  cases x with
  | no q =>
    have ht := term_no h1 hx
    have HX := hid hx
    clear h1 hx
    go_wp2_with fail
    refine ht.mono ?_
    rintro e W2 ⟨rfl, fv1, b2, y2⟩
    have HF := hid (And.intro b2 (H1.out.trans y2))
    clear ht b2 y2
    go_wp2
    exact ⟨rfl, .inr ⟨q, fv1, PA.first_no HX.out, rfl, HF.out.1, HF.out.2⟩⟩
  | ok us fr1 q =>
  obtain ⟨t, rfl, -, -⟩ := PT.single hx
  have ht := term_ok h1 hx
  have HX := hid (And.intro hx (PT.short hx HL.out.1))
  clear h1 hx
  go_wp2_with fail
  refine ht.mono ?_
  rintro e W2 ⟨sl, fv1, rfl, a2, h2, y2⟩
  obtain ⟨sa, sc, rfl⟩ := a2.slice
  have hs02 := (H1.out.trans y2).size
  have hB := GBox.start h2 hs02 (Good.more H1.out.size a2)
  have h3 := h2.keep (below_box W2 (.cells #[.int .i64 t.v, .string t.fn, .slice sa t.args.length sc] 24))
  have H3 := hid (And.intro hB ((H1.out.trans y2).trans (Stay.of_below (below_box W2 (.cells #[.int .i64 t.v, .string t.fn, .slice sa t.args.length sc] 24)))))
  clear ht a2 h2 y2 hB
  go_upto_region 3 with fail
  obtain ⟨G, hG⟩ : ∃ G, W2.heap.size = G := ⟨_, rfl⟩
  obtain ⟨W3, hW3⟩ : ∃ X, W2.alloc (.cells #[.int .i64 t.v, .string t.fn, .slice sa t.args.length sc] 24) = X := ⟨_, rfl⟩
  rw [hG, hW3] at H3
  rw [hW3] at h3
  try simp only [hG]
  rw [hW3]
  clear hW3 hG hs02 H1
  have HB3 := H3.out.1
  by_cases hq : isM [61] q = true
  · have HQ := hid hq
    obtain ⟨t1, r1, rfl, _, _⟩ := isM_cons hq
    have hsk := pskip_yes h3 (ofL [61]) ((sign_is (by simp) (by decide) (by decide) h3.tok).2 hq)
    obtain ⟨x, hx2⟩ := (PT.total (bd := bd) _ r1 (Nat.le_refl _)).1
    clear h3 hq HB3
    go_wp2_with fail
    refine hsk.mono ?_
    rintro e W4 ⟨rfl, h4, s4⟩
    have hdr := (Below.refl W4.heap.size W4).drew
    have h4d := h4.keep hdr
    have y4d := (H3.out.2.trans s4).trans (Stay.of_below (E := E) (a := fv1) hdr)
    have B4 := (H3.out.1.stay s4).stay (Stay.of_below (E := E) (a := fv1) hdr)
    obtain ⟨x0, x1, x2⟩ := B4.cells
    have hr1 := HX.out.1.len
    simp only [List.length_cons] at hr1
    have hlr : r1.length ≤ 2097155 := by have := HL.out.1; omega
    clear hsk
    cases x with
    | no q2 =>
      have ht2 := term_no h4d hx2
      have HF0 := hid (And.intro y4d hx2)
      clear h4 s4 h4d hx2 y4d B4 hr1 hlr
      go_wp2
      refine wp_region_held_drew (S := fun X => X.cell? ⟨G, 0, none⟩ = some (.int .i64 t.v) ∧ X.cell? ⟨G, 1, none⟩ = some (.string t.fn) ∧ X.cell? ⟨G, 2, none⟩ = some (.slice sa t.args.length sc)) (by kernel_rfl) ⟨x0, x1, x2⟩ (fun hHeld => ?_)
      refine wpAnyH_take (i := 0) (v := tval t (.slice sa t.args.length sc)) rfl (by kernel_rfl) (by kernel_rfl) (by kernel_rfl) (fun _ _ _ h => h) (Or.inl ⟨by rfl, ?_⟩) (by assumption) ?_
      · intro w hSw; (try dsimp only at hSw); go_simp
      try simp only [Act.put, List.setIfInBounds_toArray]
      refine wpAnyH_take (i := 1) (v := .pointer (some ⟨E.B, 0, none⟩)) rfl (by kernel_rfl) (by kernel_rfl) (by kernel_rfl) (fun _ _ _ h => h) (Or.inl ⟨by rfl, ?_⟩) (by assumption) ?_
      · intro w hSw; (try dsimp only at hSw); go_simp
      try simp only [Act.put]
      refine wpAnyH_ready (rs := [2]) (by kernel_rfl) (by simp) ?_
      refine AllReadyH.cons rfl (fun K hK => ?_) AllReadyH.nil
      go_simp
      refine ht2.mono ?_
      rintro e W5 ⟨rfl, fv2, b5, y5⟩
      exact ⟨rfl, .inr ⟨q2, fv2, PA.eq_no HX.out.1 HQ.out HF0.out.2, rfl, b5, HF0.out.1.trans y5⟩⟩
    | ok us2 fr2 q2 =>
      obtain ⟨b, rfl, -, -⟩ := PT.single hx2
      have ht2 := term_ok h4d hx2
      have HX2 := hid (And.intro hx2 (PT.short hx2 hlr))
      have hsz : t.size + b.size ≤ 4611686018427387903 := by have h1 := HX.out.2.2; have h2 := HX2.out.2.2; omega
      have hz4 := y4d.size
      have HB4 := hid (And.intro B4 y4d)
      clear h4 s4 h4d hx2 y4d B4 hr1 hlr
      go_wp2
      go_region_held3 (fun X => X.cell? ⟨G, 0, none⟩ = some (.int .i64 t.v) ∧ X.cell? ⟨G, 1, none⟩ = some (.string t.fn) ∧ X.cell? ⟨G, 2, none⟩ = some (.slice sa t.args.length sc)) (first | exact ⟨x0, x1, x2⟩ | exact ⟨y0, y1, y2⟩ | exact ⟨z0, z1, z2⟩) (first
        | (go_at_call 200; refine (peq_any HF5.out.2.2.1 hz5 HF5.out.1.good (Good.more hz4 HF5.out.2.1) HX.out.2.1 HX2.out.2.1 hsz).mono ?_; rintro e W6 ⟨p, rfl, p6, h6, y6⟩; obtain ⟨z0, z1, z2⟩ := (HF5.out.1.stay y6).cells; have HF6 := hid (And.intro p6 (And.intro h6 (HF5.out.2.2.2.trans y6))); clear p6 h6 y6)
        | (go_at_call 199; refine ht2.mono ?_; rintro e W5 ⟨sb, fv2, rfl, a5, h5, y5⟩; obtain ⟨y0, y1, y2⟩ := (HB4.out.1.stay y5).cells; have hz5 := (HB4.out.2.trans y5).size; have HF5 := hid (And.intro (HB4.out.1.stay y5) (And.intro a5 (And.intro h5 (HB4.out.2.trans y5)))); clear a5 h5 y5))
      go_wp2
      go_ret
      have hs6 := HF6.out.2.1
      rw [List.append_assoc] at hs6
      exact .inl ⟨fEq t b, p, fr1 ++ fr2, q2, kb, fv2, PA.eq HX.out.1 HQ.out HX2.out.1, rfl, HF6.out.1, hs6, HF6.out.2.2⟩
  · have hqf : isM [61] q = false := by simpa using hq
    have hsk := pskip_no h3 (ofL [61]) (sign_not (by simp) (by decide) (by decide) h3.tok hqf)
    have HQ0 := hid hqf
    clear h3 hq hqf HB3
    go_wp2_with fail
    refine hsk.mono ?_
    rintro e W4 ⟨rfl, h4, s4⟩
    have H4 := hid (And.intro (H3.out.1.stay s4) (H3.out.2.trans s4))
    clear hsk s4 H3
    by_cases hq : isM [33, 61] q = true
    · have HQ := hid hq
      obtain ⟨t1, r1, rfl, _, _⟩ := isM_cons hq
      have hsk := pskip_yes h4 (ofL [33, 61]) ((sign_is (by simp) (by decide) (by decide) h4.tok).2 hq)
      obtain ⟨x, hx2⟩ := (PT.total (bd := bd) _ r1 (Nat.le_refl _)).1
      clear h4 hq
      go_wp2_with fail
      refine hsk.mono ?_
      rintro e W5 ⟨rfl, h5, s5⟩
      have hdr := (Below.refl W5.heap.size W5).drew
      have h5d := h5.keep hdr
      have y5d := (H4.out.2.trans s5).trans (Stay.of_below (E := E) (a := fv1) hdr)
      have B5 := (H4.out.1.stay s5).stay (Stay.of_below (E := E) (a := fv1) hdr)
      obtain ⟨x0, x1, x2⟩ := B5.cells
      have hr1 := HX.out.1.len
      simp only [List.length_cons] at hr1
      have hlr : r1.length ≤ 2097155 := by have := HL.out.1; omega
      clear hsk
      cases x with
      | no q2 =>
        have ht2 := term_no h5d hx2
        have HF0 := hid (And.intro y5d hx2)
        clear h5 s5 h5d hx2 y5d B5 hr1 hlr
        go_wp2
        refine wp_region_held_drew (S := fun X => X.cell? ⟨G, 0, none⟩ = some (.int .i64 t.v) ∧ X.cell? ⟨G, 1, none⟩ = some (.string t.fn) ∧ X.cell? ⟨G, 2, none⟩ = some (.slice sa t.args.length sc)) (by kernel_rfl) ⟨x0, x1, x2⟩ (fun hHeld => ?_)
        refine wpAnyH_take (i := 0) (v := tval t (.slice sa t.args.length sc)) rfl (by kernel_rfl) (by kernel_rfl) (by kernel_rfl) (fun _ _ _ h => h) (Or.inl ⟨by rfl, ?_⟩) (by assumption) ?_
        · intro w hSw; (try dsimp only at hSw); go_simp
        try simp only [Act.put, List.setIfInBounds_toArray]
        refine wpAnyH_take (i := 1) (v := .pointer (some ⟨E.B, 0, none⟩)) rfl (by kernel_rfl) (by kernel_rfl) (by kernel_rfl) (fun _ _ _ h => h) (Or.inl ⟨by rfl, ?_⟩) (by assumption) ?_
        · intro w hSw; (try dsimp only at hSw); go_simp
        try simp only [Act.put]
        refine wpAnyH_ready (rs := [2]) (by kernel_rfl) (by simp) ?_
        refine AllReadyH.cons rfl (fun K hK => ?_) AllReadyH.nil
        go_simp
        refine ht2.mono ?_
        rintro e W6 ⟨rfl, fv2, b6, y6⟩
        exact ⟨rfl, .inr ⟨q2, fv2, PA.ne_no HX.out.1 HQ0.out HQ.out HF0.out.2, rfl, b6, HF0.out.1.trans y6⟩⟩
      | ok us2 fr2 q2 =>
        obtain ⟨b, rfl, -, -⟩ := PT.single hx2
        have ht2 := term_ok h5d hx2
        have HX2 := hid (And.intro hx2 (PT.short hx2 hlr))
        have hsz : t.size + b.size ≤ 4611686018427387902 := by have h1 := HX.out.2.2; have h2 := HX2.out.2.2; omega
        have hsz' : (fEq t b).size ≤ 4611686018427387903 := by rw [fEq_size]; omega
        have hsz2 : t.size + b.size ≤ 4611686018427387903 := by omega
        have hz4 := y5d.size
        have HB4 := hid (And.intro B5 y5d)
        clear h5 s5 h5d hx2 y5d B5 hr1 hlr hsz
        go_wp2
        go_region_held3 (fun X => X.cell? ⟨G, 0, none⟩ = some (.int .i64 t.v) ∧ X.cell? ⟨G, 1, none⟩ = some (.string t.fn) ∧ X.cell? ⟨G, 2, none⟩ = some (.slice sa t.args.length sc)) (first | exact ⟨x0, x1, x2⟩ | exact ⟨y0, y1, y2⟩ | exact ⟨z0, z1, z2⟩ | exact ⟨kc (below_box W7 _) hG7 z0, kc (below_box W7 _) hG7 z1, kc (below_box W7 _) hG7 z2⟩ | exact ⟨u0, u1, u2⟩) (first
          | (go_at_call 30; refine (pcomp1 (HF7.out.2.1.keep (below_box W7 _)) hz7 (by decide) (cell_storeR (vs := [_]) (MapKept.heap_alloc W7 _).1 rfl) (HF7.out.1.grow (below_box W7 _)) hsz').mono ?_; rintro e W8 ⟨p2, rfl, p8, h8, y8⟩; obtain ⟨u0, u1, u2⟩ := ((HF7.out.2.2.2.stay (Stay.of_below (below_box W7 _))).stay y8).cells; have HF8 := hid (And.intro p8 (And.intro h8 (HF7.out.2.2.1.trans ((Stay.of_below (below_box W7 _)).trans y8)))); clear p8 h8 y8)
          | (go_at_call 200; refine (peq_any HF6.out.2.2.1 hz6 HF6.out.1.good (Good.more hz4 HF6.out.2.1) HX.out.2.1 HX2.out.2.1 hsz2).mono ?_; rintro e W7 ⟨p, rfl, p7, h7, y7⟩; obtain ⟨z0, z1, z2⟩ := (HF6.out.1.stay y7).cells; have hG7 := World.block_lt_of_cell? W7 _ z0; have hz7 : w.heap.size ≤ (W7.alloc (.cells #[.pointer (some ⟨p, 0, none⟩)] 53)).heap.size := Nat.le_trans (HF6.out.2.2.2.trans y7).size (below_box W7 _).size; have HF7 := hid (And.intro p7 (And.intro h7 (And.intro (HF6.out.2.2.2.trans y7) (HF6.out.1.stay y7)))); clear p7 h7 y7)
          | (go_at_call 199; refine ht2.mono ?_; rintro e W6 ⟨sb, fv2, rfl, a6, h6, y6⟩; obtain ⟨y0, y1, y2⟩ := (HB4.out.1.stay y6).cells; have hz6 := (HB4.out.2.trans y6).size; have HF6 := hid (And.intro (HB4.out.1.stay y6) (And.intro a6 (And.intro h6 (HB4.out.2.trans y6)))); clear a6 h6 y6))
        go_wp2
        go_ret
        have hs6 := HF8.out.2.1
        rw [List.append_assoc] at hs6
        exact .inl ⟨fOp 2 [fEq t b], p2, fr1 ++ fr2, q2, kb, fv2, PA.ne HX.out.1 HQ0.out HQ.out HX2.out.1, rfl, HF8.out.1, hs6, HF8.out.2.2⟩
    · have hqf : isM [33, 61] q = false := by simpa using hq
      have hsk := pskip_no h4 (ofL [33, 61]) (sign_not (by simp) (by decide) (by decide) h4.tok hqf)
      have HQ := hid hqf
      clear h4 hq hqf
      cases nb with
      | false =>
        go_wp2_with fail
        refine hsk.mono ?_
        rintro e W5 ⟨rfl, h5, s5⟩
        have HF := hid (And.intro h5.bx (H4.out.2.trans s5))
        clear hsk h5 s5
        go_wp2
        exact ⟨rfl, .inr ⟨q, fv1, PA.alone HX.out.1 HQ0.out HQ.out hnb, rfl, HF.out.1, HF.out.2⟩⟩
      | true =>
        go_wp2_with fail
        refine hsk.mono ?_
        rintro e W5 ⟨rfl, h5, s5⟩
        have hB5 := H4.out.1.stay s5
        have hG5 := hB5.box
        obtain ⟨⟨x0, x1, x2⟩, f0, f1, f2⟩ := res_cells hG5
        have ho := only_cell (Below.refl _ W5) G 1 (.string (⟨#[64]⟩ ++ t.fn))
        have hG6 := heap_setCell_same W5 G 1 _ 24 (.string (⟨#[64]⟩ ++ t.fn)) hG5
        have h6 := h5.write ho hB5.own (Nat.le_trans HN.out hB5.lo)
        have a6 : ArgsP (Good E w.heap.size fv1) (W5.setCell ⟨G, 1, none⟩ (.string (⟨#[64]⟩ ++ t.fn))) (.slice sa t.args.length sc) t.args := hB5.args.keep ho.size (fun k hk hl => ⟨hk.1, ho.block k hl (by simpa using hk.2)⟩)
        have y6 := (H4.out.2.trans s5).write ho hB5.lo
        simp only [List.setIfInBounds_toArray, List.set_cons_succ, List.set_cons_zero] at hG6
        obtain ⟨⟨z0, z1, z2⟩, -⟩ := res_cells hG6
        have hz6 := y6.size
        obtain ⟨W6, hW6⟩ : ∃ X, W5.setCell ⟨G, 1, none⟩ (.string (⟨#[64]⟩ ++ t.fn)) = X := ⟨_, rfl⟩
        rw [hW6] at h6 a6 y6 z0 z1 z2 hz6
        have hdp : (T.mk t.v (⟨#[64]⟩ ++ t.fn) t.args).depth = t.depth := by rw [T.depth_eq, T.depth_eq]; rfl
        have hsz : (T.mk t.v (⟨#[64]⟩ ++ t.fn) t.args).size = t.size := by rw [T.size_eq, T.size_eq]; rfl
        have hs1 : Short (T.mk t.v (⟨#[64]⟩ ++ t.fn) t.args) := short_of (by rw [hdp]; exact short_depth HX.out.2.1)
        have hs2 : Short trueT := short_of (by rw [T.depth_eq]; decide)
        have hs3 : (T.mk t.v (⟨#[64]⟩ ++ t.fn) t.args).size + trueT.size ≤ 4611686018427387903 := by
          have h1 := HX.out.2.2
          have h2 : trueT.size = 1 := by rw [T.size_eq]; rfl
          rw [hsz, h2]; omega
        have hfn : t.fn.size ≤ 281474976710656 := by
          obtain ⟨tk, h1, h2⟩ := PT.name HX.out.1
          have h3 := HL.out.2 tk h1
          rw [h2]
          exact Nat.le_trans (m := 63) h3 (by decide)
        have hpe := peq_any h6 hz6 (l := .mk t.v (⟨#[64]⟩ ++ t.fn) t.args) (r := trueT) a6 (ArgsP.nil _ _) hs1 hs2 hs3
        have H6 := hid y6
        clear hsk s5 h5 hB5 hG5 ho hG6 h6 a6 y6 hdp hsz hs1 hs2 hs3 H4
        go_upto_region 10 with fail
        try rw [hW6]
        clear hW6 x0 x1 x2 f0 f1 f2
        go_wp2_with fail
        refine hpe.mono ?_
        rintro e W7 ⟨p, rfl, p7, h7, y7⟩
        have HF := hid (And.intro p7 (And.intro h7 (H6.out.trans y7)))
        clear hpe p7 h7 y7
        go_wp2
        go_ret
        exact .inl ⟨fPred t, p, fr1, q, kb, fv1, PA.pred HX.out.1 HQ0.out HQ.out hnb, rfl, HF.out.1, HF.out.2.1, HF.out.2.2⟩
end
