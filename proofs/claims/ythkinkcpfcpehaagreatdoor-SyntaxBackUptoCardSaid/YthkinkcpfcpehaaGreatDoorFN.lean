import Derived.Test.YthkinkcpfcpehaaGreatDoorFJ
namespace Go.Proofs.YthkinkcpfcpehaaGreatDoor
set_option maxRecDepth 100000
set_option maxHeartbeats 8000000
section
open Go.RowKit Go.Maps
open Lx (Tk ofL KsAt flK flK_snoc row_keep row_block row_slice lit3 one3)
/-- The cells of terms with their slices. -/
def flT (l : List (T × Value)) : List Value := l.flatMap fun p => [.int .i64 p.1.v, .string p.1.fn, p.2]
theorem flT_len (l : List (T × Value)) : (flT l).length = l.length * 3 := by
  induction l with
  | nil => rfl
  | cons a r ih => simp only [flT, List.flatMap_cons, List.length_append, List.length_cons, List.length_nil] at ih ⊢; omega
theorem flT_snoc (l : List (T × Value)) (p : T × Value) : flT (l ++ [p]) = flT l ++ [.int .i64 p.1.v, .string p.1.fn, p.2] := by simp [flT]
theorem flT_get : ∀ (l : List (T × Value)) (i : Nat) (h : i < l.length), (flT l)[i * 3]? = some (.int .i64 l[i].1.v) ∧ (flT l)[i * 3 + 1]? = some (.string l[i].1.fn) ∧ (flT l)[i * 3 + 2]? = some l[i].2
  | f :: l, 0, _ => ⟨rfl, rfl, rfl⟩
  | f :: l, i + 1, h => by
    have ih := flT_get l i (by simpa using h)
    have e : ∀ j, (flT (f :: l))[(i + 1) * 3 + j]? = (flT l)[i * 3 + j]? := fun j => by
      show ([.int .i64 f.1.v, .string f.1.fn, f.2] ++ flT l)[(i + 1) * 3 + j]? = _
      rw [List.getElem?_append_right (by simp; omega)]
      congr 1
      simp
      omega
    exact ⟨(e 0).trans ih.1, (e 1).trans ih.2.1, (e 2).trans ih.2.2⟩
theorem argsP_of_row {P : Nat → Prop} {W : World} {base : Nat} {v : Value} {l : List (T × Value)} (h : W.ownsRow base 24 3 v l.length (flT l)) (hP : ∀ g, v.ownBlock = some g → P g) (hs : ∀ p ∈ l, ArgsP P W p.2 p.1.args) : ArgsP P W v (l.map (·.1)) := by
  obtain ⟨hl, ⟨e, h0⟩ | ⟨g, cap, cur, e, hb, hg, hc, hm, hsz, ht⟩⟩ := h
  · have : l = [] := List.eq_nil_of_length_eq_zero h0
    subst this
    rw [e]
    exact ArgsP.nil P W
  · subst e
    have hget : ∀ j u, (flT l)[j]? = some u → W.cell? ⟨g, 0 + j, none⟩ = some u := fun j u hj => by
      have hjl : j < l.length * 3 := by have := (List.getElem?_eq_some_iff.1 hj).1; rwa [flT_len] at this
      rw [← ht, List.getElem?_take, if_pos hjl] at hj
      rw [Nat.zero_add]
      rw [Array.getElem?_toList] at hj
      simp [World.cell?, hg, hj]
    have key := ArgsP.mk (P := P) (W := W) (some ⟨g, 0, none⟩) cap (l.map (·.1)) (fun i => (l[i]?.map (·.2)).getD (.slice none 0 0)) (by simpa using hc) (by unfold maxLen at hm; omega) (fun _ => ⟨g, 0, hP g rfl, (Array.getElem?_eq_some_iff.1 hg).1, rfl, fun i hi => by
      have hi' : i < l.length := by simpa using hi
      obtain ⟨q0, q1, q2⟩ := flT_get l i hi'
      simp only [List.getElem_map, List.getElem?_eq_getElem hi', Option.map_some, Option.getD_some]
      exact ⟨hget _ _ q0, hget _ _ q1, hget _ _ q2⟩⟩) (fun i hi => by
      have hi' : i < l.length := by simpa using hi
      simp only [List.getElem_map, List.getElem?_eq_getElem hi', Option.map_some, Option.getD_some]
      exact hs _ (List.getElem_mem hi'))
    simpa using key
/-- The blocks of what was read. -/
def Good (E : Env) (m : Nat) (fv : Value) (k : Nat) : Prop := m ≤ k ∧ ¬ Own E fv k
/-- What reading a term leaves. -/
def TermP (E : Env) (w : World) (l : List Tk) (bd : List (List UInt8)) (fr : List Tk) (kb : Nat) (fv c5 : Value) (e : Ending) (w' : World) : Prop :=
  (∃ t sl fr' q fv', PT bd l (.ok [t] fr' q) ∧ e = .returned (tmV t sl) ∧ ArgsP (Good E w.heap.size fv') w' sl t.args ∧ PSt E w' q bd (fr ++ fr') kb fv' c5 ∧ Stay E w fv w' fv') ∨
  (∃ q fv', PT bd l (.no q) ∧ e = .panicked misfit ∧ Bx w' E.B E.n E.n0 q (.map (some E.mb)) (.map (some E.mm)) fv' c5 ∧ Stay E w fv w' fv')
/-- What reading terms leaves. -/
def TermsP (E : Env) (w : World) (l : List Tk) (bd : List (List UInt8)) (fr : List Tk) (kb : Nat) (fv c5 : Value) (e : Ending) (w' : World) : Prop :=
  (∃ us sl fr' q fv', PTs bd l (.ok us fr' q) ∧ e = .returned sl ∧ ArgsP (Good E w.heap.size fv') w' sl us ∧ PSt E w' q bd (fr ++ fr') kb fv' c5 ∧ Stay E w fv w' fv') ∨
  (∃ q fv', PTs bd l (.no q) ∧ e = .panicked misfit ∧ Bx w' E.B E.n E.n0 q (.map (some E.mb)) (.map (some E.mm)) fv' c5 ∧ Stay E w fv w' fv')
/-- These terms were read, and what comes of the rest is what comes of all. -/
structure Goes (bd : List (List UInt8)) (l : List Tk) (us : List T) (fr q : List Tk) : Prop where
  more : isM [44] q = true → ∀ {bs : List T} {fr' q' : List Tk}, PTs bd q.tail (.ok bs fr' q') → PTs bd l (.ok (us ++ bs) (fr ++ fr') q')
  no : isM [44] q = true → ∀ {q' : List Tk}, PTs bd q.tail (.no q') → PTs bd l (.no q')
  last : isM [44] q = false → PTs bd l (.ok us fr q)
  len : q.length < l.length
theorem Goes.start {bd : List (List UInt8)} {l : List Tk} {us : List T} {fr q : List Tk} (h : PT bd l (.ok us fr q)) : Goes bd l us fr q :=
  ⟨fun hm _ _ _ hp => PTs.more h hm hp, fun hm _ hp => PTs.more_no h hm hp, fun hm => PTs.last h hm, h.len⟩
theorem Goes.step {bd : List (List UInt8)} {l : List Tk} {us vs : List T} {fr fr1 q q1 : List Tk} (h : Goes bd l us fr q) (hm : isM [44] q = true) (hp : PT bd q.tail (.ok vs fr1 q1)) : Goes bd l (us ++ vs) (fr ++ fr1) q1 := by
  have ht := tail_ltM hm
  refine ⟨fun hm1 _ _ _ hx => ?_, fun hm1 _ hx => h.no hm (PTs.more_no hp hm1 hx), fun hm1 => h.more hm (PTs.last hp hm1), by have := hp.len; have := h.len; omega⟩
  rw [List.append_assoc, List.append_assoc]
  exact h.more hm (PTs.more hp hm1 hx)
theorem Goes.stop {bd : List (List UInt8)} {l : List Tk} {us : List T} {fr q q' : List Tk} (h : Goes bd l us fr q) (hm : isM [44] q = true) (hp : PT bd q.tail (.no q')) : PTs bd l (.no q') := h.no hm (PTs.first_no hp)
theorem Good.more {E : Env} {m m' : Nat} {fv : Value} {W : World} {sl : Value} {l : List T} (hm : m ≤ m') (h : ArgsP (Good E m' fv) W sl l) : ArgsP (Good E m fv) W sl l :=
  h.keep (Nat.le_refl _) fun _ hk _ => ⟨⟨Nat.le_trans hm hk.1, hk.2⟩, rfl⟩
theorem PSt.grown {E : Env} {W W' : World} {l : List Tk} {bd : List (List UInt8)} {fr : List Tk} {kb : Nat} {fv c5 : Value} (h : PSt E W l bd fr kb fv c5) {row : Option Nat} (hg : W.grownBy W' row) (hr : ∀ g, row = some g → ¬ Own E fv g ∧ E.n0 ≤ g) : PSt E W' l bd fr kb fv c5 := by
  cases row with
  | none => exact h.keep ⟨hg.os, hg.tape, hg.output, hg.size, fun k hk => hg.block k hk (by simp)⟩
  | some g => exact h.write (R := g) (Only.of_grown hg (fun r hr => by cases hr; simp)) (hr g rfl).1 (hr g rfl).2
theorem Stay.grown {E : Env} {w W W' : World} {fv fv' : Value} (h : Stay E w fv W fv') {row : Option Nat} (hg : W.grownBy W' row) (hr : ∀ g, row = some g → w.heap.size ≤ g) : Stay E w fv W' fv' := by
  cases row with
  | none => exact h.trans (Stay.of_below ⟨hg.os, hg.tape, hg.output, hg.size, fun k hk => hg.block k hk (by simp)⟩)
  | some g => exact h.write (R := g) (Only.of_grown hg (fun r hr => by cases hr; simp)) (hr g rfl)
end
section
open Go.RowKit Go.Maps
open Lx (Tk ofL KsAt flK flK_snoc row_keep row_block row_slice lit3)
theorem info24 : (Tryz.prog.info? 24).map (fun i => (i.zero, i.size, i.bytes)) = some (some (.agg #[.int .i64 0, .string ⟨#[]⟩, .slice none 0 0]), 3, 48) := by kernel_rfl
theorem one3t {a : Int} {s : ByteArray} {b : Option Addr} {n c : Nat} : ∀ u ∈ [Value.int .i64 a, Value.string s, Value.slice b n c], u.oneCell' = true := by
  intro u hu
  simp only [List.mem_cons, List.not_mem_nil, or_false] at hu
  rcases hu with rfl | rfl | rfl <;> rfl
def lenV : Value → Nat
  | .slice _ n _ => n
  | _ => 0
structure PaI (E : Env) (w : World) (l : List Tk) (bd : List (List UInt8)) (fr : List Tk) (kb : Nat) (fv c5 : Value) (zs : List (T × Value)) (fr' q : List Tk) (fv' v : Value) (W : World) : Prop where
  goes : Goes bd l (zs.map (·.1)) fr' q
  st : PSt E W q bd (fr ++ fr') kb fv' c5
  stay : Stay E w fv W fv'
  row : W.ownsRow E.n0 24 3 v zs.length (flT zs)
  own : ∀ g, v.ownBlock = some g → Good E w.heap.size fv' g
  args : ∀ p ∈ zs, ArgsP (fun k => Good E w.heap.size fv' k ∧ v.ownBlock ≠ some k) W p.2 p.1.args
  cnt : zs.length + q.length ≤ l.length
theorem parted_any {E : Env} {c5 : Value} (n : Nat) (IH : ∀ l' : List Tk, l'.length ≤ n → ∀ (w : World) (bd : List (List UInt8)) (fr : List Tk) (kb : Nat) (fv : Value), PSt E w l' bd fr kb fv c5 → Calls Tryz.prog 199 #[.pointer (some ⟨E.B, 0, none⟩)] w (TermP E w l' bd fr kb fv c5))
    {l : List Tk} (hl : l.length ≤ n) {w : World} {bd : List (List UInt8)} {fr : List Tk} {kb : Nat} {fv : Value} (h : PSt E w l bd fr kb fv c5) :
    Calls Tryz.prog 209 #[.pointer (some ⟨E.B, 0, none⟩), .func (.func 199) #[.pointer (some ⟨E.B, 0, none⟩)] #[]] w (TermsP E w l bd fr kb fv c5) := by
  have ha := IH l hl w bd fr kb fv h
  have hmx := h.mx
  have hll := h.bud2
  have Hn0 : Hid (E.n0 ≤ w.heap.size) := by show E.n0 ≤ w.heap.size; have := h.ownlt (k := E.B) (.inl rfl); omega
  have HIH := hid IH
  have hLm : l.length ≤ 2097155 := by omega
  obtain ⟨L, hL⟩ : ∃ L, l.length = L := ⟨_, rfl⟩
  clear h IH hll
  go_enter Tryz.func209, Tryz.ntmps209
  go_wp2_with fail
  refine ha.mono ?_
  rintro e W1 (⟨t, sl, fr1, q, fv1, hp, rfl, a1, s1, y1⟩ | ⟨q, fv1, hp, rfl, b1, y1⟩)
  case inr =>
    have HF := hid (And.intro (PTs.first_no hp) (And.intro b1 y1))
    clear ha
    go_wp2
    exact ⟨rfl, .inr ⟨q, fv1, HF.out.1, rfl, HF.out.2.1, HF.out.2.2⟩⟩
  case inl =>
  obtain ⟨sa, sc, rfl⟩ := a1.slice
  have hb2 := below_box W1 (.cells #[.int .i64 t.v, .string t.fn, .slice sa t.args.length sc] 24)
  have hz2 := (MapKept.heap_alloc W1 (.cells #[.int .i64 t.v, .string t.fn, .slice sa t.args.length sc] 24)).1
  have HS : Hid (∃ zs fr' q fv', zs.length = 1 ∧ PaI E w l bd fr kb fv c5 zs fr' q fv' (.slice (some ⟨W1.heap.size, 0, none⟩) 1 1) (W1.alloc (.cells #[.int .i64 t.v, .string t.fn, .slice sa t.args.length sc] 24))) := by
    refine ⟨[(t, .slice sa t.args.length sc)], fr1, q, fv1, rfl, Goes.start hp, s1.keep hb2, y1.trans (Stay.of_below hb2), ?_, ?_, ?_, ?_⟩
    · exact ⟨rfl, .inr ⟨W1.heap.size, 1, _, rfl, by have := Hn0.out; have := y1.size; show E.n0 ≤ W1.heap.size; omega, hz2, Nat.le_refl _, by decide, rfl, rfl⟩⟩
    · rintro g hg
      have e := Option.some.inj hg
      simp only at e
      subst e
      exact ⟨y1.size, s1.fresh (Nat.le_refl _)⟩
    · intro p hp
      simp only [List.mem_singleton] at hp
      subst hp
      exact a1.keep hb2.size fun k hk hl => ⟨⟨hk, fun e => by have := Option.some.inj e; simp only at this; omega⟩, hb2.block k hl⟩
    · have := hp.len; simp; omega
  clear ha hp a1 s1 y1 hb2 hz2
  obtain ⟨i0, hi0, hz0, hz1, hz2⟩ := info_parts info24
  go_wp2
  go_loopw [5] (fun v W => ∃ (k : Nat) (a : Option Addr) (c : Nat), v = .slice a k c ∧ Hid (∃ zs fr' q fv', zs.length = k ∧ PaI E w l bd fr kb fv c5 zs fr' q fv' (.slice a k c) W)) (fun v _ => L - lenV v)
  case atStart => exact ⟨1, _, 1, rfl, HS.out⟩
  case round =>
    obtain ⟨k, va, vc, rfl, zs, fr', q, fv', hk, hI⟩ := hrel
    have HI := hid hI
    by_cases hm : isM [44] q = true
    · obtain ⟨t1, r1, rfl, _, _⟩ := isM_cons hm
      have hsk := pskip_yes hI.st (ofL [44]) ((sign_is (by simp) (by decide) (by decide) hI.st.tok).2 hm)
      have HM := hid hm
      clear hI hm
      go_wp2_with fail
      refine hsk.mono ?_
      rintro e W2 ⟨rfl, s2, y2⟩
      have hr1 : r1.length ≤ n := by have := HI.out.goes.len; simp only [List.length_cons] at this; omega
      have ha := HIH.out r1 hr1 W2 bd (fr ++ fr') kb fv' s2
      have HY2 := hid (And.intro s2 y2)
      clear hsk s2 y2
      go_wp2_with fail
      refine ha.mono ?_
      rintro e W3 (⟨t, sl, fr1, q3, fv3, hp, rfl, a3, s3, y3⟩ | ⟨q3, fv3, hp, rfl, b3, y3⟩)
      case inr =>
        have HF := hid (And.intro (HI.out.goes.stop HM.out hp) (And.intro b3 (HI.out.stay.trans (HY2.out.2.trans y3))))
        clear ha hp b3 y3
        go_wp2
        exact ⟨rfl, .inr ⟨q3, fv3, HF.out.1, rfl, HF.out.2.1, HF.out.2.2⟩⟩
      case inl =>
      obtain ⟨sa3, sc3, rfl⟩ := a3.slice
      have hb4 := below_box W3 (.cells #[.int .i64 t.v, .string t.fn, .slice sa3 t.args.length sc3] 24)
      have hvb : ∀ g, (Value.slice va k vc).ownBlock = some g → g < wr.heap.size ∧ W3.heap[g]? = wr.heap[g]? ∧ ¬ Own E fv3 g := fun g hg => by
        obtain ⟨_, cu, hcu⟩ := row_block HI.out.row hg
        have h1 := (Array.getElem?_eq_some_iff.1 hcu).1
        obtain ⟨p1, p2⟩ := HY2.out.2.blk g h1 (HI.out.own g hg).2
        obtain ⟨p3, p4⟩ := y3.blk g (Nat.lt_of_lt_of_le h1 HY2.out.2.size) p2
        exact ⟨h1, p3.trans p1, p4⟩
      have hrow : (W3.alloc (.cells #[.int .i64 t.v, .string t.fn, .slice sa3 t.args.length sc3] 24)).ownsRow E.n0 24 3 (.slice va k vc) k (flT zs) := by
        have := row_keep HI.out.row (W' := W3) (fun g hg => (hvb g hg).2.1)
        rw [hk] at this
        exact Lx.row_below this hb4
      have hkL : k ≤ 2097155 := by have := HI.out.cnt; omega
      have hz3 : E.n0 ≤ W3.heap.size := by have := Hn0.out; have := (HI.out.stay.trans (HY2.out.2.trans y3)).size; omega
      have hL4 : k + 1 + q3.length ≤ L := by have h1 := HI.out.cnt; have h2 := hp.len; simp only [List.length_cons] at h1 h2; omega
      have HFIN : Hid (∀ v' w1, w1.ownsRow E.n0 24 3 v' (k + 1) (flT zs ++ [.int .i64 t.v, .string t.fn, .slice sa3 t.args.length sc3]) → (W3.alloc (.cells #[.int .i64 t.v, .string t.fn, .slice sa3 t.args.length sc3] 24)).grownBy w1 (Value.slice va k vc).ownBlock → (v'.ownBlock = (Value.slice va k vc).ownBlock ∨ v'.ownBlock = some (W3.alloc (.cells #[.int .i64 t.v, .string t.fn, .slice sa3 t.args.length sc3] 24)).heap.size) →
          ∃ zs fr' q fv', zs.length = k + 1 ∧ PaI E w l bd fr kb fv c5 zs fr' q fv' v' w1) := by
        rintro v' w1 hown hg hat
        have hst := (HI.out.stay.trans (HY2.out.2.trans y3)).trans (Stay.of_below hb4)
        have hsz := hst.size
        have hold : ∀ g, (Value.slice va k vc).ownBlock = some g → w.heap.size ≤ g := fun g hg => (HI.out.own g hg).1
        refine ⟨zs ++ [(t, .slice sa3 t.args.length sc3)], fr' ++ fr1, q3, fv3, by simp [hk], ?_, ?_, hst.grown hg hold, ?_, ?_, ?_, ?_⟩
        · have := HI.out.goes.step HM.out hp
          simpa using this
        · rw [← List.append_assoc]
          exact (s3.keep hb4).grown hg (fun g e => ⟨(hvb g e).2.2, by have := hold g e; have := Hn0.out; omega⟩)
        · rw [flT_snoc, List.length_append, hk]; exact hown
        · intro g hgv
          rcases hat with h1 | h1
          · exact ⟨hold g (h1 ▸ hgv), (hvb g (h1 ▸ hgv)).2.2⟩
          · rw [h1] at hgv
            have e := Option.some.inj hgv
            rw [World.size_alloc] at e
            exact ⟨by have := hst.size; simp at this; omega, s3.fresh (by omega)⟩
        · intro p hpm
          have grow : ∀ {P : Nat → Prop} {sl : Value} {us : List T}, ArgsP P W3 sl us → (∀ j, P j → j < W3.heap.size → Good E w.heap.size fv3 j ∧ (Value.slice va k vc).ownBlock ≠ some j) → ArgsP (fun j => Good E w.heap.size fv3 j ∧ v'.ownBlock ≠ some j) w1 sl us := fun ha hP =>
            ha.keep (Nat.le_trans hb4.size hg.size) fun j hj hjl => by
              obtain ⟨g1, g2⟩ := hP j hj hjl
              refine ⟨⟨g1, fun e => ?_⟩, (hg.block j (Nat.lt_of_lt_of_le hjl hb4.size) (fun e => g2 e.symm)).trans (hb4.block j hjl)⟩
              rcases hat with h1 | h1
              · exact g2 (h1 ▸ e)
              · rw [h1] at e
                have := Option.some.inj e
                rw [World.size_alloc] at this
                omega
          rcases List.mem_append.1 hpm with hpz | hpz
          · refine grow (P := fun j => Good E w.heap.size fv3 j ∧ (Value.slice va k vc).ownBlock ≠ some j) ((HI.out.args p hpz).keep (Nat.le_trans HY2.out.2.size y3.size) fun j hj hjl => ?_) (fun j hj _ => hj)
            obtain ⟨p1, p2⟩ := HY2.out.2.blk j hjl hj.1.2
            obtain ⟨p3, p4⟩ := y3.blk j (Nat.lt_of_lt_of_le hjl HY2.out.2.size) p2
            exact ⟨⟨⟨hj.1.1, p4⟩, hj.2⟩, p3.trans p1⟩
          · simp only [List.mem_singleton] at hpz
            subst hpz
            exact grow a3 fun j hj _ => ⟨⟨by have := hj.1; have := (HI.out.stay.trans HY2.out.2).size; omega, hj.2⟩, fun e => by have := (hvb j e).1; have := hj.1; have := HY2.out.2.size; omega⟩
        · have := hL4; rw [← hL] at this; simp [hk]; omega
      clear ha hp a3 s3 y3 hb4 hvb
      go_wp2_with (at_builtin; refine wpList_append_own_at _ rfl _ _ 22 rfl E.n0 24 i0 _ 3 48 Tryz.underlying22 hi0 hz0 hz1 hz2 rfl (by decide) _ _ _ rfl hrow ⟨W3.heap.size, 0, none⟩ 1 1 [.int .i64 t.v, .string t.fn, .slice sa3 t.args.length sc3] rfl rfl (lit3 W3 _ _ _ _ 24 rfl) one3t (by unfold maxLen; omega) (by omega) (by simp; omega) ?_; intro v' w1 hown hg _ hat; have HN := hid (HFIN.out v' w1 hown hg hat); obtain ⟨a', cap', rfl⟩ := row_slice hown; clear hown hg hat)
      go_roundw
      case rel => exact ⟨k + 1, a', cap', rfl, HN.out⟩
      case measure => simp [lenV]; omega
    · have hmf : isM [44] q = false := by simpa using hm
      have hsk := pskip_no hI.st (ofL [44]) (sign_not (by simp) (by decide) (by decide) hI.st.tok hmf)
      have HM := hid hmf
      clear hI hm hmf
      go_wp2_with fail
      refine hsk.mono ?_
      rintro e W2 ⟨rfl, s2, y2⟩
      have HY2 := hid (And.intro s2 y2)
      clear hsk s2 y2
      go_wp2
      go_ret
      refine .inl ⟨zs.map (·.1), _, fr', q, fv', HI.out.goes.last HM.out, rfl, ?_, HY2.out.1, HI.out.stay.trans HY2.out.2⟩
      have hvb : ∀ g, (Value.slice va k vc).ownBlock = some g → W2.heap[g]? = wr.heap[g]? ∧ ¬ Own E fv' g := fun g hg => by
        obtain ⟨_, cu, hcu⟩ := row_block HI.out.row hg
        exact HY2.out.2.blk g (Array.getElem?_eq_some_iff.1 hcu).1 (HI.out.own g hg).2
      refine argsP_of_row (base := E.n0) ?_ (fun g hg => HI.out.own g hg) (fun p hp => (HI.out.args p hp).keep HY2.out.2.size fun j hj hjl => ?_)
      · exact row_keep HI.out.row (fun g hg => (hvb g hg).1)
      · obtain ⟨p1, p2⟩ := HY2.out.2.blk j hjl hj.1.2
        exact ⟨hj.1, p1⟩
end
section
open Go.RowKit Go.Maps
open Lx (Tk ofL KsAt flK flK_snoc row_keep row_block row_slice lit3)
attribute [local go_sem] fld0 fld2
theorem term_wrong {E : Env} {w : World} {l : List Tk} {bd : List (List UInt8)} {fr : List Tk} {kb : Nat} {fv c5 : Value} (h : PSt E w l bd fr kb fv c5) (h1 : isK 1 l = false) (h2 : isK 2 l = false) :
    Calls Tryz.prog 199 #[.pointer (some ⟨E.B, 0, none⟩)] w fun e w' => e = .panicked misfit ∧ PSt E w' l bd fr kb fv c5 ∧ Stay E w fv w' fv := by
  have hb0 := below_box w (.cells #[.int .i64 0, .string ⟨#[]⟩, .slice none 0 0] 24)
  have h0 := h.keep hb0
  obtain ⟨W0, hW0⟩ : ∃ X, w.alloc (.cells #[.int .i64 0, .string ⟨#[]⟩, .slice none 0 0] 24) = X := ⟨_, rfl⟩
  rw [hW0] at h0 hb0
  obtain ⟨R, hR⟩ : ∃ R, w.heap.size = R := ⟨_, rfl⟩
  obtain ⟨k', a', x', hv, hne⟩ : ∃ (k' : Int) (a' : Nat) (x' : ByteArray), tokV E.n l = .agg #[.int .i64 k', .int .i64 (a' : Nat), .string x'] ∧ k' ≠ 2 := by
    cases l with
    | nil => exact ⟨0, E.n, _, rfl, by decide⟩
    | cons t r => exact ⟨t.k, t.a, _, rfl, by simpa [isK] using h2⟩
  have ha := pahead h0
  rw [hv] at ha
  have hk2 : (k' == 2) = false := by rw [beq_eq_false_iff_ne]; exact hne
  have H0 : Hid (Stay E w fv W0 fv) := Stay.of_below hb0
  clear hb0 h0 h hv hne
  go_enter Tryz.func199, Tryz.ntmps199
  go_upto_region 1 with fail
  try simp only [hR]
  try rw [hW0]
  clear hW0
  go_wp2_with fail
  refine ha.mono ?_
  rintro e W1 ⟨rfl, p1, s1⟩
  have hc := ptake_no p1 1 h1 (by decide)
  have H1 := hid (H0.out.trans s1)
  clear ha p1 s1 H0
  go_wp2_with fail
  refine hc.mono ?_
  rintro e W2 ⟨rfl, p2, s2⟩
  have H2 := hid (And.intro p2 (H1.out.trans s2))
  clear hc p2 s2 H1
  go_wp2
  exact ⟨rfl, rfl, H2.out⟩
/-- A name, up to what follows it: the term stands in a box. -/
theorem term_const {E : Env} {w : World} {t : Tk} {r : List Tk} {bd : List (List UInt8)} {fr : List Tk} {kb : Nat} {fv c5 : Value} (h : PSt E w (t :: r) bd fr kb fv c5) (hk : t.k = 1) (hm : isM [40] r = false) :
    Calls Tryz.prog 199 #[.pointer (some ⟨E.B, 0, none⟩)] w fun e w' => e = .returned (tmV (.mk 0 (ofL t.t) []) (.slice none 0 0)) ∧ PSt E w' r bd fr kb fv c5 ∧ Stay E w fv w' fv := by
  have hb0 := below_box w (.cells #[.int .i64 0, .string ⟨#[]⟩, .slice none 0 0] 24)
  have h0 := h.keep hb0
  have hz := (MapKept.heap_alloc w (.cells #[.int .i64 0, .string ⟨#[]⟩, .slice none 0 0] 24)).1
  have HR : Hid (¬ Own E fv w.heap.size) := h.fresh (Nat.le_refl _)
  have HRn : Hid (E.n0 ≤ w.heap.size) := by show E.n0 ≤ w.heap.size; have := h.ownlt (k := E.B) (.inl rfl); omega
  obtain ⟨W0, hW0⟩ : ∃ X, w.alloc (.cells #[.int .i64 0, .string ⟨#[]⟩, .slice none 0 0] 24) = X := ⟨_, rfl⟩
  rw [hW0] at h0 hb0 hz
  obtain ⟨R, hR⟩ : ∃ R, w.heap.size = R := ⟨_, rfl⟩
  have ha := pahead h0
  have hRl : R < W0.heap.size := by rw [hR] at hz; exact (Array.getElem?_eq_some_iff.1 hz).1
  rw [hR] at hz HR HRn
  have H0 : Hid (W0.heap[R]? = some (.cells #[.int .i64 0, .string ⟨#[]⟩, .slice none 0 0] 24 (0, 0)) ∧ R < W0.heap.size ∧ Stay E w fv W0 fv) := ⟨hz, hRl, Stay.of_below hb0⟩
  obtain ⟨tx, htx⟩ : ∃ x, ofL t.t = x := ⟨_, rfl⟩
  simp only [tokV, hk, htx] at ha
  clear hb0 hz h0 h hRl
  go_enter Tryz.func199, Tryz.ntmps199
  go_upto_region 1 with fail
  try simp only [hR]
  try rw [hW0]
  clear hW0
  go_wp2_with fail
  refine ha.mono ?_
  rintro e W1 ⟨rfl, h1, s1⟩
  have H1 : Hid (W1.heap[R]? = some (.cells #[.int .i64 0, .string ⟨#[]⟩, .slice none 0 0] 24 (0, 0)) ∧ R < W1.heap.size ∧ Stay E w fv W1 fv) := ⟨(s1.blk R H0.out.2.1 HR.out).1.trans H0.out.1, Nat.lt_of_lt_of_le H0.out.2.1 s1.size, H0.out.2.2.trans s1⟩
  have ha2 := ptake_k h1 hk
  simp only [tokV, hk, htx] at ha2
  clear ha h1 s1 H0
  go_wp2_with fail
  refine ha2.mono ?_
  rintro e W2 ⟨rfl, h2, s2⟩
  have H2 : Hid (W2.heap[R]? = some (.cells #[.int .i64 0, .string ⟨#[]⟩, .slice none 0 0] 24 (0, 0)) ∧ R < W2.heap.size ∧ Stay E w fv W2 fv) := ⟨(s2.blk R H1.out.2.1 HR.out).1.trans H1.out.1, Nat.lt_of_lt_of_le H1.out.2.1 s2.size, H1.out.2.2.trans s2⟩
  clear ha2 s2 H1
  go_upto_region 7 with fail
  have hb3 := below_box W2 (.cells #[.int .i64 0, .string tx, .slice none 0 0] 24)
  have hz3 := (MapKept.heap_alloc W2 (.cells #[.int .i64 0, .string tx, .slice none 0 0] 24)).1
  have h3 := h2.keep hb3
  have hG : ¬ Own E fv W2.heap.size := h2.fresh (Nat.le_refl _)
  have hGR : R ≠ W2.heap.size := fun e => by have := H2.out.2.1; omega
  obtain ⟨G, hGe⟩ : ∃ G, W2.heap.size = G := ⟨_, rfl⟩
  rw [hGe] at hz3 hG hGR
  try simp only [hGe]
  obtain ⟨W3, hW3⟩ : ∃ X, W2.alloc (.cells #[.int .i64 0, .string tx, .slice none 0 0] 24) = X := ⟨_, rfl⟩
  rw [hW3] at h3 hb3 hz3 ⊢
  have H3 : Hid (W3.heap[R]? = some (.cells #[.int .i64 0, .string ⟨#[]⟩, .slice none 0 0] 24 (0, 0)) ∧ R < W3.heap.size ∧ Stay E w fv W3 fv ∧ W3.heap[G]? = some (.cells #[.int .i64 0, .string tx, .slice none 0 0] 24 (0, 0)) ∧ ¬ Own E fv G ∧ R ≠ G) := ⟨(hb3.block R H2.out.2.1).trans H2.out.1, Nat.lt_of_lt_of_le H2.out.2.1 hb3.size, H2.out.2.2.trans (Stay.of_below hb3), hz3, hG, hGR⟩
  have hsk := pskip_no h3 (ofL [40]) (sign_not (by simp) (by decide) (by decide) h3.tok hm)
  clear hb3 hz3 h3 h2 hG hGR hGe hW3 H2
  go_wp2_with fail
  refine hsk.mono ?_
  rintro e W4 ⟨rfl, h4, s4⟩
  have hR4 := (s4.blk R H3.out.2.1 HR.out).1.trans H3.out.1
  have hG4 := (s4.blk G (Array.getElem?_eq_some_iff.1 H3.out.2.2.2.1).1 H3.out.2.2.2.2.1).1.trans H3.out.2.2.2.1
  obtain ⟨⟨r0, r1, r2⟩, f0, f1, f2⟩ := res_cells hR4
  obtain ⟨⟨q0, q1, q2⟩, _⟩ := res_cells hG4
  have HF := hid (And.intro h4 (And.intro (H3.out.2.2.1.trans s4) hR4))
  clear hsk h4 s4 hR4 hG4
  go_wp2
  have hbx5 := box3 HF.out.2.2 (.int .i64 0) (.string tx) (.slice none 0 0)
  have ho5 := only3 W4 R (.int .i64 0) (.string tx) (.slice none 0 0)
  obtain ⟨⟨p0, p1, p2⟩, _⟩ := res_cells hbx5
  refine bodyPost_ret (v := tmV (.mk 0 tx []) (.slice none 0 0)) (by simp [results, Tryz.results199, go_sem, p0, p1, p2, T.v, T.fn]) rfl ?_
  exact ⟨by rw [htx], HF.out.1.write ho5 HR.out HRn.out, HF.out.2.1.write ho5 (by omega)⟩
end
section
open Go.RowKit Go.Maps
open Lx (Tk ofL KsAt flK flK_snoc row_keep row_block row_slice lit3)
attribute [local go_sem] fld0 fld2
/-- A name with arguments. -/
theorem term_fn {E : Env} {c5 : Value} (n : Nat) (IH : ∀ l' : List Tk, l'.length ≤ n → ∀ (w : World) (bd : List (List UInt8)) (fr : List Tk) (kb : Nat) (fv : Value), PSt E w l' bd fr kb fv c5 → Calls Tryz.prog 199 #[.pointer (some ⟨E.B, 0, none⟩)] w (TermP E w l' bd fr kb fv c5))
    {w : World} {t : Tk} {r : List Tk} (hl : r.length ≤ n) {bd : List (List UInt8)} {fr : List Tk} {kb : Nat} {fv : Value} (h : PSt E w (t :: r) bd fr kb fv c5) (hk : t.k = 1) (hm : isM [40] r = true) :
    Calls Tryz.prog 199 #[.pointer (some ⟨E.B, 0, none⟩)] w (TermP E w (t :: r) bd fr kb fv c5) := by
  have HM := hid hm
  obtain ⟨t1, r1, rfl, _, _⟩ := isM_cons hm
  have hb0 := below_box w (.cells #[.int .i64 0, .string ⟨#[]⟩, .slice none 0 0] 24)
  have h0 := h.keep hb0
  have hz := (MapKept.heap_alloc w (.cells #[.int .i64 0, .string ⟨#[]⟩, .slice none 0 0] 24)).1
  have HR : Hid (¬ Own E fv w.heap.size) := h.fresh (Nat.le_refl _)
  have HRn : Hid (E.n0 ≤ w.heap.size) := by show E.n0 ≤ w.heap.size; have := h.ownlt (k := E.B) (.inl rfl); omega
  obtain ⟨W0, hW0⟩ : ∃ X, w.alloc (.cells #[.int .i64 0, .string ⟨#[]⟩, .slice none 0 0] 24) = X := ⟨_, rfl⟩
  rw [hW0] at h0 hb0 hz
  obtain ⟨R, hR⟩ : ∃ R, w.heap.size = R := ⟨_, rfl⟩
  have ha := pahead h0
  have hRl : R < W0.heap.size := by rw [hR] at hz; exact (Array.getElem?_eq_some_iff.1 hz).1
  rw [hR] at hz HR HRn
  have H0 : Hid (W0.heap[R]? = some (.cells #[.int .i64 0, .string ⟨#[]⟩, .slice none 0 0] 24 (0, 0)) ∧ R < W0.heap.size ∧ Stay E w fv W0 fv) := ⟨hz, hRl, Stay.of_below hb0⟩
  obtain ⟨tx, htx⟩ : ∃ x, ofL t.t = x := ⟨_, rfl⟩
  simp only [tokV, hk, htx] at ha
  clear hb0 hz h0 h hRl
  go_enter Tryz.func199, Tryz.ntmps199
  go_upto_region 1 with fail
  try simp only [hR]
  try rw [hW0]
  clear hW0
  go_wp2_with fail
  refine ha.mono ?_
  rintro e W1 ⟨rfl, h1, s1⟩
  have H1 : Hid (W1.heap[R]? = some (.cells #[.int .i64 0, .string ⟨#[]⟩, .slice none 0 0] 24 (0, 0)) ∧ R < W1.heap.size ∧ Stay E w fv W1 fv) := ⟨(s1.blk R H0.out.2.1 HR.out).1.trans H0.out.1, Nat.lt_of_lt_of_le H0.out.2.1 s1.size, H0.out.2.2.trans s1⟩
  have ha2 := ptake_k h1 hk
  simp only [tokV, hk, htx] at ha2
  clear ha h1 s1 H0
  go_wp2_with fail
  refine ha2.mono ?_
  rintro e W2 ⟨rfl, h2, s2⟩
  have H2 : Hid (W2.heap[R]? = some (.cells #[.int .i64 0, .string ⟨#[]⟩, .slice none 0 0] 24 (0, 0)) ∧ R < W2.heap.size ∧ Stay E w fv W2 fv) := ⟨(s2.blk R H1.out.2.1 HR.out).1.trans H1.out.1, Nat.lt_of_lt_of_le H1.out.2.1 s2.size, H1.out.2.2.trans s2⟩
  clear ha2 s2 H1
  go_upto_region 7 with fail
  have hb3 := below_box W2 (.cells #[.int .i64 0, .string tx, .slice none 0 0] 24)
  have hz3 := (MapKept.heap_alloc W2 (.cells #[.int .i64 0, .string tx, .slice none 0 0] 24)).1
  have h3 := h2.keep hb3
  have hG : ¬ Own E fv W2.heap.size := h2.fresh (Nat.le_refl _)
  have HG : Hid (w.heap.size ≤ W2.heap.size) := H2.out.2.2.size
  have hGR : R ≠ W2.heap.size := fun e => by have := H2.out.2.1; omega
  obtain ⟨G, hGe⟩ : ∃ G, W2.heap.size = G := ⟨_, rfl⟩
  rw [hGe] at hz3 hG hGR HG
  try simp only [hGe]
  obtain ⟨W3, hW3⟩ : ∃ X, W2.alloc (.cells #[.int .i64 0, .string tx, .slice none 0 0] 24) = X := ⟨_, rfl⟩
  rw [hW3] at h3 hb3 hz3 ⊢
  have H3 : Hid (W3.heap[R]? = some (.cells #[.int .i64 0, .string ⟨#[]⟩, .slice none 0 0] 24 (0, 0)) ∧ R < W3.heap.size ∧ Stay E w fv W3 fv ∧ W3.heap[G]? = some (.cells #[.int .i64 0, .string tx, .slice none 0 0] 24 (0, 0)) ∧ ¬ Own E fv G ∧ R ≠ G) := ⟨(hb3.block R H2.out.2.1).trans H2.out.1, Nat.lt_of_lt_of_le H2.out.2.1 hb3.size, H2.out.2.2.trans (Stay.of_below hb3), hz3, hG, hGR⟩
  have hsk := pskip_yes h3 (ofL [40]) ((sign_is (by simp) (by decide) (by decide) h3.tok).2 hm)
  have HIH := hid IH
  clear hb3 hz3 h3 h2 hG hGR hGe hW3 H2 IH hm
  go_wp2_with fail
  refine hsk.mono ?_
  rintro e W4 ⟨rfl, h4, s4⟩
  have H4 : Hid (W4.heap[R]? = some (.cells #[.int .i64 0, .string ⟨#[]⟩, .slice none 0 0] 24 (0, 0)) ∧ R < W4.heap.size ∧ Stay E w fv W4 fv ∧ W4.heap[G]? = some (.cells #[.int .i64 0, .string tx, .slice none 0 0] 24 (0, 0)) ∧ ¬ Own E fv G ∧ R ≠ G) := by
    have hG4 := (s4.blk G (Array.getElem?_eq_some_iff.1 H3.out.2.2.2.1).1 H3.out.2.2.2.2.1).1.trans H3.out.2.2.2.1
    exact ⟨(s4.blk R H3.out.2.1 HR.out).1.trans H3.out.1, Nat.lt_of_lt_of_le H3.out.2.1 s4.size, H3.out.2.2.1.trans s4, hG4, H3.out.2.2.2.2.1, H3.out.2.2.2.2.2⟩
  have hpa := parted_any n HIH.out (by simp only [List.length_cons] at hl; omega) h4
  clear hsk h4 s4 H3
  go_wp2_with fail
  refine hpa.mono ?_
  rintro e W5 (⟨us, sl, fr1, q, fv1, hp, rfl, a5, s5, y5⟩ | ⟨q, fv1, hp, rfl, b5, y5⟩)
  case inr =>
    have HF := hid (And.intro (PT.args_no hk HM.out hp) (And.intro b5 (H4.out.2.2.1.trans y5)))
    clear hpa hp b5 y5
    go_wp2
    exact ⟨rfl, .inr ⟨q, fv1, HF.out.1, rfl, HF.out.2.1, HF.out.2.2⟩⟩
  case inl =>
  obtain ⟨sa, sc, rfl⟩ := a5.slice
  have hR5 := (y5.blk R H4.out.2.1 HR.out)
  have hG5 := (y5.blk G (Array.getElem?_eq_some_iff.1 H4.out.2.2.2.1).1 H4.out.2.2.2.2.1)
  have hG5c := hG5.1.trans H4.out.2.2.2.1
  obtain ⟨⟨q0, q1, q2⟩, g0, g1, g2⟩ := res_cells hG5c
  have hG6 := heap_setCell_same W5 G 2 _ 24 (.slice sa us.length sc) hG5c
  have ho6 : Only [G] W5 (W5.setCell ⟨G, 2, none⟩ (.slice sa us.length sc)) := only_cell (Below.refl _ W5) G 2 _
  have hGl : w.heap.size ≤ G := by
    rcases Nat.lt_or_ge G w.heap.size with hlt | hge
    · exfalso; have := HG.out; omega
    · exact hge
  have hRG : R ≠ G := H4.out.2.2.2.2.2
  have h6 := s5.write ho6 hG5.2 (by have := HRn.out; omega)
  have H6 : Hid ((W5.setCell ⟨G, 2, none⟩ (.slice sa us.length sc)).heap[R]? = some (.cells #[.int .i64 0, .string ⟨#[]⟩, .slice none 0 0] 24 (0, 0)) ∧ R < W5.heap.size ∧ Stay E w fv (W5.setCell ⟨G, 2, none⟩ (.slice sa us.length sc)) fv1 ∧ (W5.setCell ⟨G, 2, none⟩ (.slice sa us.length sc)).heap[G]? = some (.cells #[.int .i64 0, .string tx, .slice sa us.length sc] 24 (0, 0)) ∧ ¬ Own E fv1 G ∧ ¬ Own E fv1 R ∧ ArgsP (fun k => Good E w.heap.size fv1 k ∧ k ≠ R) (W5.setCell ⟨G, 2, none⟩ (.slice sa us.length sc)) (.slice sa us.length sc) us) := by
    refine ⟨(Below.heap_setCell _ _ _ R hRG).trans (hR5.1.trans H4.out.1), Nat.lt_of_lt_of_le H4.out.2.1 y5.size, (H4.out.2.2.1.trans y5).write ho6 hGl, by simpa using hG6, hG5.2, hR5.2, a5.keep ho6.size fun j hj hjl => ?_⟩
    exact ⟨⟨⟨by have := hj.1; have := H4.out.2.2.1.size; omega, hj.2⟩, fun e => by have := H4.out.2.1; have := hj.1; omega⟩, Below.heap_setCell _ _ _ j (fun e => by have h1 := (Array.getElem?_eq_some_iff.1 H4.out.2.2.2.1).1; have := hj.1; have e' : j = G := e; omega)⟩
  obtain ⟨W6, hW6⟩ : ∃ X, W5.setCell ⟨G, 2, none⟩ (.slice sa us.length sc) = X := ⟨_, rfl⟩
  have HP := hid hp
  have hz56 := ho6.size
  rw [hW6] at h6 H6 hz56
  clear hpa hp a5 s5 y5 hR5 hG5 hG5c hG6 ho6 H4
  go_upto_region 9 with fail
  try rw [hW6]
  clear hW6
  by_cases hq : isM [41] q = true
  case neg =>
    have hqf : isM [41] q = false := by simpa using hq
    have hmu := pmust_no h6 (ofL [41]) (sign_not (by simp) (by decide) (by decide) h6.tok hqf)
    have HQ := hid (PT.fn_no hk HM.out HP.out hqf)
    clear h6 hq hqf
    go_wp2_with fail
    refine hmu.mono ?_
    rintro e W7 ⟨rfl, s7, y7⟩
    have HF := hid (And.intro s7.bx (H6.out.2.2.1.trans y7))
    clear hmu s7 y7
    go_wp2
    exact ⟨rfl, .inr ⟨q, fv1, HQ.out, rfl, HF.out.1, HF.out.2⟩⟩
  case pos =>
  have HQ := hid (PT.fn hk HM.out HP.out hq)
  obtain ⟨t2, r2, rfl, _, _⟩ := isM_cons hq
  have hmu := pmust_yes h6 (ofL [41]) ((sign_is (by simp) (by decide) (by decide) h6.tok).2 hq)
  clear h6 hq
  go_wp2_with fail
  refine hmu.mono ?_
  rintro e W7 ⟨rfl, s7, y7⟩
  have hR7 := (y7.blk R (Nat.lt_of_lt_of_le H6.out.2.1 hz56) H6.out.2.2.2.2.2.1)
  have hG7 := (y7.blk G (Array.getElem?_eq_some_iff.1 H6.out.2.2.2.1).1 H6.out.2.2.2.2.1)
  have hR7c := hR7.1.trans H6.out.1
  obtain ⟨⟨r0, r1, r2⟩, f0, f1, f2⟩ := res_cells hR7c
  obtain ⟨⟨q0, q1, q2⟩, _⟩ := res_cells (hG7.1.trans H6.out.2.2.2.1)
  have HF := hid (And.intro s7 (And.intro (H6.out.2.2.1.trans y7) (And.intro hR7c (And.intro hR7.2 (H6.out.2.2.2.2.2.2.keep y7.size fun j hj hjl => (⟨⟨⟨hj.1.1, (y7.blk j hjl hj.1.2).2⟩, hj.2⟩, (y7.blk j hjl hj.1.2).1⟩ : (Good E w.heap.size fv1 j ∧ j ≠ R) ∧ _))))))
  clear hmu s7 y7 hR7 hG7 hR7c
  go_wp2
  have hbx5 := box3 HF.out.2.2.1 (.int .i64 0) (.string tx) (.slice sa us.length sc)
  have ho5 := only3 W7 R (.int .i64 0) (.string tx) (.slice sa us.length sc)
  obtain ⟨⟨p0, p1, p2⟩, _⟩ := res_cells hbx5
  refine bodyPost_ret (v := tmV (.mk 0 tx us) (.slice sa us.length sc)) (by simp [results, Tryz.results199, go_sem, p0, p1, p2, T.v, T.fn]) rfl ?_
  refine .inl ⟨.mk 0 (ofL t.t) us, .slice sa us.length sc, fr1, _, fv1, HQ.out, by rw [htx], ?_, HF.out.1.write ho5 HF.out.2.2.2.1 HRn.out, HF.out.2.1.write ho5 (by omega)⟩
  exact HF.out.2.2.2.2.keep ho5.size fun j hj hjl => ⟨hj.1, ho5.block j hjl (by simpa using hj.2)⟩
theorem term_any {E : Env} {c5 : Value} : ∀ (n : Nat) (l : List Tk), l.length ≤ n → ∀ (w : World) (bd : List (List UInt8)) (fr : List Tk) (kb : Nat) (fv : Value), PSt E w l bd fr kb fv c5 → Calls Tryz.prog 199 #[.pointer (some ⟨E.B, 0, none⟩)] w (TermP E w l bd fr kb fv c5)
  | n, [], _, w, bd, fr, kb, fv, h => by
    refine (term_wrong h rfl rfl).mono ?_
    rintro e w' ⟨rfl, s, y⟩
    exact .inr ⟨[], fv, PT.nil, rfl, s.bx, y⟩
  | 0, t :: r, hl, _, _, _, _, _, _ => absurd hl (by simp)
  | n + 1, t :: r, hl, w, bd, fr, kb, fv, h => by
    have hrn : r.length ≤ n := by simpa using hl
    have nil : ∀ (m : Nat) (fv' : Value) (w' : World), ArgsP (Good E m fv') w' (.slice none 0 0) (T.mk 0 (ofL t.t) []).args := fun m fv' w' => ArgsP.nil _ _
    by_cases h2 : t.k = 2
    · by_cases hb : t.t ∈ bd
      · refine (term_bound h h2 hb).mono ?_
        rintro e w' ⟨rfl, s, y⟩
        exact .inl ⟨_, _, [], r, fv, by have := PT.var (bd := bd) (r := r) h2; rwa [if_pos hb] at this, rfl, nil _ _ _, by rwa [List.append_nil], y⟩
      · have hp := PT.var (bd := bd) (r := r) h2
        rw [if_neg hb] at hp
        by_cases hq : t.t ∈ fr.map Tk.t
        · refine (term_again h h2 hb hq).mono ?_
          rintro e w' ⟨rfl, s, y⟩
          exact .inl ⟨_, _, [t], r, fv, hp, rfl, nil _ _ _, s, y⟩
        · refine (term_new h h2 hb hq).mono ?_
          rintro e w' ⟨fv', rfl, s, y⟩
          exact .inl ⟨_, _, [t], r, fv', hp, rfl, nil _ _ _, s, y⟩
    · by_cases h1 : t.k = 1
      · cases hm : isM [40] r with
        | true => exact term_fn n (fun l' hl' w bd fr kb fv h => term_any n l' hl' w bd fr kb fv h) hrn h h1 hm
        | false =>
          refine (term_const h h1 hm).mono ?_
          rintro e w' ⟨rfl, s, y⟩
          exact .inl ⟨_, _, [], r, fv, PT.const h1 hm, rfl, nil _ _ _, by rwa [List.append_nil], y⟩
      · refine (term_wrong h (by simpa [isK] using h1) (by simpa [isK] using h2)).mono ?_
        rintro e w' ⟨rfl, s, y⟩
        exact .inr ⟨t :: r, fv, PT.wrong h1 h2, rfl, s.bx, y⟩
end
