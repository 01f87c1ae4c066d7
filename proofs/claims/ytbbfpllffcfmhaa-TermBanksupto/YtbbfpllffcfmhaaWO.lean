/-
  Make at any term; what the law's loops keep.
-/
import Derived.Test.YtbbfpllffcfmhaaWN
namespace Go.Proofs.Ytbbfpllffcfmhaa
open Go.RowKit Go.Maps

theorem missing_le (es : List Ent) (h : ∀ e ∈ es, Fit64 e.id) (t : T) : (missing es h t : Int) ≤ t.size := by
  have h1 := ((missM 0 0 0 0 0 0 es [] h).facts t ([] : List Nd)).2.2
  have h2 : (((missM 0 0 0 0 0 0 es [] h).cnt ([] : List Nd) : Nat) : Int) = 0 := rfl
  rw [h2, Int.zero_add] at h1
  exact h1

/-- What making a term does. -/
structure Mkd (es es' : List Ent) (i : Int) (t : T) : Prop where
  good : Good es'
  bs : Bs es' []
  ng : Ng es'
  sub : Sub es es'
  rp : Rp es' i t
  kept : ∀ e' ∈ es', (∃ e ∈ es, e.id = e'.id ∧ e'.kept = e.kept + (if e'.id = i then 1 else 0)) ∨ (e'.id ∉ es.map (·.id) ∧ e'.kept = (if e'.id = i then 1 else 0))
  len : (es'.length : Int) ≤ es.length + t.size

theorem mkd_of (n0 Ba : Nat) (limit : Int) (s : {es : List Ent // Good es}) (hb : Bk s.1 []) (hg : Ng s.1) (t : T) (hs : t.shape = true) (hl : (s.1.length : Int) + t.size ≤ 1000000) (hk : ∀ e ∈ s.1, e.kept ≤ 1000) : Mkd s.1 (((enterM n0 Ba limit).num t s).1.1.map (keepE ((enterM n0 Ba limit).num t s).2)) ((enterM n0 Ba limit).num t s).2 t := by
  obtain ⟨g1, g2⟩ := num_ok n0 Ba limit t s hb hs hl
  have hcnt := ((enterM n0 Ba limit).facts t s).2.2
  have hcnt : ((((enterM n0 Ba limit).num t s).1.1.length : Nat) : Int) ≤ (s.1.length : Nat) + t.size := hcnt
  obtain ⟨s', hs'⟩ : ∃ x : {es : List Ent // Good es}, ((enterM n0 Ba limit).num t s).1 = x := ⟨_, rfl⟩
  obtain ⟨i, hi⟩ : ∃ x : Int, ((enterM n0 Ba limit).num t s).2 = x := ⟨_, rfl⟩
  rw [hs', hi] at g1 g2 ⊢
  rw [hs'] at hcnt
  have hk2 : ∀ e ∈ s'.1, e.kept ≤ 1000000 := fun e he => by
    rcases g1.old e he with ⟨e0, h0, _, q⟩ | ⟨q, _⟩
    · have := hk e0 h0; omega
    · omega
  obtain ⟨k1, k2, k3, k4, k5⟩ := keep_grw g1 g2.mem hk2
  refine ⟨s'.2.kept i, ⟨k1, fun e he => ?_⟩, fun e he h => ?_, k2, g2.mono k3, k5, by rw [List.length_map]; exact hcnt⟩
  · rw [k1.use e he]
    have h1 := occ_le (es := s'.1.map (keepE i)) (fun e he => (k1.fine e he).len) e.id
    rw [List.length_map] at h1
    simp only [List.count_nil]
    omega
  · obtain ⟨e0, h0, _, q1, q2⟩ := k4 e he h.1 h.2
    exact hg e0 h0 ⟨q1, q2⟩

set_option maxRecDepth 100000 in
set_option maxHeartbeats 1000000 in
/-- Make at a term that is not right. -/
theorem make_bad (w0 : World) (n0 Ba : Nat) (B : List Nat) (limit : Int) (es : List Ent) (free : List Int) (t : T) (sl : Value) (W : World) (hb : BankSt n0 Ba B limit es free W) (ha : ArgsAt w0 sl t.args) (hw : Below w0.heap.size w0 W) (hshort : Short t) (hright : t.rightW ≠ 0) :
    Calls Try.prog 25 #[.pointer (some ⟨Ba, 0, none⟩), tval t sl] W fun e W' => e = .returned (.tuple #[.int .i64 0, .int .i64 t.rightW]) ∧ BankSt n0 Ba B limit es free W' ∧ Below W.heap.size W W' := by
  obtain ⟨a, c, rfl, hc, hm⟩ := ha.slice
  have hb0 := below_box W (tbox t (.slice a t.args.length c))
  have hw1 : Below w0.heap.size w0 (W.alloc (tbox t (.slice a t.args.length c))) := hw.trans (hb0.mono hw.size)
  have hR := tright_any t (.slice a t.args.length c) _ (ArgsAt.keep hw1 (Nat.le_refl _) ha) hshort
  obtain ⟨t0, t1, t2⟩ := tbox_cells W t (.slice a t.args.length c)
  obtain ⟨r, hr⟩ : ∃ r, t.rightW = r := ⟨_, rfl⟩
  rw [hr] at hR hright ⊢
  have HK : Hid (∀ Z, Below W.heap.size W Z → BankSt n0 Ba B limit es free Z) := fun Z hZ => hb.keep (fun q hq => hZ.block q (hb.there q hq).2)
  have HB : Hid (Below W.heap.size W (W.alloc (tbox t (.slice a t.args.length c)))) := hb0
  clear hb ha hw hw1 hb0 hr hshort
  go_enter Try.func25, Try.ntmps25
  go_wp2_with (go_at_call 8; refine hR.mono ?_; rintro e W2 ⟨rfl, b2⟩)
  go_ret2
  have hb2 := HB.out.trans (b2.mono HB.out.size)
  exact ⟨rfl, HK.out _ hb2, hb2⟩

/-- Make at a term that is right. -/
theorem make_good (w0 : World) (n0 Ba : Nat) (B : List Nat) (es : List Ent) (hgd : Good es) (hbs : Bs es []) (hg : Ng es) (hk : ∀ e ∈ es, e.kept ≤ 1000) (t : T) (sl : Value) (W : World) (hn0 : w0.heap.size ≤ n0) (hb : BankSt n0 Ba B 1000000 es [] W) (ha : ArgsAt w0 sl t.args) (hw : Below w0.heap.size w0 W) (hshort : Short t) (hright : t.rightW = 0) (hsh : t.shape = true) (hsz : t.size ≤ 300) (hl : es.length ≤ 900000) :
    Calls Try.prog 25 #[.pointer (some ⟨Ba, 0, none⟩), tval t sl] W fun e W' => ∃ i es', e = .returned (.tuple #[.int .i64 i, .int .i64 0]) ∧ Mkd es es' i t ∧ Near n0 Ba B 1000000 es' W W' := by
  have hms := missing_le es (Good.fits hgd) t
  refine (make_room w0 n0 Ba B 1000000 ⟨es, hgd⟩ t sl W hn0 hb (by show es.length ≤ _; omega) (by omega) (by omega) ha hw hshort hright hsh (by omega) (by show (missing es _ t : Int) ≤ 1000000 - (es.length : Nat); omega)).mono ?_
  rintro e W' ⟨he, hN⟩
  exact ⟨_, _, he, mkd_of n0 Ba 1000000 ⟨es, hgd⟩ hbs.1 hg t hsh (by show (es.length : Int) + _ ≤ _; omega) hk, hN⟩

/-- The first loop: numbers and terms that were made. -/
structure L1 (es : List Ent) (ids : List Int) (ts : List T) : Prop where
  good : Good es
  bs : Bs es []
  ng : Ng es
  len : ids.length = ts.length
  rp : ∀ k (h1 : k < ids.length) (h2 : k < ts.length), Rp es ids[k] ts[k]
  kept : ∀ e ∈ es, e.kept = (ids.count e.id : Nat)

theorem L1.nil : L1 [] [] [] := ⟨Good.nil, ⟨⟨by simp, fun e h => (by cases h), fun e h => (by cases h), fun e h => (by cases h), fun e h => (by cases h), fun e h => (by cases h), fun e h => (by cases h), fun e h => (by cases h)⟩, fun e h => (by cases h)⟩, fun e h => (by cases h), rfl, fun k h => absurd h (by simp), fun e h => (by cases h)⟩

theorem L1.mem {es : List Ent} {ids : List Int} {ts : List T} (h : L1 es ids ts) {i : Int} (hi : i ∈ ids) : i ∈ es.map (·.id) := by
  obtain ⟨k, hk, rfl⟩ := List.getElem_of_mem hi
  exact (h.rp k hk (by rw [← h.len]; exact hk)).mem

theorem L1.next {es es' : List Ent} {ids : List Int} {ts : List T} (h : L1 es ids ts) {i : Int} {t : T} (k : Mkd es es' i t) : L1 es' (ids ++ [i]) (ts ++ [t]) ∧ ∀ j (h1 : j < ids.length) (h2 : j < ts.length), (ids[j] = i ↔ ts[j] = t) := by
  refine ⟨⟨k.good, k.bs, k.ng, by simp [h.len], fun j h1 h2 => ?_, fun e he => ?_⟩, fun j h1 h2 => ?_⟩
  · by_cases hj : j < ids.length
    · rw [List.getElem_append_left hj, List.getElem_append_left (by rw [← h.len]; exact hj)]
      exact (h.rp j hj (by rw [← h.len]; exact hj)).mono k.sub
    · have e : j = ids.length := by rw [List.length_append, List.length_singleton] at h1; omega
      have e1 : (ids ++ [i])[j] = i := by subst e; simp
      have e2 : (ts ++ [t])[j] = t := by
        have : j = ts.length := by rw [e, h.len]
        subst this
        simp
      rw [e1, e2]
      exact k.rp
  · rw [List.count_append, List.count_singleton]
    rcases k.kept e he with ⟨e0, h0, q1, q2⟩ | ⟨q1, q2⟩
    · have := h.kept e0 h0
      rw [q1] at this
      rw [q2, this]
      by_cases e1 : e.id = i
      · simp [e1]
      · simp [e1, Ne.symm e1]
    · have h0 : ids.count e.id = 0 := List.count_eq_zero.2 fun hm => q1 (h.mem hm)
      rw [q2, h0]
      by_cases e1 : e.id = i
      · simp [e1]
      · simp [e1, Ne.symm e1]
  · have r1 := (h.rp j h1 h2).mono k.sub
    constructor
    · intro e
      rw [e] at r1
      exact r1.det k.bs.1 k.rp
    · intro e
      rw [e] at r1
      exact r1.inj k.bs.1 k.rp

/-- The second loop: those that are still kept. -/
structure L2 (es : List Ent) (ids : List Int) (ts : List T) (i : Nat) : Prop where
  bs : Bs es []
  ng : Ng es
  len : ids.length = ts.length
  rp : ∀ k (h1 : k < ids.length) (h2 : k < ts.length), i ≤ k → Rp es ids[k] ts[k]
  kept : ∀ e ∈ es, e.kept = ((ids.drop i).count e.id : Nat)

theorem L1.l2 {es : List Ent} {ids : List Int} {ts : List T} (h : L1 es ids ts) : L2 es ids ts 0 := ⟨h.bs, h.ng, h.len, fun k h1 h2 _ => h.rp k h1 h2, by simpa using h.kept⟩

theorem Rp.back {es es' : List Ent} {P : List Int} (hb : Bk es' P) (hn : (es.map (·.id)).Nodup) (hs : ∀ e' ∈ es', ∃ e ∈ es, e.id = e'.id ∧ e.nd = e'.nd) {i : Int} {t : T} (h : Rp es i t) : i ∈ es'.map (·.id) → Rp es' i t := by
  induction h with
  | mk e he t hv hf hl ha ih =>
    intro hi
    obtain ⟨e', he', hie⟩ := List.mem_map.1 hi
    obtain ⟨e0, h0, q1, q2⟩ := hs e' he'
    obtain rfl := id_inj hn h0 he (q1.trans hie)
    rw [← hie]
    refine .mk e' he' t (by rw [← q2]; exact hv) (by rw [← q2]; exact hf) (by rw [← q2]; exact hl) (fun k h1 h2 => ?_)
    have hm := (hb.arg e' he' _ (List.getElem_mem h1)).1
    have := ih k (by rw [q2]; exact h1) h2
    simp only [q2] at this
    exact this hm

theorem L2.next {es es' : List Ent} {ids : List Int} {ts : List T} {i : Nat} (h : L2 es ids ts i) (hi : i < ids.length) (k : Drp ids[i] es es') : L2 es' ids ts (i + 1) := by
  have hkp : ∀ e ∈ es, e.kept - (if e.id = ids[i] then 1 else 0) = ((ids.drop (i + 1)).count e.id : Nat) := fun e he => by
    rw [h.kept e he, List.drop_eq_getElem_cons hi, List.count_cons]
    by_cases e1 : e.id = ids[i]
    · rw [if_pos e1]
      simp [e1]
    · rw [if_neg e1]
      simp [Ne.symm e1]
  refine ⟨k.bs, k.ng, h.len, fun j h1 h2 hj => ?_, fun e he => ?_⟩
  · have r := h.rp j h1 h2 (by omega)
    refine r.back k.bs.1 h.bs.1.nod (fun e' he' => by obtain ⟨e, q1, q2, q3, _⟩ := k.sub e' he'; exact ⟨e, q1, q2, q3⟩) ?_
    obtain ⟨e, he, hie⟩ := List.mem_map.1 r.mem
    have := k.stay e he (by
      rw [hkp e he, hie]
      have : ids[j] ∈ ids.drop (i + 1) := List.mem_drop_iff_getElem.2 ⟨j - (i + 1), by omega, by congr 1; omega⟩
      have := List.count_pos_iff.2 this
      omega)
    rwa [hie] at this
  · obtain ⟨e0, h0, q1, _, q3⟩ := k.sub e he
    rw [q3, hkp e0 h0, q1]

/-- At the end nothing is left. -/
theorem L2.done {es : List Ent} {ids : List Int} {ts : List T} {i : Nat} (h : L2 es ids ts i) (hi : ids.length ≤ i) : es = [] := by
  have hk : ∀ e ∈ es, e.kept = 0 := fun e he => by rw [h.kept e he, List.drop_eq_nil_of_le hi]; rfl
  have step : ∀ (n : Nat) (e : Ent), e ∈ es → ∃ e' ∈ es, e.id + n ≤ e'.id := by
    intro n
    induction n with
    | zero => intro e he; exact ⟨e, he, by simp⟩
    | succ n ih =>
      intro e he
      obtain ⟨e1, h1, q1⟩ := ih e he
      have hu : e1.uses ≠ 0 := fun e0 => h.ng e1 h1 ⟨hk e1 h1, e0⟩
      rw [h.bs.1.use e1 h1] at hu
      simp only [List.count_nil] at hu
      have : ∃ e2 ∈ es, e1.id ∈ e2.nd.args := by
        apply Classical.byContradiction
        intro hc
        have hz : ∀ l : List Ent, (∀ x ∈ l, e1.id ∉ x.nd.args) → occ l e1.id = 0 := by
          intro l
          induction l with
          | nil => intro _; rfl
          | cons x r ihl =>
            intro hx
            rw [occ_cons, List.count_eq_zero.2 (hx x List.mem_cons_self), ihl fun y hy => hx y (List.mem_cons_of_mem _ hy)]
        have := hz es fun x hx hm => hc ⟨x, hx, hm⟩
        omega
      obtain ⟨e2, h2, q2⟩ := this
      have := (h.bs.1.arg e2 h2 _ q2).2
      exact ⟨e2, h2, by push_cast; omega⟩
  cases es with
  | nil => rfl
  | cons e r =>
    exfalso
    have hf := h.bs.1.fit e List.mem_cons_self
    obtain ⟨e', he', q⟩ := step 18446744073709551616 e List.mem_cons_self
    have hf' := h.bs.1.fit e' he'
    unfold Fit64 at hf hf'
    omega

end Go.Proofs.Ytbbfpllffcfmhaa
