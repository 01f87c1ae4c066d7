import Derived.Test.YtbbfpllffcfmhaaQT
import Derived.Test.YtbbfpllffcfmhaaXK
import Derived.Test.YtbbfpllffcfmhaaWO

/-
  Both banks in one memory; what both hold.
-/
namespace Go.Proofs.Ytbbfpllffcfmhaa.Fq
open Go.RowKit Go.Maps

/-- Both banks in one memory, beside further blocks. -/
structure Two (w0 : World) (n0 Ba Bd : Nat) (limit : Int) (es : List Ent) (ns : List Dn) (lv : Value) (B X : List Nat) (W : World) : Prop where
  bank : ∃ free, BankSt n0 Ba B limit es free W ∧ Fr es free
  db : DB w0 n0 Bd limit ns lv W
  apB : Bd ∉ B
  apL : ∀ g, lv.ownBlock = some g → g ∉ B
  oth : ∀ b ∈ X, b ∉ B ∧ b ≠ Bd ∧ lv.ownBlock ≠ some b ∧ b < W.heap.size
  bel : Below w0.heap.size w0 W

section
variable {w0 : World} {n0 Ba Bd : Nat} {limit : Int} {es es' : List Ent} {ns ns' : List Dn} {lv lv' : Value} {B X : List Nat} {W W' : World}

theorem Two.there (h : Two w0 n0 Ba Bd limit es ns lv B X W) : ∀ r ∈ B, n0 ≤ r ∧ r < W.heap.size := by
  obtain ⟨free, h1, _⟩ := h.bank
  exact h1.there

theorem Two.prog (h : Two w0 n0 Ba Bd limit es ns lv B X W) (hN : NearF n0 Ba B limit es' W W') : ∃ B', Two w0 n0 Ba Bd limit es' ns lv B' X W' ∧ ∀ b ∈ X, W'.heap[b]? = W.heap[b]? := by
  obtain ⟨B', hb, hB, hO⟩ := hN
  have hk : ∀ b, b < W.heap.size → b ∉ B → W'.heap[b]? = W.heap[b]? := fun b h1 h2 => hO.block b h1 h2
  have hl := h.db.lt
  refine ⟨B', ⟨hb, h.db.keep (hk Bd hl.1 h.apB) (fun g hg => hk g (hl.2 g hg).2 (h.apL g hg)), fun hm => ?_, fun g hg hm => ?_, fun b hb => ?_, ?_⟩, fun b hb => hk b (h.oth b hb).2.2.2 (h.oth b hb).1⟩
  · rcases hB Bd hm with e | e
    · exact h.apB e
    · have := hl.1; omega
  · rcases hB g hm with e | e
    · exact h.apL g hg e
    · have := hl.2 g hg; omega
  · obtain ⟨q1, q2, q3, q4⟩ := h.oth b hb
    refine ⟨fun hm => ?_, q2, q3, Nat.lt_of_lt_of_le q4 hO.size⟩
    rcases hB b hm with e | e
    · exact q1 e
    · omega
  · exact h.bel.trans (hO.below h.bel.size (fun r hr => Nat.le_trans h.db.hn0 (h.there r hr).1))

theorem Two.doc (h : Two w0 n0 Ba Bd limit es ns lv B X W) (hD : DB w0 n0 Bd limit ns' lv' W') (hv : ∀ g, lv'.ownBlock = some g → lv.ownBlock = some g ∨ W.heap.size ≤ g) (hO : Only (Bd :: ob lv) W W') : Two w0 n0 Ba Bd limit es ns' lv' B X W' ∧ ∀ b ∈ X, W'.heap[b]? = W.heap[b]? := by
  have hk : ∀ b, b < W.heap.size → b ≠ Bd → lv.ownBlock ≠ some b → W'.heap[b]? = W.heap[b]? := fun b h1 h2 h3 => hO.block b h1 (fun hm => by
    rcases List.mem_cons.1 hm with e | e
    · exact h2 e
    · exact h3 (mem_ob.1 e))
  obtain ⟨free, hb, hf⟩ := h.bank
  refine ⟨⟨⟨free, hb.keep (fun r hr => hk r (h.there r hr).2 (fun e => h.apB (e ▸ hr)) (fun e => h.apL r e hr)), hf⟩, hD, h.apB, fun g hg hm => ?_, fun b hb => ?_, ?_⟩, fun b hb => hk b (h.oth b hb).2.2.2 (h.oth b hb).2.1 (h.oth b hb).2.2.1⟩
  · rcases hv g hg with e | e
    · exact h.apL g e hm
    · have := (h.there g hm).2; omega
  · obtain ⟨q1, q2, q3, q4⟩ := h.oth b hb
    refine ⟨q1, q2, fun e => ?_, Nat.lt_of_lt_of_le q4 hO.size⟩
    rcases hv b e with e | e
    · exact q3 e
    · omega
  · refine h.bel.trans (hO.below h.bel.size (fun r hr => ?_))
    have h1 := h.db.hn0
    rcases List.mem_cons.1 hr with e | e
    · have := h.db.low; omega
    · have := (h.db.lt.2 r (mem_ob.1 e)).1; omega

theorem Two.below (h : Two w0 n0 Ba Bd limit es ns lv B X W) (hb : Below W.heap.size W W') : Two w0 n0 Ba Bd limit es ns lv B X W' ∧ ∀ b ∈ X, W'.heap[b]? = W.heap[b]? :=
  h.doc (h.db.below hb) (fun _ hg => .inl hg) (Only.of_below hb)

theorem Two.box (h : Two w0 n0 Ba Bd limit es ns lv B X W) (o : Obj) : Two w0 n0 Ba Bd limit es ns lv B (W.heap.size :: X) (W.alloc o) := by
  obtain ⟨q, _⟩ := h.below (below_box W o)
  refine ⟨q.bank, q.db, q.apB, q.apL, fun b hb => ?_, q.bel⟩
  rcases List.mem_cons.1 hb with rfl | hb
  · have hl := h.db.lt
    exact ⟨fun hm => by have := (h.there _ hm).2; omega, fun e => by omega, fun e => by have := hl.2 _ e; omega, by simp⟩
  · exact q.oth b hb

theorem Two.less {Y : List Nat} (h : Two w0 n0 Ba Bd limit es ns lv B X W) (hY : ∀ b ∈ Y, b ∈ X) : Two w0 n0 Ba Bd limit es ns lv B Y W := ⟨h.bank, h.db, h.apB, h.apL, fun b hb => h.oth b (hY b hb), h.bel⟩

end

/-- What both hold behind j calls. -/
structure Both (limit : Int) (j : Nat) (es : List Ent) (ns : List Dn) : Prop where
  bs : Bs es []
  ng : Ng es
  rpa : Rpa es
  ag : Ag es ns
  sz : ∀ n ∈ ns, n.t.size ≤ 300
  kp : ∀ n ∈ ns, 0 ≤ n.kept ∧ n.kept ≤ j
  len : ns.length ≤ j * 300
  cap : (ns.length : Int) ≤ limit

theorem Both.nil (limit : Int) (hl : 0 ≤ limit) : Both limit 0 [] [] :=
  ⟨⟨⟨by simp, fun e h => (by cases h), fun e h => (by cases h), fun e h => (by cases h), fun e h => (by cases h), fun e h => (by cases h), fun e h => (by cases h), fun e h => (by cases h)⟩, fun e h => (by cases h)⟩, fun e h => (by cases h), fun e h => (by cases h), Ag.nil, fun n h => (by cases h), fun n h => (by cases h), by simp, by simpa using hl⟩

theorem Both.more {limit : Int} {j : Nat} {es : List Ent} {ns : List Dn} (h : Both limit j es ns) : Both limit (j + 1) es ns :=
  ⟨h.bs, h.ng, h.rpa, h.ag, h.sz, fun n hn => by have := h.kp n hn; omega, Nat.le_trans h.len (Nat.mul_le_mul_right _ (Nat.le_succ j)), h.cap⟩

theorem Both.ekp {limit : Int} {j : Nat} {es : List Ent} {ns : List Dn} (h : Both limit j es ns) : ∀ e ∈ es, 0 ≤ e.kept ∧ e.kept ≤ j := fun e he => by
  obtain ⟨n, hn, hi⟩ := h.ag.back e he
  rw [h.ag.kp n hn e he hi.symm]
  exact h.kp n hn

theorem Both.good {limit : Int} {j : Nat} {es : List Ent} {ns : List Dn} (h : Both limit j es ns) : GoodF es := ⟨h.bs.1.nod, fun i hi => by
  obtain ⟨e, he, rfl⟩ := List.mem_map.1 hi
  exact h.bs.1.fit e he⟩

end Go.Proofs.Ytbbfpllffcfmhaa.Fq

/-
  Both banks: each call of the law, on either side.
-/
namespace Go.Proofs.Ytbbfpllffcfmhaa.Fq
open Go.RowKit Go.Maps

theorem right_shape {t : T} (h : t.rightW = 0) : t.shape = true := by
  cases hs : t.shape with
  | true => rfl
  | false => unfold T.rightW at h; rw [if_pos hs] at h; cases h

theorem post_size (t : T) : ∀ {u : T}, u ∈ t.post → u.size ≤ t.size := by
  induction t using T.ind with
  | _ t ih =>
    intro u hu
    rw [T.post_eq] at hu
    rcases List.mem_append.1 hu with hu | hu
    · obtain ⟨a, ha, hu⟩ := List.mem_flatMap.1 hu
      have := ih a ha hu
      have := arg_size ha
      omega
    · obtain rfl := List.mem_singleton.1 hu
      exact Int.le_refl _

/-- What the program's Make did. -/
def MkE (n0 Ba : Nat) (limit : Int) (t : T) (es es' : List Ent) (x er : Int) : Prop :=
  (∀ e ∈ es, 1 ≤ e.id) ∧ ((t.rightW ≠ 0 ∧ x = 0 ∧ er = t.rightW ∧ es' = es) ∨
  (t.rightW = 0 ∧ ∃ h : GoodF es, (missing es h.fits' t : Int) ≤ limit - es.length ∧ x = ((enterG n0 Ba limit).num t ⟨es, h⟩).2 ∧ er = 0 ∧ es' = ((enterG n0 Ba limit).num t ⟨es, h⟩).1.1.map (keepE ((enterG n0 Ba limit).num t ⟨es, h⟩).2)) ∨
  (t.rightW = 0 ∧ ∃ h : GoodF es, limit - es.length < (missing es h.fits' t : Int) ∧ x = 0 ∧ er = 5 ∧ es' = es))

section
variable {w0 : World} {n0 Ba Bd : Nat} {limit : Int} {es es' : List Ent} {ns ns' : List Dn} {lv : Value} {B X : List Nat} {W : World} {j : Nat}

theorem law_make1 (hT : Two w0 n0 Ba Bd limit es ns lv B X W) (hB : Both limit j es ns) (hj : j ≤ 60) (hl1 : 1 ≤ limit) (hl2 : limit ≤ 1000000) (t : T) (sl : Value) (ha : ArgsAt w0 sl t.args) (hsz : t.size ≤ 300) (hshort : Short t) :
    Calls Try.prog 25 #[.pointer (some ⟨Ba, 0, none⟩), tval t sl] W fun e W' => ∃ x er, e = .returned (.tuple #[.int .i64 x, .int .i64 er]) ∧ ∃ es' B', Two w0 n0 Ba Bd limit es' ns lv B' X W' ∧ MkE n0 Ba limit t es es' x er ∧ ∀ b ∈ X, W'.heap[b]? = W.heap[b]? := by
  obtain ⟨free, hb, hf⟩ := hT.bank
  have hpos : ∀ e ∈ es, 1 ≤ e.id := fun e he => ((hf.all e.id).1 (.inr (List.mem_map_of_mem he))).1
  have hlen : es.length ≤ 18000 := by rw [hB.ag.len]; exact Nat.le_trans hB.len (Nat.mul_le_mul_right 300 hj)
  have hcap := hB.cap
  rw [← hB.ag.len] at hcap
  by_cases hr : t.rightW = 0
  · have hsh := right_shape hr
    by_cases hroom : (missing es hB.good.fits' t : Int) ≤ limit - es.length
    · refine (make_roomF w0 n0 Ba B limit ⟨es, hB.good⟩ t sl W hT.db.hn0 free hb hf (by show es.length ≤ _; omega) hl1 hl2 ha hT.bel hshort hr hsh (by omega) hroom).mono ?_
      rintro e W' ⟨he, hN⟩
      obtain ⟨B', h1, h2⟩ := hT.prog hN
      exact ⟨_, _, he, _, B', h1, ⟨hpos, .inr (.inl ⟨hr, hB.good, hroom, rfl, rfl, rfl⟩)⟩, h2⟩
    · refine (make_fullF w0 n0 Ba B limit ⟨es, hB.good⟩ t sl W hT.db.hn0 free hb hf (by show es.length ≤ _; omega) hcap hl1 hl2 ha hT.bel hshort hr hsh (by omega) (Int.not_le.1 hroom)).mono ?_
      rintro e W' ⟨he, hN⟩
      obtain ⟨B', h1, h2⟩ := hT.prog hN
      exact ⟨_, _, he, _, B', h1, ⟨hpos, .inr (.inr ⟨hr, hB.good, by omega, rfl, rfl, rfl⟩)⟩, h2⟩
  · refine (make_bad w0 n0 Ba B limit es free t sl W hb ha hT.bel hshort hr).mono ?_
    rintro e W' ⟨he, _, hbel⟩
    obtain ⟨h1, h2⟩ := hT.below hbel
    exact ⟨_, _, he, es, B, h1, ⟨hpos, .inl ⟨hr, rfl, rfl, rfl⟩⟩, h2⟩

theorem law_make2 (hT : Two w0 n0 Ba Bd limit es' ns lv B X W) (hB : Both limit j es ns) (hj : j ≤ 60) (t : T) (sl : Value) (ha : ArgsAt w0 sl t.args) (hsz : t.size ≤ 300) {x er : Int} (hM : MkE n0 Ba limit t es es' x er) :
    Calls Try.prog 26 #[.pointer (some ⟨Bd, 0, none⟩), tval t sl] W fun e W' => e = .returned (.tuple #[.int .i64 x, .int .i64 er]) ∧ ∃ ns' lv', Two w0 n0 Ba Bd limit es' ns' lv' B X W' ∧ Both limit (j + 1) es' ns' ∧ ∀ b ∈ X, W'.heap[b]? = W.heap[b]? := by
  obtain ⟨hpos, hM⟩ := hM
  have hnl : ns.length ≤ 18000 := Nat.le_trans hB.len (Nat.mul_le_mul_right 300 hj)
  have hel := hB.ag.len
  by_cases hr : t.rightW = 0
  · have hsh := right_shape hr
    have key : ∀ h : GoodF es, ∀ (ps : List (T × Value)) (ns' : List Dn), ps.map (·.1) = t.post → DMk ns ps ns' → Ag ((enterG n0 Ba limit).num t ⟨es, h⟩).1.1 ns' ∧ es.length + missing es h.fits' t = ns'.length := fun h ps ns' hm hD => by
      obtain ⟨ns2, d2, A2⟩ := num_ag n0 Ba limit t ⟨es, h⟩ ns hB.ag hB.bs.1 hsh (by show (es.length : Int) + _ ≤ _; omega) ps hm
      obtain rfl := d2.det hD
      refine ⟨A2, ?_⟩
      rw [missing_eq es h.fits' hB.ag hB.bs.1 hpos t hsh (by omega), ← hm, ← hD.terms, List.length_map]
    refine (dmake_any hT.db hT.bel t sl ha hr (by omega) (by omega) (fun n hn => by have := hB.kp n hn; omega)).mono ?_
    rintro e W' ⟨ps, ns', lv', hm, hD, hv, hO, hc⟩
    rcases hM with ⟨h, _⟩ | ⟨_, h, hroom, rfl, rfl, rfl⟩ | ⟨_, h, hroom, rfl, rfl, rfl⟩
    · exact absurd hr h
    · obtain ⟨hA, hlen⟩ := key h ps ns' hm hD
      rcases hc with ⟨hlim, k, hk, hkt, he, hDB⟩ | ⟨hlim, _⟩
      · obtain ⟨h1, h2⟩ := hT.doc hDB hv hO
        obtain ⟨g1, g2⟩ := num_ok n0 Ba limit t ⟨es, h⟩ hB.bs.1 hsh (by show (es.length : Int) + _ ≤ _; omega)
        have hRa := rpa_num n0 Ba limit t ⟨es, h⟩ hB.rpa
        obtain ⟨s1, hs1⟩ : ∃ y : {es : List Ent // GoodF es}, ((enterG n0 Ba limit).num t ⟨es, h⟩).1 = y := ⟨_, rfl⟩
        obtain ⟨i, hi⟩ : ∃ y : Int, ((enterG n0 Ba limit).num t ⟨es, h⟩).2 = y := ⟨_, rfl⟩
        rw [hs1, hi] at g1 g2
        rw [hs1] at hA hRa
        have hik : ns'[k].id = i := by
          have h3 := hA.rp ns'[k] (List.getElem_mem hk)
          rw [hkt] at h3
          exact rp_inj g1.bk h3 g2
        have hk2 : ∀ e ∈ s1.1, 0 ≤ e.kept ∧ e.kept ≤ j := fun e he => by
          rcases g1.old e he with ⟨e0, h0, _, q⟩ | ⟨q, _⟩
          · rw [← q]; exact hB.ekp e0 h0
          · omega
        obtain ⟨k1, k2, k3, k4, k5⟩ := keep_grw g1 g2.mem (fun e he => by have := hk2 e he; omega)
        refine ⟨by rw [he, hi, hik], ns'.set k (ns'[k].put (ns'[k].kept + 1)), lv', by rw [hs1, hi] at h1; rw [hs1, hi]; exact h1, ?_, h2⟩
        rw [hs1, hi]
        have hps : ps.length = t.size := by rw [← post_len t, ← hm, List.length_map]
        have hdl := (dmk_len hD).2
        have hod := hD.old_stay.2.2
        refine ⟨⟨k1, fun e he => ?_⟩, fun e he h => ?_, hRa.map (keepE_id i) (keepE_nd i), ?_, fun n hn => ?_, fun n hn => ?_, ?_, ?_⟩
        · rw [k1.use e he]
          have h3 := occ_le (es := s1.1.map (keepE i)) (fun e he => (k1.fine e he).len) e.id
          have h4 : s1.1.length = ns'.length := hA.len
          rw [List.length_map] at h3
          simp only [List.count_nil]
          omega
        · obtain ⟨e0, h0, _, q1, q2⟩ := k4 e he h.1 h.2
          exact hB.ng e0 h0 ⟨q1, q2⟩
        · rw [← hik]
          exact ag_keep hA hk (fun e he => by have := hk2 e he; omega)
        · obtain ⟨m, hmm, _, q2, _⟩ := set_mem hA.nod hk 1 hn
          rw [q2]
          rcases hod m hmm with h3 | ⟨_, p, hp, h4⟩
          · exact hB.sz m h3
          · rw [h4]
            have := post_size t (u := p.1) (by rw [← hm]; exact List.mem_map_of_mem hp)
            omega
        · obtain ⟨m, hmm, _, _, q3⟩ := set_mem hA.nod hk 1 hn
          rw [q3]
          have h5 : 0 ≤ m.kept ∧ m.kept ≤ j := by
            rcases hod m hmm with h3 | ⟨h3, _⟩
            · exact hB.kp m h3
            · omega
          split <;> omega
        · rw [List.length_set]
          have := hB.len
          omega
        · rw [List.length_set]
          exact hlim
      · omega
    · obtain ⟨hA, hlen⟩ := key h ps ns' hm hD
      rcases hc with ⟨hlim, _⟩ | ⟨_, he, hDB⟩
      · omega
      · obtain ⟨h1, h2⟩ := hT.doc hDB hv hO
        exact ⟨he, ns, lv', h1, hB.more, h2⟩
  · rcases hM with ⟨_, rfl, rfl, rfl⟩ | ⟨h, _⟩ | ⟨h, _⟩
    · refine (dmake_bad hT.db hT.bel t sl ha hr).mono ?_
      rintro e W' ⟨he, hbel⟩
      obtain ⟨h1, h2⟩ := hT.below hbel
      exact ⟨he, ns, lv, h1, hB.more, h2⟩
    · exact absurd h hr
    · exact absurd h hr

/-- What the program's Drop did. -/
def DrE (id : Int) (es es' : List Ent) (ns : List Dn) (er : Int) : Prop :=
  (er = 4 ∧ es' = es ∧ ∀ k (hk : k < ns.length), ns[k].id = id → ns[k].kept = 0) ∨ (er = 0 ∧ ∃ k, ∃ hk : k < ns.length, ns[k].id = id ∧ 0 < ns[k].kept ∧ Drp ns[k].id es es')

theorem law_drop1 (hT : Two w0 n0 Ba Bd limit es ns lv B X W) (hB : Both limit j es ns) (hj : j ≤ 60) (id : Int) (hid : Fit64 id) :
    Calls Try.prog 27 #[.pointer (some ⟨Ba, 0, none⟩), .int .i64 id] W fun e W' => ∃ er, e = .returned (.int .i64 er) ∧ ∃ es' B', Two w0 n0 Ba Bd limit es' ns lv B' X W' ∧ DrE id es es' ns er ∧ ∀ b ∈ X, W'.heap[b]? = W.heap[b]? := by
  obtain ⟨free, hb, hf⟩ := hT.bank
  by_cases hi : id ∈ es.map (·.id)
  · obtain ⟨e, he, rfl⟩ := List.mem_map.1 hi
    obtain ⟨n, hn, hni⟩ := hB.ag.back e he
    obtain ⟨k, hk, rfl⟩ := List.getElem_of_mem hn
    have hke := hB.ag.kp _ hn e he hni.symm
    by_cases h0 : e.kept = 0
    · refine (drop_unkept hb hB.bs.1 e he h0).mono ?_
      rintro x W' ⟨hx, rfl⟩
      refine ⟨_, hx, es, B, hT, .inl ⟨rfl, rfl, fun k' hk' hk2 => ?_⟩, fun b _ => rfl⟩
      rw [← hB.ag.kp _ (List.getElem_mem hk') e he hk2.symm]
      exact h0
    · have h1 := (hB.ekp e he).1
      refine (drop_any n0 Ba limit es free e.id B W hb hB.bs hB.ng (fun e he => by have := hB.ekp e he; omega) hi (fun x hx hxi => by rw [id_inj hB.bs.1.nod hx he hxi]; omega) hf).mono ?_
      rintro x W' ⟨hx, es', free', B', q1, q2, q3, q4, q5⟩
      obtain ⟨B2, r1, r2⟩ := hT.prog ⟨B', ⟨free', q1, q3⟩, q4, q5⟩
      exact ⟨_, hx, es', B2, r1, .inr ⟨rfl, k, hk, hni, by omega, by rw [hni]; exact q2⟩, r2⟩
  · refine (drop_gone hb id hid hi).mono ?_
    rintro x W' ⟨hx, rfl⟩
    exact ⟨_, hx, es, B, hT, .inl ⟨rfl, rfl, fun k hk hk2 => absurd ((hB.ag.ids id).2 ⟨_, List.getElem_mem hk, hk2⟩) hi⟩, fun b _ => rfl⟩

theorem law_drop2 (hT : Two w0 n0 Ba Bd limit es' ns lv B X W) (hB : Both limit j es ns) (hj : j ≤ 60) (id : Int) {er : Int} (hD : DrE id es es' ns er) :
    Calls Try.prog 28 #[.pointer (some ⟨Bd, 0, none⟩), .int .i64 id] W fun e W' => ∃ b, e = .returned (.bool b) ∧ ((b = true ∧ er = 0) ∨ (b = false ∧ er = 4)) ∧ ∃ ns' lv', Two w0 n0 Ba Bd limit es' ns' lv' B X W' ∧ Both limit (j + 1) es' ns' ∧ ∀ b ∈ X, W'.heap[b]? = W.heap[b]? := by
  have hnl : ns.length ≤ 18000 := Nat.le_trans hB.len (Nat.mul_le_mul_right 300 hj)
  rcases hD with ⟨rfl, rfl, hno⟩ | ⟨rfl, k, hk, rfl, hkp, hD⟩
  · refine (ddrop_no hT.db id (by omega) (fun k hk h1 _ => hno k hk h1)).mono ?_
    rintro e W' ⟨he, rfl⟩
    exact ⟨_, he, .inr ⟨rfl, rfl⟩, ns, lv, hT, hB.more, fun b _ => rfl⟩
  · obtain ⟨g, c, rfl⟩ := row_some hT.db.row (by omega)
    have hkb := hB.kp _ (List.getElem_mem hk)
    have hnod := hB.ag.nod
    refine (ddrop_yes hT.db hT.bel ns[k].id (by omega) (fun n hn => by have := hB.sz n hn; omega) k hk rfl (fun i hi hik e => by have := ids_idx hnod hi hk e; omega) hkp (by omega)).mono ?_
    rintro e W' ⟨he, lv', hDB, hv, hO⟩
    obtain ⟨h1, h2⟩ := hT.doc hDB (fun g hg => .inr (hv g hg)) hO
    refine ⟨_, he, .inl ⟨rfl, rfl⟩, _, lv', h1, ⟨hD.bs, hD.ng, hB.rpa.drop hB.bs hD, ag_drop hB.ag hB.bs hB.rpa hk hD (fun n hn => by have := hB.sz n hn; omega), fun n hn => ?_, fun n hn => ?_, ?_, ?_⟩, h2⟩
    · have hn' := (List.mem_filter.1 hn).1
      rw [show ns[k].kept - 1 = ns[k].kept + -1 from by omega] at hn'
      obtain ⟨m, hm, _, q2, _⟩ := set_mem hnod hk (-1) hn'
      rw [q2]
      exact hB.sz m hm
    · have hn' := (List.mem_filter.1 hn).1
      rw [show ns[k].kept - 1 = ns[k].kept + -1 from by omega] at hn'
      obtain ⟨m, hm, _, _, q3⟩ := set_mem hnod hk (-1) hn'
      have hmb := hB.kp m hm
      rw [q3]
      by_cases e1 : m.id = ns[k].id
      · obtain ⟨i, hi, rfl⟩ := List.getElem_of_mem hm
        obtain rfl := ids_idx hnod hi hk e1
        rw [if_pos rfl]
        omega
      · rw [if_neg e1]
        omega
    · refine Nat.le_trans (List.length_filter_le _ _) ?_
      rw [List.length_set]
      exact Nat.le_trans hB.len (Nat.mul_le_mul_right 300 (Nat.le_succ j))
    · have h3 := List.length_filter_le (needB (ns.set k (ns[k].put (ns[k].kept - 1)))) (ns.set k (ns[k].put (ns[k].kept - 1)))
      rw [List.length_set] at h3
      have := hB.cap
      omega

/-- What Get tells. -/
def GtE (id : Int) (ns : List Dn) (tv : Value) (er : Int) (W' : World) : Prop :=
  (∃ n ∈ ns, n.id = id ∧ er = 0 ∧ ∃ a c, tv = tval n.t (.slice a n.t.args.length c) ∧ ArgsAt W' (.slice a n.t.args.length c) n.t.args) ∨ ((∀ n ∈ ns, n.id ≠ id) ∧ er = 4 ∧ tv = .agg #[.int .i64 0, .string ⟨#[]⟩, .slice none 0 0])

theorem law_get1 (hT : Two w0 n0 Ba Bd limit es ns lv B X W) (hB : Both limit j es ns) (id : Int) (hid : Fit64 id) :
    Calls Try.prog 29 #[.pointer (some ⟨Ba, 0, none⟩), .int .i64 id] W fun e W' => ∃ tv er, e = .returned (.tuple #[tv, .int .i64 er]) ∧ Two w0 n0 Ba Bd limit es ns lv B X W' ∧ GtE id ns tv er W' ∧ ∀ b ∈ X, W'.heap[b]? = W.heap[b]? := by
  obtain ⟨free, hb, hf⟩ := hT.bank
  by_cases hi : id ∈ es.map (·.id)
  · obtain ⟨n, hn, rfl⟩ := (hB.ag.ids id).1 hi
    refine (get_any n0 Ba B limit es free hB.bs.1 n.t n.id (hB.ag.rp n hn) W hb).mono ?_
    rintro e W' ⟨a, c, he, ha, hbel⟩
    obtain ⟨h1, h2⟩ := hT.below hbel
    exact ⟨_, _, he, h1, .inl ⟨n, hn, rfl, rfl, a, c, rfl, ha⟩, h2⟩
  · refine (get_gone hb id hid hi).mono ?_
    rintro e W' ⟨he, hbel⟩
    obtain ⟨h1, h2⟩ := hT.below hbel
    exact ⟨_, _, he, h1, .inr ⟨fun n hn e => hi ((hB.ag.ids id).2 ⟨n, hn, e⟩), rfl, rfl⟩, h2⟩

theorem law_len (hT : Two w0 n0 Ba Bd limit es ns lv B X W) : Calls Try.prog 31 #[.pointer (some ⟨Ba, 0, none⟩)] W fun e W' => e = .returned (.int .i64 es.length) ∧ W' = W := by
  obtain ⟨free, ⟨bn, br, fv, l, hb⟩, hf⟩ := hT.bank
  exact blen_any hb

end

end Go.Proofs.Ytbbfpllffcfmhaa.Fq
