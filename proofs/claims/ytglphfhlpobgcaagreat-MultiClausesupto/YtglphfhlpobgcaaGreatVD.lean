import Derived.Test.YtglphfhlpobgcaaGreatWZ
import Derived.Deep.MidRow
namespace Go.Proofs.YtglphfhlpobgcaaGreat
open Go.RowKit Go.Maps
abbrev kOf (ρ : Sym -> Nat) (p : T × List Nat) : Value := ndV (p.1.rk ρ) p.1.v p.2
open Classical in
noncomputable def nmap (ρ : Sym -> Nat) (P : List (T × List Nat)) : Value -> Option Value := fun key => if h : ∃ i, ∃ hi : i < P.length, key = kOf ρ P[i] then some (fi (Classical.choose h)) else none
structure Lp (G : Sg) (Sy : List Sym) (V : List Int) (ρ : Sym -> Nat) (P : List (T × List Nat)) : Prop where
 ix : ∀ p ∈ P, Idx (P.map (·.1)) p.2 p.1.args
 nd : (P.map (·.1)).Nodup
 sh : ∀ p ∈ P, p.1.shape = true
 sy : ∀ p ∈ P, ∀ s ∈ p.1.sy, s ∈ Sy
 vs : ∀ p ∈ P, ∀ x ∈ p.1.vs, x ∈ V
section
variable {G : Sg} {Sy : List Sym} {V : List Int} {ρ : Sym -> Nat} {P : List (T × List Nat)}
theorem Idx.inj {L : List T} {xs : List Nat} {ts us : List T} (h : Idx L xs ts) (k : Idx L xs us) : ts = us := by
 unfold Idx at h k
 rw [h] at k
 exact (List.map_inj_right (fun _ _ e => Option.some.inj e)).1 k
theorem key_inj (R : Ranks G Sy ρ) {L : List T} {p q : T × List Nat} (hp : Idx L p.2 p.1.args) (hq : Idx L q.2 q.1.args) (sp : p.1.shape = true) (sq : q.1.shape = true) (yp : ∀ s ∈ p.1.sy, s ∈ Sy) (yq : ∀ s ∈ q.1.sy, s ∈ Sy) (h : kOf ρ p = kOf ρ q) : p.1 = q.1 := by
 have l1 := hp.len
 have l2 := hq.len
 have e : ndC (p.1.rk ρ) p.1.v p.2 = ndC (q.1.rk ρ) q.1.v q.2 := by
  have := Value.agg.inj h
  simpa using this
 have e2 := e
 simp only [ndC, List.cons_append, List.nil_append, List.cons.injEq, Value.int.injEq, true_and] at e2
 have er : p.1.rk ρ = q.1.rk ρ := by omega
 have ev : p.1.v = q.1.v := e2.2.1
 have main : p.1.fn = q.1.fn ∧ p.1.args.length = q.1.args.length := by
  rcases shape_cases sp with ⟨p0, _, _, pa⟩ | ⟨p0, _⟩ <;> rcases shape_cases sq with ⟨q0, _, _, qa⟩ | ⟨q0, _⟩
  ·exact ⟨(ba_empty.1 p0).trans (ba_empty.1 q0).symm, by rw [pa, qa]⟩
  ·have h1 : p.1.rk ρ = 0 := by rw [T.rk, if_pos p0]
   have h2 := R.pos _ (yq _ (sy_self q0))
   unfold T.rk at er
   rw [if_pos p0, if_neg q0] at er
   omega
  ·have h1 : q.1.rk ρ = 0 := by rw [T.rk, if_pos q0]
   have h2 := R.pos _ (yp _ (sy_self p0))
   unfold T.rk at er
   rw [if_neg p0, if_pos q0] at er
   omega
  ·exact same_of_rk R p0 q0 yp yq er
 have h16 : p.2.length <= 16 := by
  rcases shape_cases sp with ⟨_, _, _, pa⟩ | ⟨_, _, _, h, _⟩
  ·rw [l1, pa]; simp
  ·omega
 obtain ⟨_, _, e3⟩ := ndV_inj (by omega) h16 h
 exact same_ext ev main.1 (Idx.inj hp (e3 ▸ hq))
theorem nmap_in (R : Ranks G Sy ρ) (H : Lp G Sy V ρ P) {i : Nat} (hi : i < P.length) {p : T × List Nat} (hix : Idx (P.map (·.1)) p.2 p.1.args) (hsh : p.1.shape = true) (hsy : ∀ s ∈ p.1.sy, s ∈ Sy) (he : P[i].1 = p.1) : nmap ρ P (kOf ρ p) = some (fi i) := by
 have hpe : kOf ρ p = kOf ρ P[i] := by
  have h1 := H.ix _ (List.getElem_mem hi)
  have : P[i].2 = p.2 := by
   refine List.ext_getElem (by rw [h1.len, hix.len, he]) fun j a b => ?_
   have ha : j < P[i].1.args.length := by rw [<- h1.len]; exact a
   have hb : j < p.1.args.length := by rw [<- hix.len]; exact b
   obtain ⟨l1, g1⟩ := h1.get a ha
   obtain ⟨l2, g2⟩ := hix.get b hb
   refine nd_inj H.nd l1 l2 ?_
   rw [g1, g2]
   simp only [he]
  unfold kOf
  rw [he, this]
 have hx : ∃ j, ∃ hj : j < P.length, kOf ρ p = kOf ρ P[j] := ⟨i, hi, hpe⟩
 unfold nmap
 rw [dif_pos hx]
 obtain ⟨hj, e⟩ := Classical.choose_spec hx
 have e2 : P[Classical.choose hx].1 = P[i].1 := by
  have := key_inj R (H.ix _ (List.getElem_mem hj)) hix (H.sh _ (List.getElem_mem hj)) hsh (H.sy _ (List.getElem_mem hj)) hsy e.symm
  rw [this, he]
 have e3 : Classical.choose hx = i := nd_inj H.nd (by simpa using hj) (by simpa using hi) (by simpa using e2)
 rw [e3]
theorem nmap_out (R : Ranks G Sy ρ) (H : Lp G Sy V ρ P) {p : T × List Nat} (hix : Idx (P.map (·.1)) p.2 p.1.args) (hsh : p.1.shape = true) (hsy : ∀ s ∈ p.1.sy, s ∈ Sy) (hno : p.1 ∉ P.map (·.1)) : nmap ρ P (kOf ρ p) = none := by
 unfold nmap
 rw [dif_neg]
 rintro ⟨i, hi, e⟩
 have := key_inj R hix (H.ix _ (List.getElem_mem hi)) hsh (H.sh _ (List.getElem_mem hi)) hsy (H.sy _ (List.getElem_mem hi)) e
 exact hno (List.mem_map.2 ⟨P[i], List.getElem_mem hi, this.symm⟩)
theorem Idx.more {L M : List T} {xs : List Nat} {ts : List T} (h : Idx L xs ts) : Idx (L ++ M) xs ts := by
 have hl := h.len
 unfold Idx
 refine List.ext_getElem (by simp [hl]) fun j a b => ?_
 have ha : j < xs.length := by simpa using a
 have hb : j < ts.length := by simpa using b
 obtain ⟨l1, g1⟩ := h.get ha hb
 simp only [List.getElem_map]
 rw [List.getElem?_append_left l1, List.getElem?_eq_getElem l1, g1]
theorem Lp.snoc (H : Lp G Sy V ρ P) {p : T × List Nat} (hix : Idx (P.map (·.1)) p.2 p.1.args) (hsh : p.1.shape = true) (hsy : ∀ s ∈ p.1.sy, s ∈ Sy) (hvs : ∀ x ∈ p.1.vs, x ∈ V) (hno : p.1 ∉ P.map (·.1)) : Lp G Sy V ρ (P ++ [p]) := by
 have one : ∀ {q : T × List Nat}, q ∈ P ++ [p] -> q ∈ P ∨ q = p := fun {q} hq => by simpa using hq
 refine ⟨fun q hq => ?_, ?_, fun q hq => ?_, fun q hq => ?_, fun q hq => ?_⟩
 ·rw [List.map_append]
  rcases one hq with hq | rfl
  ·exact (H.ix q hq).more
  ·exact hix.more
 ·rw [List.map_append, List.nodup_append]
  refine ⟨H.nd, by simp, fun x hx y hy => ?_⟩
  have : y = p.1 := by simpa using hy
  subst this
  exact fun e => hno (e ▸ hx)
 ·rcases one hq with hq | rfl
  ·exact H.sh q hq
  ·exact hsh
 ·rcases one hq with hq | rfl
  ·exact H.sy q hq
  ·exact hsy
 ·rcases one hq with hq | rfl
  ·exact H.vs q hq
  ·exact hvs
theorem nmap_snoc (R : Ranks G Sy ρ) (H : Lp G Sy V ρ P) {p : T × List Nat} (hix : Idx (P.map (·.1)) p.2 p.1.args) (hsh : p.1.shape = true) (hsy : ∀ s ∈ p.1.sy, s ∈ Sy) (hvs : ∀ x ∈ p.1.vs, x ∈ V) (hno : p.1 ∉ P.map (·.1)) : upd (nmap ρ P) (kOf ρ p) (fi P.length) = nmap ρ (P ++ [p]) := by
 have H2 := H.snoc hix hsh hsy hvs hno
 funext key
 unfold upd
 by_cases e : key = kOf ρ p
 ·subst e
  rw [if_pos rfl]
  refine (nmap_in R H2 (i := P.length) (by simp) (p := p) ?_ hsh hsy (by simp)).symm
  rw [List.map_append]
  exact hix.more
 ·rw [if_neg e]
  by_cases hx : ∃ i, ∃ hi : i < P.length, key = kOf ρ P[i]
  ·obtain ⟨i, hi, rfl⟩ := hx
   rw [nmap_in R H hi (H.ix _ (List.getElem_mem hi)) (H.sh _ (List.getElem_mem hi)) (H.sy _ (List.getElem_mem hi)) rfl]
   refine (nmap_in R H2 (i := i) (by simp; omega) (p := P[i]) ?_ (H.sh _ (List.getElem_mem hi)) (H.sy _ (List.getElem_mem hi)) ?_).symm
   ·rw [List.map_append]
    exact (H.ix _ (List.getElem_mem hi)).more
   ·rw [List.getElem_append_left hi]
  ·unfold nmap
   rw [dif_neg hx, dif_neg]
   rintro ⟨i, hi, e2⟩
   have hi' : i < P.length + 1 := by simpa using hi
   by_cases hl : i < P.length
   ·rw [List.getElem_append_left hl] at e2
    exact hx ⟨i, hl, e2⟩
   ·have : i = P.length := by omega
    subst this
    rw [List.getElem_append_right (Nat.le_refl _)] at e2
    simp at e2
    exact e e2
end
structure Pe where
 k : Nat
 t : T
 ids : List Nat
 sA : Value
 sV : Value
 ws : List Nat
abbrev Pe.p (e : Pe) : T × List Nat := (e.t, e.ids)
def Pe.cells (ρ : Sym -> Nat) (e : Pe) : List Value := [fi e.k, .int .i64 (e.t.rk ρ : Int), e.sA, .int .i64 (e.t.top ρ : Int), e.sV]
def flatP (ρ : Sym -> Nat) (E : List Pe) : List Value := E.flatMap (Pe.cells ρ)
theorem flatP_snoc (ρ : Sym -> Nat) (E : List Pe) (e : Pe) : flatP ρ (E ++ [e]) = flatP ρ E ++ e.cells ρ := by simp [flatP]
theorem flatP_get (ρ : Sym -> Nat) : ∀ (E : List Pe) (i : Nat) (h : i < E.length) (j : Nat), j < 5 -> (flatP ρ E)[i * 5 + j]? = (E[i].cells ρ)[j]?
 | [], i, h, _, _ => absurd h (by simp)
 | e :: r, 0, _, j, hj => by
  simp only [flatP, List.flatMap_cons, List.getElem_cons_zero]
  rw [List.getElem?_append_left (by simp [Pe.cells]; omega)]
  simp
 | e :: r, i + 1, h, j, hj => by
  have := flatP_get ρ r i (by simpa using h) j hj
  simp only [flatP, List.flatMap_cons, List.getElem_cons_succ] at *
  rw [List.getElem?_append_right (by simp [Pe.cells]; omega), <- this]
  congr 1
  simp [Pe.cells]
  omega
structure Hs (G : Sg) (Sy : List Sym) (V : List Int) (ρ : Sym -> Nat) : Prop where
 rk : Ranks G Sy ρ
 le : ∀ s, ρ s <= Sy.length
 fe : ∀ s ∈ Sy, s.1.size ≠ 0
 ln : Sy.length + V.length <= 100000
structure Ls (n0 : Nat) (G : Sg) (Sy : List Sym) (V : List Int) (ρ : Sym -> Nat) (lb br bv bn : Nat) (E : List Pe) (vp : Value) (W : World) : Prop where
 head : W.heap[lb]? = some (.cells #[.map (some br), .map (some bv), .map (some bn), vp] 81 (0, 0))
 mr : MapIs W 113 br (smap Sy ρ) Sy.length
 mv : MapIs W 3 bv (vmap V) V.length
 mn : MapIs W 123 bn (nmap ρ (E.map Pe.p)) E.length
 row : W.ownsRow n0 129 5 vp E.length (flatP ρ E)
 ks : ∀ i (h : i < E.length), E[i].k = i
 ra : ∀ e ∈ E, RowB fi 83 W e.sA e.ids
 rv : ∀ e ∈ E, RowB fu 194 W e.sV e.ws
 bt : ∀ e ∈ E, Bits (fun x => (ixI V x).getD 0) ((V.length + 63) / 64) e.t.vs e.ws
 lp : Lp G Sy V ρ (E.map Pe.p)
 low : n0 <= lb ∧ n0 <= bn
 ne : br ≠ bn ∧ bv ≠ bn
theorem MapIs.isMap {W : World} {k : TypeId} {b n : Nat} {m : Value -> Option Value} (h : MapIs W k b m n) : ∃ es c, W.heap[b]? = some (.map es c) := by
 obtain ⟨D, ⟨es, clock, hb', r⟩, h2⟩ := h
 exact ⟨_, _, hb'⟩
section
variable {n0 : Nat} {G : Sg} {Sy : List Sym} {V : List Int} {ρ : Sym -> Nat} {lb br bv bn : Nat} {E : List Pe} {vp : Value} {W W' : World}
abbrev lbs (lb bn : Nat) (vp : Value) : List Nat := lb :: bn :: vp.ownBlock.toList
theorem rowL_keep {ty : TypeId} {k : Nat} {fv : Value} {n : Nat} {vs : List Value} (h : W.ownsRow n0 ty k fv n vs) (hB : ∀ g, fv.ownBlock = some g -> W'.heap[g]? = W.heap[g]?) : W'.ownsRow n0 ty k fv n vs := by
 obtain ⟨h1, h2⟩ := h
 refine ⟨h1, ?_⟩
 rcases h2 with h2 | ⟨g, cap, cur, e, hb, hg, r⟩
 ·exact .inl h2
 ·exact .inr ⟨g, cap, cur, e, hb, (hB g (by rw [e]; rfl)).trans hg, r⟩
theorem row_block {ty : TypeId} {k : Nat} {fv : Value} {n : Nat} {vs : List Value} (h : W.ownsRow n0 ty k fv n vs) {g : Nat} (hg : fv.ownBlock = some g) : n0 <= g ∧ ∃ cur, W.heap[g]? = some (.cells cur ty (0, 0)) := by
 obtain ⟨_, ⟨e, _⟩ | ⟨g', cap, cur, e, hb, hg', _⟩⟩ := h
 ·rw [e] at hg; cases hg
 ·rw [e] at hg
  have : g' = g := by simpa [Value.ownBlock] using hg
  subst this
  exact ⟨hb, cur, hg'⟩
theorem Ls.off (h : Ls n0 G Sy V ρ lb br bv bn E vp W) {r : Nat} {cur : Array Value} {ty : TypeId} (hr : W.heap[r]? = some (.cells cur ty (0, 0))) (h1 : ty ≠ 81) (h2 : ty ≠ 129) : r ∉ lbs lb bn vp := by
 simp only [lbs, List.mem_cons, Option.mem_toList, not_or]
 refine ⟨fun e => ?_, fun e => ?_, fun e => ?_⟩
 ·rw [e, h.head] at hr
  simp only [Option.some.injEq, Obj.cells.injEq] at hr
  exact h1 hr.2.1.symm
 ·obtain ⟨es, c, hm⟩ := h.mn.isMap
  rw [e, hm] at hr
  cases hr
 ·obtain ⟨_, cur', hg⟩ := row_block h.row e
  rw [hr] at hg
  simp only [Option.some.injEq, Obj.cells.injEq] at hg
  exact h2 hg.2.1
theorem Ls.offM (h : Ls n0 G Sy V ρ lb br bv bn E vp W) {r : Nat} {k : TypeId} {m : Value -> Option Value} {n : Nat} (hr : MapIs W k r m n) (h1 : r ≠ bn) : r ∉ lbs lb bn vp := by
 obtain ⟨es, c, hm⟩ := hr.isMap
 simp only [lbs, List.mem_cons, Option.mem_toList, not_or]
 refine ⟨fun e => ?_, h1, fun e => ?_⟩
 ·rw [e, h.head] at hm; cases hm
 ·obtain ⟨_, cur', hg⟩ := row_block h.row e
  rw [hm] at hg
  cases hg
theorem Ls.lows (h : Ls n0 G Sy V ρ lb br bv bn E vp W) : ∀ r ∈ lbs lb bn vp, n0 <= r := by
 intro r hr
 simp only [lbs, List.mem_cons, Option.mem_toList] at hr
 rcases hr with rfl | rfl | hr
 ·exact h.low.1
 ·exact h.low.2
 ·exact (row_block h.row hr).1
theorem Ls.there (h : Ls n0 G Sy V ρ lb br bv bn E vp W) : ∀ r ∈ lbs lb bn vp, r < W.heap.size := by
 intro r hr
 simp only [lbs, List.mem_cons, Option.mem_toList] at hr
 rcases hr with rfl | rfl | hr
 ·exact (Array.getElem?_eq_some_iff.1 h.head).1
 ·exact h.mn.lt
 ·obtain ⟨_, cur, hg⟩ := row_block h.row hr
  exact (Array.getElem?_eq_some_iff.1 hg).1
theorem Ls.apart (h : Ls n0 G Sy V ρ lb br bv bn E vp W) : lb ≠ bn ∧ (∀ g, vp.ownBlock = some g -> g ≠ lb ∧ g ≠ bn) := by
 obtain ⟨es, c, hm⟩ := h.mn.isMap
 refine ⟨fun e => ?_, fun g hg => ⟨fun e => ?_, fun e => ?_⟩⟩
 ·rw [<- e, h.head] at hm; cases hm
 ·obtain ⟨_, cur', hg'⟩ := row_block h.row hg
  rw [e, h.head] at hg'
  simp only [Option.some.injEq, Obj.cells.injEq] at hg'
  exact absurd hg'.2.1 (by decide)
 ·obtain ⟨_, cur', hg'⟩ := row_block h.row hg
  rw [e, hm] at hg'
  cases hg'
theorem Ls.keep (h : Ls n0 G Sy V ρ lb br bv bn E vp W) (h1 : W'.heap[lb]? = W.heap[lb]?) (h2 : W'.heap[br]? = W.heap[br]?) (h3 : W'.heap[bv]? = W.heap[bv]?) (h4 : W'.heap[bn]? = W.heap[bn]?) (h5 : ∀ g, vp.ownBlock = some g -> W'.heap[g]? = W.heap[g]?)
  (h6 : ∀ (b : Nat) (cur : Array Value), W.heap[b]? = some (Obj.cells cur 83 (0, 0)) -> W'.heap[b]? = W.heap[b]?) (h7 : ∀ (b : Nat) (cur : Array Value), W.heap[b]? = some (Obj.cells cur 194 (0, 0)) -> W'.heap[b]? = W.heap[b]?) : Ls n0 G Sy V ρ lb br bv bn E vp W' :=
 ⟨h1.trans h.head, h.mr.same h2, h.mv.same h3, h.mn.same h4, rowL_keep h.row h5, h.ks, fun e he => (h.ra e he).keep h6, fun e he => (h.rv e he).keep h7, h.bt, h.lp, h.low, h.ne⟩
theorem Ls.below (h : Ls n0 G Sy V ρ lb br bv bn E vp W) (hb : Below W.heap.size W W') : Ls n0 G Sy V ρ lb br bv bn E vp W' :=
 h.keep (hb.block _ (h.there _ (by simp))) (hb.block _ h.mr.lt) (hb.block _ h.mv.lt) (hb.block _ (h.there _ (by simp))) (fun g hg => hb.block _ (h.there _ (by simp [hg]))) (fun b cur hc => hb.block b (Array.getElem?_eq_some_iff.1 hc).1) (fun b cur hc => hb.block b (Array.getElem?_eq_some_iff.1 hc).1)
theorem Ls.setNode (h : Ls n0 G Sy V ρ lb br bv bn E vp W) {nb o : Nat} {cur : Array Value} (hn : W.heap[nb]? = some (.cells cur 123 (0, 0))) (v : Value) : Ls n0 G Sy V ρ lb br bv bn E vp (W.setCell ⟨nb, o, none⟩ v) := by
 have hoff := h.off hn (by decide) (by decide)
 have ho := only_setCell W nb o v
 have hk : ∀ r, r < W.heap.size -> r ≠ nb -> (W.setCell ⟨nb, o, none⟩ v).heap[r]? = W.heap[r]? := fun r hr hne => ho.block r hr (by simp; exact hne)
 have hne : ∀ r ∈ lbs lb bn vp, r ≠ nb := fun r hr e => hoff (e ▸ hr)
 have hmap : ∀ {k : TypeId} {r : Nat} {m : Value -> Option Value} {n : Nat}, MapIs W k r m n -> r ≠ nb := fun {k r m n} hm e => by
  obtain ⟨es, c, hc⟩ := hm.isMap
  rw [e, hn] at hc
  cases hc
 have hty : ∀ (ty : TypeId) (b : Nat) (cur' : Array Value), ty ≠ 123 -> W.heap[b]? = some (Obj.cells cur' ty (0, 0)) -> (W.setCell ⟨nb, o, none⟩ v).heap[b]? = W.heap[b]? := fun ty b cur' ht hc => hk b (Array.getElem?_eq_some_iff.1 hc).1 (fun e => by
  rw [e, hn] at hc
  simp only [Option.some.injEq, Obj.cells.injEq] at hc
  exact ht hc.2.1.symm)
 exact h.keep (hk _ (h.there _ (by simp)) (hne _ (by simp))) (hk _ h.mr.lt (hmap h.mr)) (hk _ h.mv.lt (hmap h.mv)) (hk _ (h.there _ (by simp)) (hne _ (by simp))) (fun g hg => hk _ (h.there _ (by simp [hg])) (hne _ (by simp [hg]))) (fun b cur hc => hty 83 b cur (by decide) hc) (fun b cur hc => hty 194 b cur (by decide) hc)
theorem Ls.cells (h : Ls n0 G Sy V ρ lb br bv bn E vp W) : (W.cell? ⟨lb, 0, none⟩ = some (.map (some br)) ∧ W.cell? ⟨lb, 1, none⟩ = some (.map (some bv)) ∧ W.cell? ⟨lb, 2, none⟩ = some (.map (some bn)) ∧ W.cell? ⟨lb, 3, none⟩ = some vp) ∧ W.frozen? ⟨lb, 3, none⟩ = false := by
 have hb := h.head
 refine ⟨⟨?_, ?_, ?_, ?_⟩, ?_⟩ <;> simp [World.cell?, World.frozen?, hb]
theorem Ls.look (h : Ls n0 G Sy V ρ lb br bv bn E vp W) (H : Hs G Sy V ρ) {t : T} (hsh : t.shape = true) (hsy : ∀ s ∈ t.sy, s ∈ Sy) : (Instr.lookup 73 (.map (some br)) (symv (t.fn, t.args.length)) false).run Tryz.prog W = .ok (.int .i64 (t.rk ρ : Int)) W := by
 rcases shape_cases hsh with ⟨h0, _, _, ha⟩ | ⟨h0, _, h64, h16, _⟩
 ·obtain ⟨kl, hk⟩ := sym_key (s := (t.fn, t.args.length)) (by show t.fn.size <= 64; omega) (by show t.args.length <= 1048576; rw [ha]; simp)
  have := ((h.mr.look keyed87 Tryz.underlying73 (zeroI W) hk).2 (smap_out (fun hm => H.fe _ hm h0))).2
  unfold T.rk
  rw [if_pos h0]
  exact this
 ·obtain ⟨kl, hk⟩ := sym_key (s := (t.fn, t.args.length)) h64 (by show t.args.length <= 1048576; omega)
  have := ((h.mr.look keyed87 Tryz.underlying73 (zeroI W) hk).1 _ (smap_in (hsy _ (sy_self h0)))).2
  unfold T.rk
  rw [if_neg h0]
  exact this
theorem Hs.rkle (H : Hs G Sy V ρ) (t : T) : t.rk ρ <= 100000 := by
 have := H.ln
 unfold T.rk
 split
 ·omega
 ·have := H.le (t.fn, t.args.length)
  omega
theorem Tryz.zero64 (w : World) : (zeroValue 83).run Tryz.prog w = .ok (fi 0) w := by kernel_rfl
theorem Ls.find (h : Ls n0 G Sy V ρ lb br bv bn E vp W) (H : Hs G Sy V ρ) (hl : E.length <= 8000) {t : T} {ids : List Nat} (hsh : t.shape = true) (hsy : ∀ s ∈ t.sy, s ∈ Sy) (hix : Idx (E.map (·.t)) ids t.args) :
  (∀ k (hk : k < E.length), E[k].t = t -> (Instr.lookup 78 (.map (some bn)) (ndV (t.rk ρ) t.v ids) true).run Tryz.prog W = .ok (.tuple #[fi k, .bool true]) W) ∧
  (t ∉ E.map (·.t) -> (Instr.lookup 78 (.map (some bn)) (ndV (t.rk ρ) t.v ids) true).run Tryz.prog W = .ok (.tuple #[fi 0, .bool false]) W ∧
   ∃ W', (Instr.mapUpdate 78 (.map (some bn)) (ndV (t.rk ρ) t.v ids) (fi E.length)).run Tryz.prog W = .ok () W' ∧ MapIs W' 123 bn (upd (nmap ρ (E.map Pe.p)) (ndV (t.rk ρ) t.v ids) (fi E.length)) (E.length + 1) ∧ Only [bn] W W') := by
 have hv : 0 <= t.v ∧ t.v < 1000000 := by
  rcases shape_cases hsh with ⟨_, h1, h2, _⟩ | ⟨_, h1, _⟩
  ·exact ⟨h1, h2⟩
  ·rw [h1]; decide
 have hmm : (E.map Pe.p).map (·.1) = E.map (·.t) := by simp
 obtain ⟨kl, hkey⟩ := nd_key (rk := t.rk ρ) (v := t.v) (ids := ids) (by have := H.rkle t; omega) (fit_v hv) (fun a ha => by
  obtain ⟨j, hj, rfl⟩ := List.getElem_of_mem ha
  have := (hix.get hj (by rw [<- hix.len]; exact hj)).1
  simp at this
  omega)
 have hL := h.mn.look keyed97 Tryz.underlying78 (Tryz.zero64 W) hkey
 refine ⟨fun k hk e => (hL.1 (fi k) ?_).1, fun hno => ?_⟩
 ·exact nmap_in H.rk h.lp (i := k) (by simpa using hk) (p := (t, ids)) (by rw [hmm]; exact hix) hsh hsy (by simpa using e)
 ·have hn := nmap_out H.rk h.lp (p := (t, ids)) (by rw [hmm]; exact hix) hsh hsy (by rw [hmm]; exact hno)
  refine ⟨(hL.2 hn).1, ?_⟩
  obtain ⟨W', r1, r2, r3⟩ := h.mn.put keyed97 Tryz.underlying78 (by unfold maxLen; omega) hkey (fi E.length)
  rw [show nmap ρ (E.map Pe.p) (ndV (t.rk ρ) t.v ids) = none from hn] at r2
  exact ⟨W', r1, r2, Only.of_grown r3 (fun r e => by cases e; simp)⟩
theorem Ls.cell (h : Ls n0 G Sy V ρ lb br bv bn E vp W) {i : Nat} (hi : i < E.length) : ∃ b, vp.ownBlock = some b ∧ b < W.heap.size ∧ (∃ c, vp = .slice (some ⟨b, 0, none⟩) E.length c ∧ E.length <= c ∧ c <= 9223372036854775807) ∧ ∀ j, j < 5 -> W.cell? ⟨b, 0 + i * 5 + j, none⟩ = (E[i].cells ρ)[j]? := by
 obtain ⟨hl, ⟨e, h0⟩ | ⟨g, cap, cur, e, hb, hg, hc, hm, hsz, ht⟩⟩ := h.row
 ·omega
 ·refine ⟨g, by rw [e]; rfl, (Array.getElem?_eq_some_iff.1 hg).1, ⟨cap, e, hc, hm⟩, fun j hj => ?_⟩
  have h1 := flatP_get ρ E i hi j hj
  rw [<- ht, List.getElem?_take, if_pos (by omega)] at h1
  rw [Nat.zero_add, cell_of_row _ _ _ _ 129 (0, 0) hg, <- h1]
  simp
theorem cell_on {B : List Nat} (ho : Only B W W') {b o : Nat} {v : Value} (hb : b ∉ B) (hc : W.cell? ⟨b, o, none⟩ = some v) : W'.cell? ⟨b, o, none⟩ = some v := cell_only ho (World.block_lt_of_cell? W _ hc) hb hc
theorem Ls.rd (h : Ls n0 G Sy V ρ lb br bv bn E vp W) (ho : Only [bn] W W') {ids : List Nat} {ts : List T} (hix : Idx (E.map (·.t)) ids ts) {pa : Option Addr} {pc : Nat} (hvp : vp = .slice pa E.length pc) : Rd ρ V lb br bv bn pa E.length pc ids ts W' := by
 obtain ⟨⟨l0, l1, l2, l3⟩, _⟩ := h.cells
 obtain ⟨q1, q2⟩ := h.apart
 have hlb : lb ∉ [bn] := by simpa using q1
 obtain ⟨es, cc, hmap⟩ := h.mn.isMap
 refine ⟨Nat.lt_of_lt_of_le (h.there _ (by simp)) ho.size, cell_on ho hlb l0, cell_on ho hlb l1, by rw [cell_on ho hlb l3, hvp], h.mv.same (ho.block _ h.mv.lt (by simpa using h.ne.2)), fun i hi hi' => ?_⟩
 obtain ⟨hl, he⟩ := hix.get hi hi'
 have hl' : ids[i] < E.length := by simpa using hl
 obtain ⟨b, hob, hlt, ⟨c, hc, _, _⟩, hcell⟩ := h.cell hl'
 have he' : E[ids[i]].t = ts[i] := by simpa using he
 have hbn : b ∉ [bn] := by simpa using (q2 b hob).2
 rw [hvp] at hc
 have hpa : pa = some ⟨b, 0, none⟩ := (Value.slice.inj hc).1
 have hrow : RowB fu 194 W' E[ids[i]].sV E[ids[i]].ws := (h.rv _ (List.getElem_mem hl')).keep (fun r cur hr => ho.block r (Array.getElem?_eq_some_iff.1 hr).1 (by
  simp
  intro e
  rw [e, hmap] at hr
  cases hr))
 refine ⟨hl', b, 0, E[ids[i]].sV, E[ids[i]].ws, hpa, Nat.lt_of_lt_of_le hlt ho.size, ?_, ?_, hrow.row, ?_⟩
 ·exact cell_on ho hbn (by rw [hcell 3 (by decide), <- he']; rfl)
 ·exact cell_on ho hbn (by rw [hcell 4 (by decide)]; rfl)
 ·rw [<- he']; exact h.bt _ (List.getElem_mem hl')
theorem Ls.snoc {X0 X1 X2 X3 X4 : World} (h : Ls n0 G Sy V ρ lb br bv bn E vp X0) (H : Hs G Sy V ρ) {t : T} {ids : List Nat} (ho : Only [bn] X0 X1) (hM : MapIs X1 123 bn (upd (nmap ρ (E.map Pe.p)) (ndV (t.rk ρ) t.v ids) (fi E.length)) (E.length + 1)) (hb2 : Below X1.heap.size X1 X2) {sA sV vp' : Value} {ws : List Nat}
  (hA : RowB fi 83 X2 sA ids) (hV : RowB fu 194 X2 sV ws) (hB : Bits (fun x => (ixI V x).getD 0) ((V.length + 63) / 64) t.vs ws) (hb3 : Below X2.heap.size X2 X3) (hrow : X4.ownsRow n0 129 5 vp' (E.length + 1) (flatP ρ E ++ [fi E.length, .int .i64 (t.rk ρ : Int), sA, .int .i64 (t.top ρ : Int), sV])) (hg : X3.grownBy X4 vp.ownBlock)
  (hblk : vp'.ownBlock = vp.ownBlock ∨ vp'.ownBlock = some X3.heap.size) (hix : Idx (E.map (·.t)) ids t.args) (hsh : t.shape = true) (hsy : ∀ s ∈ t.sy, s ∈ Sy) (hvs : ∀ x ∈ t.vs, x ∈ V) (hno : t ∉ E.map (·.t)) :
  Ls n0 G Sy V ρ lb br bv bn (E ++ [⟨E.length, t, ids, sA, sV, ws⟩]) vp' (X4.setCell ⟨lb, 3, none⟩ vp') ∧ Only (lbs lb bn vp) X0 (X4.setCell ⟨lb, 3, none⟩ vp') ∧ (∀ g, vp'.ownBlock = some g -> vp.ownBlock = some g ∨ X0.heap.size <= g) := by
 obtain ⟨q1, q2⟩ := h.apart
 have hmm : (E.map Pe.p).map (·.1) = E.map (·.t) := by simp
 have hlb : lb < X0.heap.size := h.there _ (by simp)
 have hbn : bn < X0.heap.size := h.there _ (by simp)
 have o13 : Only (lbs lb bn vp) X1 X3 := (Only.of_below hb2).trans (Only.of_below (B := lbs lb bn vp) hb3) (fun r hr => .inl hr)
 have o34 : Only (lbs lb bn vp) X3 X4 := Only.of_grown hg (fun r e => by simp [lbs, e])
 have o45 := only_setCell X4 lb 3 vp'
 have o35 : Only (lbs lb bn vp) X3 (X4.setCell ⟨lb, 3, none⟩ vp') := o34.trans o45 (fun r hr => .inl (List.mem_cons.2 (.inl (List.mem_singleton.1 hr))))
 have o25 : Only (lbs lb bn vp) X2 (X4.setCell ⟨lb, 3, none⟩ vp') := (Only.of_below hb3).trans o35 (fun r hr => .inl hr)
 have o01 : Only (lbs lb bn vp) X0 X1 := ⟨ho.os, ho.tape, ho.output, ho.size, fun k hk hn => ho.block k hk (by simp [lbs] at hn ⊢; exact hn.2.1)⟩
 have o05 : Only (lbs lb bn vp) X0 (X4.setCell ⟨lb, 3, none⟩ vp') := (o01.trans o13 (fun r hr => .inl hr)).trans o35 (fun r hr => .inl hr)
 have s01 := ho.size
 have s12 := hb2.size
 have s23 := hb3.size
 have s34 := hg.size
 have k3 : ∀ r, r < X0.heap.size -> r ≠ bn -> X3.heap[r]? = X0.heap[r]? := fun r hr hn => (hb3.block r (by omega)).trans ((hb2.block r (by omega)).trans (ho.block r hr (by simpa using hn)))
 have k2 : ∀ r, r < X0.heap.size -> r ≠ bn -> X2.heap[r]? = X0.heap[r]? := fun r hr hn => (hb2.block r (by omega)).trans (ho.block r hr (by simpa using hn))
 have m2 : X2.heap[bn]? = X1.heap[bn]? := hb2.block bn (by omega)
 have m5 : (X4.setCell ⟨lb, 3, none⟩ vp').heap[bn]? = X1.heap[bn]? := (o45.block bn (by omega) (by simpa using fun e => q1 e.symm)).trans ((hg.block bn (by omega) (fun e => (q2 bn e.symm).2 rfl)).trans ((hb3.block bn (by omega)).trans m2))
 have l4 : X4.heap[lb]? = some (.cells #[.map (some br), .map (some bv), .map (some bn), vp] 81 (0, 0)) := (hg.block lb (by omega) (fun e => (q2 lb e.symm).1 rfl)).trans ((k3 lb hlb q1).trans h.head)
 have l5 : (X4.setCell ⟨lb, 3, none⟩ vp').heap[lb]? = some (.cells #[.map (some br), .map (some bv), .map (some bn), vp'] 81 (0, 0)) := by
  have := Go.heap_setCell_same X4 lb 3 _ 81 vp' l4
  simpa using this
 obtain ⟨es1, c1, hm1⟩ := hM.isMap
 have off2 : ∀ (ty : TypeId) (r : Nat) (cur : Array Value), ty ≠ 81 -> ty ≠ 129 -> X2.heap[r]? = some (Obj.cells cur ty (0, 0)) -> r ∉ lbs lb bn vp := by
  intro ty r cur h1 h2 hr
  simp only [lbs, List.mem_cons, Option.mem_toList, not_or]
  refine ⟨fun e => ?_, fun e => ?_, fun e => ?_⟩
  ·rw [e, k2 lb hlb q1, h.head] at hr
   simp only [Option.some.injEq, Obj.cells.injEq] at hr
   exact h1 hr.2.1.symm
  ·rw [e, m2, hm1] at hr
   cases hr
  ·obtain ⟨_, cur', hg'⟩ := row_block h.row e
   rw [k2 r (Array.getElem?_eq_some_iff.1 hg').1 (q2 r e).2, hg'] at hr
   simp only [Option.some.injEq, Obj.cells.injEq] at hr
   exact h2 hr.2.1.symm
 have hnew : ∀ e ∈ E ++ [(⟨E.length, t, ids, sA, sV, ws⟩ : Pe)], e ∈ E ∨ e = ⟨E.length, t, ids, sA, sV, ws⟩ := fun e he => by simpa using he
 refine ⟨⟨l5, ?_, ?_, ?_, ?_, ?_, ?_, ?_, ?_, ?_, h.low, h.ne⟩, o05, ?_⟩
 ·exact h.mr.same (o05.block _ h.mr.lt (h.offM h.mr h.ne.1))
 ·exact h.mv.same (o05.block _ h.mv.lt (h.offM h.mv h.ne.2))
 ·have hs := nmap_snoc H.rk h.lp (p := (t, ids)) (by rw [hmm]; exact hix) hsh hsy hvs (by rw [hmm]; exact hno)
  rw [List.map_append, List.length_append]
  have hM5 := hM.same m5
  have e1 : upd (nmap ρ (E.map Pe.p)) (ndV (t.rk ρ) t.v ids) (fi E.length) = nmap ρ (E.map Pe.p ++ [(t, ids)]) := by
   rw [<- hs]
   simp
  rw [e1] at hM5
  exact hM5
 ·rw [flatP_snoc, List.length_append]
  refine rowL_keep hrow fun g hg' => o45.block g ?_ ?_
  ·obtain ⟨_, cur, hc⟩ := row_block hrow hg'
   exact (Array.getElem?_eq_some_iff.1 hc).1
  ·have : g ≠ lb := by
    rcases hblk with e | e
    ·exact (q2 g (e ▸ hg')).1
    ·rw [e] at hg'
     have := Option.some.inj hg'
     omega
   simpa using this
 ·intro i hi
  by_cases hl : i < E.length
  ·rw [List.getElem_append_left hl]
   exact h.ks i hl
  ·have : i = E.length := by simp at hi; omega
   subst this
   simp
 ·intro e he
  rcases hnew e he with he | rfl
  ·exact (h.ra e he).keep fun r cur hr => o05.block r (Array.getElem?_eq_some_iff.1 hr).1 (h.off hr (by decide) (by decide))
  ·exact hA.keep fun r cur hr => o25.block r (Array.getElem?_eq_some_iff.1 hr).1 (off2 83 r cur (by decide) (by decide) hr)
 ·intro e he
  rcases hnew e he with he | rfl
  ·exact (h.rv e he).keep fun r cur hr => o05.block r (Array.getElem?_eq_some_iff.1 hr).1 (h.off hr (by decide) (by decide))
  ·exact hV.keep fun r cur hr => o25.block r (Array.getElem?_eq_some_iff.1 hr).1 (off2 194 r cur (by decide) (by decide) hr)
 ·intro e he
  rcases hnew e he with he | rfl
  ·exact h.bt e he
  ·exact hB
 ·rw [List.map_append]
  exact h.lp.snoc (p := (t, ids)) (by rw [hmm]; exact hix) hsh hsy hvs (by rw [hmm]; exact hno)
 ·intro g hg'
  rcases hblk with e | e
  ·exact .inl (e ▸ hg')
  ·rw [e] at hg'
   have := Option.some.inj hg'
   exact .inr (by omega)
end
theorem Tryz.info123 : (Tryz.prog.info? 123).map (·.size) = some 18 := by kernel_rfl
theorem heap_setCells (b : Nat) (ty : TypeId) : ∀ (vs : List Value) (o : Nat) (w : World) (cur : Array Value), w.heap[b]? = some (.cells cur ty (0, 0)) ->
  ∃ cur', (w.setCells b o vs).heap[b]? = some (.cells cur' ty (0, 0)) ∧ cur'.size = cur.size ∧ (∀ j, j < o -> cur'[j]? = cur[j]?) ∧ (∀ j (h : j < vs.length), o + j < cur.size -> cur'[o + j]? = some vs[j]) ∧ Only [b] w (w.setCells b o vs)
 | [], o, w, cur, h => ⟨cur, h, rfl, fun _ _ => rfl, fun j h => absurd h (by simp), Only.refl _ _⟩
 | v :: r, o, w, cur, h => by
  have h1 := Go.heap_setCell_same w b o cur ty v h
  obtain ⟨cur', g1, g2, g3, g4, g5⟩ := heap_setCells b ty r (o + 1) _ _ h1
  refine ⟨cur', g1, by rw [g2]; simp, fun j hj => ?_, fun j hj hs => ?_, (only_setCell w b o v).trans g5 (by simp)⟩
  ·rw [g3 j (by omega), Array.getElem?_setIfInBounds, if_neg (by omega)]
  ·cases j with
   | zero =>
    rw [Nat.add_zero, g3 o (by omega), Array.getElem?_setIfInBounds, if_pos rfl, if_pos (by omega)]
    rfl
   | succ j =>
    have := g4 j (by simpa using hj) (by simp; omega)
    rw [show o + (j + 1) = o + 1 + j by omega, this]
    rfl
theorem store_node (Y : World) (nb : Nat) (z : Array Value) (hz : z.size = 18) (h : Y.heap[nb]? = some (.cells z 123 (0, 0))) (cs : List Value) (hl : cs.length = 18) (h1 : ∀ u ∈ cs, u.oneCell' = true) :
  ∃ Y', (Instr.storeAt 123 (.pointer (some ⟨nb, 0, none⟩)) (.agg cs.toArray)).run Tryz.prog Y = .ok () Y' ∧ Y'.heap[nb]? = some (.cells cs.toArray 123 (0, 0)) ∧ Only [nb] Y Y' := by
 obtain ⟨cur', g1, g2, g3, g4, g5⟩ := heap_setCells nb 123 cs 0 Y z h
 refine ⟨_, run_storeAt_mid (P := Tryz.prog) Y nb 0 123 cs.toArray (fun j hj => ?_) (by simp [hl, Tryz.info123]) (all_oneCell_toArray h1), ?_, ?_⟩
 ·have hj5 : j < 18 := by simpa [hl] using hj
  simp [World.cell?, World.frozen?, h]
  omega
 ·show (Y.setCells nb 0 cs).heap[nb]? = _
  rw [g1]
  congr 2
  apply Array.ext
  ·rw [g2, hz]; simp [hl]
  ·intro i h1 h2
   have hi : i < cs.length := by simpa using h2
   have := g4 i hi (by omega)
   rw [Nat.zero_add, Array.getElem?_eq_getElem h1] at this
   simpa using Option.some.inj this
 ·simpa using g5
theorem nd_one (rk : Nat) (v : Int) (ids : List Nat) : ∀ u ∈ ndC rk v ids, u.oneCell' = true := by
 intro u hu
 simp only [ndC, pad, List.mem_append, List.mem_cons, List.not_mem_nil, or_false, List.mem_map] at hu
 rcases hu with (rfl | rfl) | ⟨i, _, rfl⟩ <;> rfl
theorem run_build_node (rk v : Int) (w : World) : (Instr.build 123 #[(0, .int .i64 rk), (1, .int .i64 v)]).run Tryz.prog w = .ok (.agg ([Value.int .i64 rk, .int .i64 v] ++ pad []).toArray) w := by kernel_rfl
theorem load_node (w : World) (b : Nat) (cs : List Value) (hl : cs.length = 18) (hc : w.heap[b]? = some (.cells cs.toArray 123 (0, 0))) : (Instr.loadAt 123 (.pointer (some ⟨b, 0, none⟩))).run Tryz.prog w = .ok (.agg cs.toArray) w :=
 run_loadAt_mid (P := Tryz.prog) w b 0 123 cs _ (fun j v hv => by rw [Nat.zero_add, cell_of_row _ _ _ _ 123 (0, 0) hc]; simpa using hv) Tryz.underlying123 rfl (by rw [hl]; exact Tryz.info123)
theorem yieldsIf_load_node {ops : Array Oper} {S : World -> Prop} {op : Oper} {a : Act} (hw : Region.wanted op (yielded ops a.tmps) = true) (x : Operand) (ho : op.op = .load 123 x) (b : Nat) (hx : a.eval x = .pointer (some ⟨b, 0, none⟩)) (cs : List Value) (hl : cs.length = 18)
  (hc : ∀ w, S w -> w.heap[b]? = some (.cells cs.toArray 123 (0, 0))) : YieldsIf Tryz.prog ops S op (.agg cs.toArray) a :=
 .inl ⟨hw, fun w hw' => by
  have h1 := load_node w b cs hl (hc w hw')
  unfold execOp
  simp only [ho, hx, Sem.run_bind, h1, Result.andThen_ok, Sem.run_pure]⟩
theorem wpQuiet_val {ops : Array Oper} {C : World -> Prop} {Q : Act -> Prop} {rest : List Oper} {o : Oper} {a : Act} (hg : o.guard = none) (v : Value) (h : ∀ w, C w -> (execOp a.eval o).run Tryz.prog w = .ok (.value v) w) (hr : wpQuiet Tryz.prog ops C Q rest (a.put o.dst v)) : wpQuiet Tryz.prog ops C Q (o :: rest) a :=
 wpQuiet_step fun K hK => by
  rw [if_pos (by simp [Region.wanted, hg])]
  exact ⟨v, fun w hw => by unfold Oper.quietAt; rw [h w hw]; exact ⟨rfl, rfl⟩, hK _ hr⟩
theorem wpQuiet_load_node {ops : Array Oper} {C : World -> Prop} {Q : Act -> Prop} {rest : List Oper} {o : Oper} {a : Act} (hg : o.guard = none) (x : Operand) (ho : o.op = .load 123 x) (b : Nat) (hx : a.eval x = .pointer (some ⟨b, 0, none⟩)) (cs : List Value) (hl : cs.length = 18)
  (hc : ∀ w, C w -> w.heap[b]? = some (.cells cs.toArray 123 (0, 0))) (hr : wpQuiet Tryz.prog ops C Q rest (a.put o.dst (.agg cs.toArray))) : wpQuiet Tryz.prog ops C Q (o :: rest) a :=
 wpQuiet_val hg _ (fun w hw => by
  have h1 := load_node w b cs hl (hc w hw)
  unfold execOp
  simp only [ho, hx, Sem.run_bind, h1, Result.andThen_ok, Sem.run_pure]) hr
theorem wp_mapUpdate_run {op : Oper} {a : Act} {w w' : World} {K : Act -> World -> Prop} {Q : Exit -> Act -> World -> Prop} (t : TypeId) (m x v : Operand) (ho : op.op = .mapUpdate t m x v) (mv kv vv : Value) (hm : a.eval m = mv) (hx : a.eval x = kv) (hv : a.eval v = vv)
  (hrun : (Instr.mapUpdate t mv kv vv).run Tryz.prog w = .ok () w') (h : K (a.put op.dst undef) w') : Oper.wp Tryz.prog op a w K Q := by
 unfold Oper.wp execOp
 simp only [ho, hm, hx, hv, Sem.run_bind, hrun, Result.andThen_ok, Sem.run_pure]
 exact h
theorem set_node {W : World} {nb : Nat} {rk : Nat} {v : Int} {ids : List Nat} (h : W.heap[nb]? = some (.cells (ndC rk v ids).toArray 123 (0, 0))) (hl : ids.length < 16) (k : Nat) :
  (W.cell? ⟨nb, 2 + ids.length, none⟩ = some (fi 0) ∧ W.frozen? ⟨nb, 2 + ids.length, none⟩ = false) ∧ (W.setCell ⟨nb, 2 + ids.length, none⟩ (fi k)).heap[nb]? = some (.cells (ndC rk v (ids ++ [k])).toArray 123 (0, 0)) := by
 refine ⟨⟨?_, by simp [World.frozen?, h]⟩, ?_⟩
 ·rw [cell_of_row _ _ _ _ 123 (0, 0) h]
  have := pad_at ids ids.length hl
  simp only [ndC, List.getElem?_toArray]
  rw [List.getElem?_append_right (by simp), show 2 + ids.length - [Value.int .i64 (rk : Int), Value.int .i64 v].length = ids.length by simp, this]
  simp
 ·rw [Go.heap_setCell_same W nb (2 + ids.length) _ 123 (fi k) h, <- ndC_snoc _ _ _ _ hl]
  simp
def Ent (w0 : World) (G : Sg) (Sy : List Sym) (V : List Int) (ρ : Sym -> Nat) (lb br bv bn : Nat) (t : T) : Prop :=
 ∀ sl E vp W, Ls w0.heap.size G Sy V ρ lb br bv bn E vp W -> ArgsAt w0 sl t.args -> Below w0.heap.size w0 W -> t.shape = true -> (∀ s ∈ t.sy, s ∈ Sy) -> (∀ x ∈ t.vs, x ∈ V) -> E.length + t.size.toNat <= 8000 ->
  Calls Tryz.prog 50 #[.pointer (some ⟨lb, 0, none⟩), tval t sl] W fun e W' => ∃ k E' vp', e = .returned (fi k) ∧ Ls w0.heap.size G Sy V ρ lb br bv bn E' vp' W' ∧ E <+: E' ∧ E'.length <= E.length + t.size.toNat ∧ (∃ h : k < E'.length, E'[k].t = t) ∧ Only (lbs lb bn vp) W W' ∧ (∀ g, vp'.ownBlock = some g -> vp.ownBlock = some g ∨ W.heap.size <= g)
abbrev sizs (l : List T) : Nat := (l.map (fun a => a.size.toNat)).sum
theorem sizs_arg (t : T) : t.size.toNat = 1 + sizs t.args := by
 have : ∀ l : List T, ((l.map T.size).sum.toNat : Int) = (l.map T.size).sum ∧ sizs l = (l.map T.size).sum.toNat := by
  intro l
  induction l with
  | nil => simp [sizs]
  | cons a r ih =>
   have := size_pos a
   obtain ⟨h1, h2⟩ := ih
   simp only [sizs, List.map_cons, List.sum_cons] at *
   omega
 have h := this t.args
 rw [t.size_eq]
 omega
theorem sizs_take {ts : List T} {i : Nat} (h : i < ts.length) : sizs (ts.take i) + ts[i].size.toNat <= sizs ts := by
 have ht : ts.take (i + 1) = ts.take i ++ [ts[i]] := List.take_succ_eq_append_getElem h
 have e : sizs ts = sizs (ts.take (i + 1)) + sizs (ts.drop (i + 1)) := by
  unfold sizs
  rw [<- List.sum_append, <- List.map_append, List.take_append_drop]
 rw [ht] at e
 simp only [sizs, List.map_append, List.sum_append, List.map_cons, List.map_nil, List.sum_cons, List.sum_nil] at *
 omega
structure Lv (n0 : Nat) (G : Sg) (Sy : List Sym) (V : List Int) (ρ : Sym -> Nat) (lb br bv bn : Nat) (E : List Pe) (vp : Value) (W : World) (t : T) (sl : Value) (rk nb i : Nat) (ids : List Nat) (E1 : List Pe) (vp1 : Value) (X : World) : Prop where
 ls : Ls n0 G Sy V ρ lb br bv bn E1 vp1 X
 nd : X.heap[nb]? = some (.cells (ndC rk t.v ids).toArray 123 (0, 0))
 tb : X.heap[W.heap.size]? = some (.cells #[.int .i64 t.v, .string t.fn, sl] 30 (0, 0))
 ix : Idx (E1.map (·.t)) ids (t.args.take i)
 on : Only (lbs lb bn vp) W X
 pre : E <+: E1
 ln : E1.length <= E.length + sizs (t.args.take i)
 own : ∀ g, vp1.ownBlock = some g -> vp.ownBlock = some g ∨ W.heap.size <= g
 nb0 : W.heap.size <= nb
theorem lbs_own {W : World} {lb bn : Nat} {vp vp1 : Value} (h : ∀ g, vp1.ownBlock = some g -> vp.ownBlock = some g ∨ W.heap.size <= g) : ∀ r ∈ lbs lb bn vp1, r ∈ lbs lb bn vp ∨ W.heap.size <= r := by
 intro r hr
 simp only [lbs, List.mem_cons, Option.mem_toList] at hr ⊢
 rcases hr with hr | hr | hr
 ·exact .inl (.inl hr)
 ·exact .inl (.inr (.inl hr))
 ·rcases h r hr with h | h
  ·exact .inl (.inr (.inr h))
  ·exact .inr h
section
variable {n0 : Nat} {G : Sg} {Sy : List Sym} {V : List Int} {ρ : Sym -> Nat} {lb br bv bn : Nat} {E E1 E2 : List Pe} {vp vp1 vp2 : Value} {W X X1 X2 : World} {t : T} {sl : Value} {rk nb i k : Nat} {ids : List Nat}
theorem Lv.below (h : Lv n0 G Sy V ρ lb br bv bn E vp W t sl rk nb i ids E1 vp1 X) (hb : Below X.heap.size X X1) : Lv n0 G Sy V ρ lb br bv bn E vp W t sl rk nb i ids E1 vp1 X1 :=
 ⟨h.ls.below hb, (hb.block _ (Array.getElem?_eq_some_iff.1 h.nd).1).trans h.nd, (hb.block _ (Array.getElem?_eq_some_iff.1 h.tb).1).trans h.tb, h.ix, h.on.trans (Only.of_below (B := []) hb) (by simp), h.pre, h.ln, h.own, h.nb0⟩
theorem Lv.len (h : Lv n0 G Sy V ρ lb br bv bn E vp W t sl rk nb i ids E1 vp1 X) (hi : i <= t.args.length) : ids.length = i := by
 rw [h.ix.len, List.length_take, Nat.min_eq_left hi]
theorem Lv.next (h : Lv n0 G Sy V ρ lb br bv bn E vp W t sl rk nb i ids E1 vp1 X) (hlt : i < t.args.length) (h16 : t.args.length <= 16) (hL2 : Ls n0 G Sy V ρ lb br bv bn E2 vp2 X2) (hp : E1 <+: E2) (hl : E2.length <= E1.length + t.args[i].size.toNat) (hk : ∃ h : k < E2.length, E2[k].t = t.args[i])
  (ho : Only (lbs lb bn vp1) X X2) (hown : ∀ g, vp2.ownBlock = some g -> vp1.ownBlock = some g ∨ X.heap.size <= g) :
  (X2.cell? ⟨nb, 2 + i, none⟩ = some (fi 0) ∧ X2.frozen? ⟨nb, 2 + i, none⟩ = false) ∧ Lv n0 G Sy V ρ lb br bv bn E vp W t sl rk nb (i + 1) (ids ++ [k]) E2 vp2 (X2.setCell ⟨nb, 2 + i, none⟩ (fi k)) := by
 have hil := h.len (Nat.le_of_lt hlt)
 have hnd2 : X2.heap[nb]? = some (.cells (ndC rk t.v ids).toArray 123 (0, 0)) := (ho.block _ (Array.getElem?_eq_some_iff.1 h.nd).1 (h.ls.off h.nd (by decide) (by decide))).trans h.nd
 have htb2 := (ho.block _ (Array.getElem?_eq_some_iff.1 h.tb).1 (h.ls.off h.tb (by decide) (by decide))).trans h.tb
 have hne : W.heap.size ≠ nb := fun e => by
  have h1 := h.tb
  rw [e, h.nd] at h1
  simp only [Option.some.injEq, Obj.cells.injEq] at h1
  exact absurd h1.2.1 (by decide)
 obtain ⟨hcf, hset⟩ := set_node hnd2 (by omega) k
 rw [hil] at hcf hset
 have o3 := only_setCell X2 nb (2 + i) (fi k)
 have ht : t.args.take (i + 1) = t.args.take i ++ [t.args[i]] := List.take_succ_eq_append_getElem hlt
 obtain ⟨M, hM⟩ := hp
 obtain ⟨hkl, hke⟩ := hk
 have hsz := h.on.size
 refine ⟨hcf, hL2.setNode hnd2 (fi k), hset, ?_, ?_, ?_, ?_, ?_, ?_, h.nb0⟩
 ·exact (o3.block _ (Array.getElem?_eq_some_iff.1 htb2).1 (by simpa using hne)).trans htb2
 ·have h1 : Idx (E2.map (·.t)) ids (t.args.take i) := by rw [<- hM, List.map_append]; exact h.ix.more
  rw [ht]
  unfold Idx at h1 ⊢
  rw [List.map_append, List.map_append, h1]
  simp [hkl, hke]
 ·refine (h.on.trans ho (lbs_own h.own)).trans o3 (fun r hr => .inr ?_)
  have : r = nb := by simpa using hr
  have := h.nb0
  omega
 ·exact h.pre.trans ⟨M, hM⟩
 ·rw [ht]
  have := h.ln
  simp only [sizs, List.map_append, List.sum_append, List.map_cons, List.map_nil, List.sum_cons, List.sum_nil] at *
  omega
 ·intro g hg
  rcases hown g hg with e | e
  ·exact h.own g e
  ·exact .inr (by omega)
end
end Go.Proofs.YtglphfhlpobgcaaGreat
