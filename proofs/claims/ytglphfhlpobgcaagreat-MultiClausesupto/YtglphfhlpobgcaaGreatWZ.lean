import Derived.Test.YtglphfhlpobgcaaGreatWV
import Derived.Deep.OwnRows
namespace Go.Proofs.YtglphfhlpobgcaaGreat
set_option maxRecDepth 100000
set_option maxHeartbeats 4000000
open Go.RowKit Go.Maps
def RowB {α : Type} (f : α -> Value) (ty : TypeId) (W : World) (v : Value) (l : List α) : Prop :=
 ∃ b cur c, v = .slice (some ⟨b, 0, none⟩) l.length c ∧ l.length <= c ∧ c <= 9223372036854775807 ∧ W.heap[b]? = some (.cells cur ty (0, 0)) ∧ ∀ i (h : i < l.length), cur[i]? = some (f l[i])
theorem RowB.row {α : Type} {f : α -> Value} {ty : TypeId} {W : World} {v : Value} {l : List α} (h : RowB f ty W v l) : RowAt f W v l := by
 obtain ⟨b, cur, c, h1, h2, h3, h4, h5⟩ := h
 refine ⟨_, c, h1, h2, h3, fun h0 => ⟨b, 0, (Array.getElem?_eq_some_iff.1 h4).1, rfl, fun i hi => ?_⟩⟩
 have := h5 i hi
 simp only [World.cell?, h4, Nat.zero_add]
 simpa using this
theorem RowB.keep {α : Type} {f : α -> Value} {ty : TypeId} {W W' : World} {v : Value} {l : List α} (h : RowB f ty W v l) (hk : ∀ (b : Nat) (cur : Array Value), W.heap[b]? = some (Obj.cells cur ty (0, 0)) -> W'.heap[b]? = W.heap[b]?) : RowB f ty W' v l := by
 obtain ⟨b, cur, c, h1, h2, h3, h4, h5⟩ := h
 exact ⟨b, cur, c, h1, h2, h3, (hk b cur h4).trans h4, h5⟩
theorem RowB.below {α : Type} {f : α -> Value} {ty : TypeId} {W W' : World} {v : Value} {l : List α} (h : RowB f ty W v l) (hb : Below W.heap.size W W') : RowB f ty W' v l :=
 h.keep fun b _ hc => hb.block b (Array.getElem?_eq_some_iff.1 hc).1
theorem only_setCell (W : World) (p o : Nat) (v : Value) : Only [p] W (W.setCell ⟨p, o, none⟩ v) :=
 ⟨rfl, rfl, rfl, by simp, fun k _ hn => Below.heap_setCell _ _ _ k (by simpa using hn)⟩
def SetAt (W : World) (bs : Nat) (ws : List Nat) : Prop := W.heap[bs]? = some (.cells (ws.map fu).toArray 194 (0, 0))
abbrev setV (bs n : Nat) : Value := .slice (some ⟨bs, 0, none⟩) n n
theorem SetAt.rowB {W : World} {bs : Nat} {ws : List Nat} (h : SetAt W bs ws) (hl : ws.length <= 1000000) : RowB fu 194 W (setV bs ws.length) ws :=
 ⟨bs, _, ws.length, rfl, Nat.le_refl _, by omega, h, fun i hi => by simp [hi]⟩
theorem SetAt.cell {W : World} {bs : Nat} {ws : List Nat} (h : SetAt W bs ws) {i : Nat} (hi : i < ws.length) : W.cell? ⟨bs, i, none⟩ = some (fu ws[i]) ∧ W.frozen? ⟨bs, i, none⟩ = false := by
 refine ⟨?_, by simp [World.frozen?, show W.heap[bs]? = _ from h]⟩
 simp only [World.cell?, show W.heap[bs]? = _ from h]
 simp [hi]
theorem SetAt.set {W : World} {bs : Nat} {ws : List Nat} (h : SetAt W bs ws) (i n : Nat) : SetAt (W.setCell ⟨bs, i, none⟩ (fu n)) bs (ws.set i n) := by
 have := Go.heap_setCell_same W bs i _ 194 (fu n) h
 unfold SetAt
 rw [this, List.map_set]
 simp
theorem Tryz.info194 : (Tryz.prog.info? 194).map (fun i => (i.zero, i.size, i.bytes)) = some (some (.int .u64 0), 1, 8) := by kernel_rfl
theorem made_zero (n : Nat) : madeCells #[.int .u64 0] n = ((List.replicate n 0).map fu).toArray := by
 unfold madeCells
 refine Array.ext (by simp) fun i h1 h2 => ?_
 simp [fu, Nat.mod_one]
theorem emptySet_any (br bv : Nat) (V : List Int) (W : World) (hV : MapIs W 3 bv (vmap V) V.length) (hl : V.length <= 100000) :
  Calls Tryz.prog 124 #[.agg #[.map (some br), .map (some bv)]] W fun e W' => ∃ bs, e = .returned (setV bs ((V.length + 63) / 64)) ∧ SetAt W' bs (List.replicate ((V.length + 63) / 64) 0) ∧ W.heap.size <= bs ∧ Below W.heap.size W W' := by
 obtain ⟨n, hn⟩ : ∃ n, (V.length + 63) / 64 = n := ⟨_, rfl⟩
 obtain ⟨X, eX⟩ : ∃ X, W.alloc (.cells #[.map (some br), .map (some bv)] 76) = X := ⟨_, rfl⟩
 have hb : Below W.heap.size W X := by rw [<- eX]; exact below_box W _
 obtain ⟨c0, c1⟩ := box2_cells W (.map (some br)) (.map (some bv)) 76
 rw [eX] at c0 c1
 have hln := (hV.same (hb.block bv hV.lt)).len Tryz.underlying74 3
 have hmk := fun w => run_make_row' (P := Tryz.prog) 127 194 (.int .u64 0) 8 Tryz.underlying127 Tryz.info194 rfl .i64 .i64 n (by omega) (by omega) w
 have hq : ((V.length : Int) + 64 - 1) / 64 = (n : Int) := by omega
 have HX : Hid (Below W.heap.size W X ∧ X.heap.size = W.heap.size + 1) := ⟨hb, by rw [<- eX]; simp⟩
 rw [hn]
 clear hV hb
 go_enter Tryz.func124, Tryz.ntmps124
 go_wp2
 go_ret
 refine ⟨X.heap.size, rfl, ?_, by have := HX.out.2; omega, HX.out.1.trans ((below_box X _).mono (by have := HX.out.2; omega))⟩
 unfold SetAt
 rw [made_zero]
 exact (MapKept.heap_alloc X _).1
def addW (ws : List Nat) (x : Nat) : List Nat := ws.set (x / 64) (ws.getD (x / 64) 0 ||| 2 ^ (x % 64))
theorem shl_one (k : Nat) (h : k < 64) : IntKind.u64.wrap ((1 : Int) * 2 ^ k) = ((2 ^ k : Nat) : Int) := by
 have h2 : (2 : Nat) ^ k < 2 ^ 64 := Nat.pow_lt_pow_right (by decide) h
 have h3 : (2 : Nat) ^ 64 = 18446744073709551616 := by decide
 rw [IntKind.wrap_u64, Int.one_mul]
 have h4 : ((2 : Int) ^ k) = ((2 ^ k : Nat) : Int) := by simp
 rw [h4]
 generalize (2 : Nat) ^ k = m at *
 omega
theorem add_any (bs : Nat) (ws : List Nat) (x : Nat) (W : World) (hS : SetAt W bs ws) (hx : x < 64 * ws.length) (hl : ws.length <= 100000) (hlt : ∀ n ∈ ws, n < 18446744073709551616) :
  Calls Tryz.prog 125 #[setV bs ws.length, .int .i64 (x : Int)] W fun e W' => (∃ v, e = .returned v) ∧ SetAt W' bs (addW ws x) ∧ Only [bs] W W' := by
 obtain ⟨i, hie⟩ : ∃ i, x / 64 = i := ⟨_, rfl⟩
 obtain ⟨k, hke⟩ : ∃ k, x % 64 = k := ⟨_, rfl⟩
 have hi : i < ws.length := by omega
 have hk : k < 64 := by omega
 have hSd : SetAt W.drew bs ws := hS
 obtain ⟨c0, f0⟩ := hSd.cell hi
 have hq : (x : Int) / 64 = (i : Int) := by omega
 have hr : (x : Int) % 64 = (k : Int) := by omega
 have hw : ws[i] < 18446744073709551616 := hlt _ (List.getElem_mem hi)
 have h2k : 2 ^ k < 18446744073709551616 := by
  have h2 : (2 : Nat) ^ k < 2 ^ 64 := Nat.pow_lt_pow_right (by decide) hk
  have h3 : (2 : Nat) ^ 64 = 18446744073709551616 := by decide
  omega
 have hor := u64_or_nat ws[i] (2 ^ k) hw h2k
 have hshl := shl_one k hk
 have HE : Hid (SetAt W.drew bs ws ∧ addW ws x = ws.set i (ws[i] ||| 2 ^ k) ∧ Only [bs] W W.drew) := ⟨hSd, by unfold addW; rw [hie, hke]; simp [hi], Only.of_below (Below.refl _ W).drew⟩
 obtain ⟨y, hy⟩ : ∃ y, ws[i] = y := ⟨_, rfl⟩
 rw [hy] at c0 hor HE
 clear hS hSd hie hke hw hlt hy hx
 go_enter Tryz.func125, Tryz.ntmps125
 go_wp2
 go_region
 have hv : bits BinOp.or IntKind.u64 (y : Int) (IntKind.u64.wrap (2 ^ k)) = ((y ||| 2 ^ k : Nat) : Int) := by
  rw [Int.one_mul] at hshl
  rw [hshl]
  exact hor
 rw [hv]
 refine bodyPost_end (results_none rfl _ _ _) rfl ?_
 refine ⟨⟨_, rfl⟩, ?_, HE.out.2.2.trans (only_setCell W.drew bs i (fu (y ||| 2 ^ k))) (by simp)⟩
 rw [HE.out.2.1]
 exact HE.out.1.set i _
def joinW (ws us : List Nat) : List Nat := List.zipWith (· ||| ·) ws us
theorem joinW_len {ws us : List Nat} (h : ws.length = us.length) : (joinW ws us).length = ws.length := by simp [joinW, h]
theorem join_any (bs : Nat) (ws us : List Nat) (u : Value) (W : World) (hS : SetAt W bs ws) (hu : ∀ X, Only [bs] W X -> RowAt fu X u us) (hl : ws.length = us.length) (h1 : ∀ n ∈ ws, n < 18446744073709551616) (h2 : ∀ n ∈ us, n < 18446744073709551616) :
  Calls Tryz.prog 126 #[setV bs ws.length, u] W fun e W' => (∃ v, e = .returned v) ∧ SetAt W' bs (joinW ws us) ∧ Only [bs] W W' := by
 obtain ⟨a, c, rfl, hc, hm⟩ := (hu W (Only.refl _ _)).slice
 have HH : Hid (SetAt W bs ws ∧ (∀ X, Only [bs] W X -> RowAt fu X (.slice a us.length c) us) ∧ ws.length = us.length ∧ (∀ n ∈ ws, n < 18446744073709551616) ∧ (∀ n ∈ us, n < 18446744073709551616)) := ⟨hS, hu, hl, h1, h2⟩
 clear hS hu hl h1 h2
 go_enter Tryz.func126, Tryz.ntmps126
 go_wp2
 go_loopw [8] (fun vi wr => ∃ i : Nat, vi = .int .i64 i ∧ i <= us.length ∧ Hid (SetAt wr bs ((joinW ws us).take i ++ ws.drop i) ∧ Only [bs] W wr)) (fun vi _ => us.length - (intOf vi).toNat)
 case atStart => exact ⟨0, rfl, Nat.zero_le _, by simpa using HH.out.1, Only.refl _ _⟩
 case round =>
  obtain ⟨i, rfl, hi, HI⟩ := hrel
  by_cases hlt : i < us.length
  ·have hlw : i < ws.length := by have := HH.out.2.2.1; omega
   have hlj : i < (joinW ws us).length := by rw [joinW_len HH.out.2.2.1]; exact hlw
   have hlen : ((joinW ws us).take i ++ ws.drop i).length = ws.length := by simp; omega
   obtain ⟨b', o', rfl, hbl, hcell⟩ := (HH.out.2.1 wr HI.out.2).nth hlt
   obtain ⟨c0, f0⟩ := HI.out.1.cell (i := i) (by omega)
   have hgi : ((joinW ws us).take i ++ ws.drop i)[i]'(by omega) = ws[i] := by
    have ht : ((joinW ws us).take i).length = i := by rw [List.length_take]; omega
    rw [List.getElem_append_right (by omega)]
    simp only [ht, Nat.sub_self, List.getElem_drop, Nat.add_zero]
   have hor := u64_or_nat ws[i] us[i] (HH.out.2.2.2.1 _ (List.getElem_mem hlw)) (HH.out.2.2.2.2 _ (List.getElem_mem hlt))
   have hnx : ((joinW ws us).take i ++ ws.drop i).set i (ws[i] ||| us[i]) = (joinW ws us).take (i + 1) ++ ws.drop (i + 1) := by
    refine List.ext_getElem (by simp; omega) fun j h1 h2 => ?_
    rw [List.getElem_set]
    by_cases e : i = j
    ·subst e
     rw [if_pos rfl, List.getElem_append_left (by simp; omega), List.getElem_take]
     simp [joinW]
    ·rw [if_neg e]
     by_cases hj : j < i
     ·rw [List.getElem_append_left (by simp; omega), List.getElem_append_left (by simp; omega), List.getElem_take, List.getElem_take]
     ·rw [List.getElem_append_right (by simp; omega), List.getElem_append_right (by simp; omega), List.getElem_drop, List.getElem_drop]
      congr 1
      simp only [List.length_take]
      omega
   rw [hgi] at c0
   have HN : Hid (SetAt (wr.setCell ⟨bs, i, none⟩ (fu (ws[i] ||| us[i]))) bs ((joinW ws us).take (i + 1) ++ ws.drop (i + 1)) ∧ Only [bs] W (wr.setCell ⟨bs, i, none⟩ (fu (ws[i] ||| us[i])))) := by
    refine ⟨?_, HI.out.2.trans (only_setCell wr bs i _) (by simp)⟩
    rw [<- hnx]
    exact HI.out.1.set i _
   clear hgi hnx hlen hlj
   generalize ws[i] = x at *
   generalize us[i] = y at *
   go_wp2
   go_roundw
   case rel => exact ⟨i + 1, by go_num, by omega, HN⟩
   case measure => simp [intOf]; omega
  ·have HN : Hid (SetAt wr bs (joinW ws us) ∧ Only [bs] W wr) := by
    have h1 := HI.out
    have h3 := HH.out.2.2.1
    rw [List.take_of_length_le (by rw [joinW_len h3]; omega), List.drop_of_length_le (by omega), List.append_nil] at h1
    exact h1
   go_wp2
   refine bodyPost_end (results_none rfl _ _ _) rfl ?_
   exact ⟨⟨_, rfl⟩, HN.out⟩
theorem bits_zero (ν : Int -> Nat) (nw : Nat) : Bits ν nw [] (List.replicate nw 0) := by
 refine ⟨by simp, fun n hn => ?_, fun i h j hj => ?_⟩
 ·have := (List.mem_replicate.1 hn).2
  omega
 ·simp
theorem Bits.congr {ν : Int -> Nat} {nw : Nat} {vs us : List Int} {ws : List Nat} (h : Bits ν nw vs ws) (he : ∀ x, x ∈ vs ↔ x ∈ us) : Bits ν nw us ws := by
 refine ⟨h.len, h.lt, fun i hi j hj => (h.bit i hi j hj).trans ?_⟩
 constructor
 ·rintro ⟨x, hx, e⟩; exact ⟨x, (he x).1 hx, e⟩
 ·rintro ⟨x, hx, e⟩; exact ⟨x, (he x).2 hx, e⟩
theorem or_lt {a b : Nat} (ha : a < 18446744073709551616) (hb : b < 18446744073709551616) : a ||| b < 18446744073709551616 := by
 have h : (2 : Nat) ^ 64 = 18446744073709551616 := by decide
 rw [<- h] at *
 exact Nat.or_lt_two_pow ha hb
theorem bits_add {ν : Int -> Nat} {nw : Nat} {vs : List Int} {ws : List Nat} (h : Bits ν nw vs ws) (x : Int) (hx : ν x < 64 * nw) : Bits ν nw (vs ++ [x]) (addW ws (ν x)) := by
 have hl := h.len
 obtain ⟨q, hq⟩ : ∃ q, ν x / 64 = q := ⟨_, rfl⟩
 obtain ⟨k, hk⟩ : ∃ k, ν x % 64 = k := ⟨_, rfl⟩
 have hqk : ν x = 64 * q + k := by omega
 have hk64 : k < 64 := by omega
 have hqn : q < ws.length := by omega
 have e : addW ws (ν x) = ws.set q (ws[q] ||| 2 ^ k) := by
  unfold addW
  rw [hq, hk]
  simp [hqn]
 rw [e]
 refine ⟨by simp [hl], fun n hn => ?_, fun i hi j hj => ?_⟩
 ·rcases List.mem_or_eq_of_mem_set hn with hn | hn
  ·exact h.lt n hn
  ·subst hn
   refine or_lt (h.lt _ (List.getElem_mem hqn)) ?_
   have h2 : (2 : Nat) ^ k < 2 ^ 64 := Nat.pow_lt_pow_right (by decide) hk64
   have h3 : (2 : Nat) ^ 64 = 18446744073709551616 := by decide
   omega
 ·have hi' : i < ws.length := by simpa using hi
  rw [List.getElem_set]
  have hb := h.bit i hi' j hj
  have main : (∃ y ∈ vs ++ [x], ν y = 64 * i + j) ↔ (∃ y ∈ vs, ν y = 64 * i + j) ∨ (q = i ∧ k = j) := by
   constructor
   ·rintro ⟨y, hy, e⟩
    rcases List.mem_append.1 hy with hy | hy
    ·exact .inl ⟨y, hy, e⟩
    ·have : y = x := by simpa using hy
     subst this
     exact .inr (by omega)
   ·rintro (⟨y, hy, e⟩ | ⟨e1, e2⟩)
    ·exact ⟨y, List.mem_append_left _ hy, e⟩
    ·exact ⟨x, by simp, by omega⟩
  rw [main, <- hb]
  by_cases e1 : q = i
  ·subst e1
   rw [if_pos rfl, Nat.testBit_or, Nat.testBit_two_pow, Bool.or_eq_true, decide_eq_true_eq]
   simp
  ·rw [if_neg e1]
   simp [e1]
theorem bits_join {ν : Int -> Nat} {nw : Nat} {vs us : List Int} {ws us' : List Nat} (h : Bits ν nw vs ws) (k : Bits ν nw us us') : Bits ν nw (vs ++ us) (joinW ws us') := by
 have hl : ws.length = us'.length := h.len.trans k.len.symm
 refine ⟨by rw [joinW_len hl, h.len], fun n hn => ?_, fun i hi j hj => ?_⟩
 ·obtain ⟨i, hi, rfl⟩ := List.getElem_of_mem hn
  have hi' : i < ws.length := by rw [joinW_len hl] at hi; exact hi
  simp only [joinW, List.getElem_zipWith]
  exact or_lt (h.lt _ (List.getElem_mem hi')) (k.lt _ (List.getElem_mem (by omega)))
 ·have hi' : i < ws.length := by rw [joinW_len hl] at hi; exact hi
  simp only [joinW, List.getElem_zipWith, Nat.testBit_or, Bool.or_eq_true]
  rw [h.bit i hi' j hj, k.bit i (by omega) j hj]
  constructor
  ·rintro (⟨x, hx, e⟩ | ⟨x, hx, e⟩)
   ·exact ⟨x, List.mem_append_left _ hx, e⟩
   ·exact ⟨x, List.mem_append_right _ hx, e⟩
  ·rintro ⟨x, hx, e⟩
   rcases List.mem_append.1 hx with hx | hx
   ·exact .inl ⟨x, hx, e⟩
   ·exact .inr ⟨x, hx, e⟩
theorem Tryz.info83 : (Tryz.prog.info? 83).map (fun i => (i.zero, i.size, i.bytes)) = some (some (.int .i16 0), 1, 2) := by kernel_rfl
theorem cloneN_any (b q c : Nat) (xs : List Nat) (hl : xs.length <= 16) (W : World) (hb : b < W.heap.size) (hx : ∀ i (h : i < xs.length), W.cell? ⟨b, q + i, none⟩ = some (fi xs[i])) :
  Calls Tryz.prog 123 #[.slice (some ⟨b, q, none⟩) xs.length c] W fun e W' => ∃ v, e = .returned v ∧ RowB fi 83 W' v xs ∧ Below W.heap.size W W' := by
 obtain ⟨i0, hi0, hz0, hz1, hz2⟩ := info_parts Tryz.info83
 have heq : ∀ (n c : Nat) (w : World), Sem.run Tryz.prog (binOp BinOp.eql 125 (Value.slice (some ⟨b, q, none⟩) n c) (Value.slice none 0 0)) w = .ok (.bool false) w := fun n c w => by kernel_rfl
 have hA := below_box W (.cells #[] 83)
 have hrow : (W.alloc (.cells #[] 83)).ownsRow W.heap.size 83 1 (.slice (some ⟨W.heap.size, 0, none⟩) 0 0) 0 [] := ⟨rfl, .inr ⟨W.heap.size, 0, #[], rfl, Nat.le_refl _, (MapKept.heap_alloc W _).1, Nat.le_refl _, by decide, rfl, rfl⟩⟩
 have hx' : ∀ j u, (xs.map fi)[j]? = some u -> (W.alloc (.cells #[] 83)).cell? (Addr.add ⟨b, q, none⟩ j) = some u := fun j u hj => by
  rw [Addr.add_mid]
  have hjl : j < xs.length := by have := (List.getElem?_eq_some_iff.1 hj).1; simpa using this
  rw [List.getElem?_map, List.getElem?_eq_getElem hjl] at hj
  rw [<- hj]
  exact kc hA hb (hx j hjl)
 have HA : Hid (Below W.heap.size W (W.alloc (.cells #[] 83))) := hA
 clear hx hA
 go_enter Tryz.func123, Tryz.ntmps123
 go_wp2_with (first
  | (at_builtin; refine wpList_append_own_at _ rfl _ _ 125 rfl W.heap.size 83 i0 _ 1 2 Tryz.underlying125 hi0 hz0 hz1 hz2 rfl (by decide) _ _ _ rfl hrow ⟨b, q, none⟩ xs.length c (xs.map fi) rfl (by simp) hx' (by intro u hu; obtain ⟨n, _, rfl⟩ := List.mem_map.1 hu; rfl) (by unfold maxLen; omega) (by omega) (by simp) ?_; intro v' w3 hown' hg3 hnil3 hat3))
 go_ret
 have hbw : Below W.heap.size W w3 := HA.out.grown hg3 (by simp) (fun k e => by
  have : k = W.heap.size := by simpa [Act.eval, Value.ownBlock] using e.symm
  omega)
 refine ⟨v', rfl, ?_, hbw⟩
 rcases hown'.2 with ⟨e, h0⟩ | ⟨g, cap, cur, e, hbb, hg, hc, hm, hsz, ht⟩
 ·have := (hnil3.1 e).1
  cases this
 ·refine ⟨g, cur, cap, by rw [e, Nat.zero_add], by omega, by unfold maxLen at hm; omega, hg, fun i hi => ?_⟩
  have h1 := congrArg (fun l => l[i]?) ht
  simp only [List.nil_append, List.getElem?_map, List.getElem?_eq_getElem hi, Option.map_some] at h1
  rw [List.getElem?_take, if_pos (by omega)] at h1
  simpa using h1
theorem nd_cells {W : World} {b : Nat} {rk : Nat} {v : Int} {ids : List Nat} (h : W.heap[b]? = some (.cells (ndC rk v ids).toArray 123 (0, 0))) (h16 : ids.length <= 16) :
  W.cell? ⟨b, 0, none⟩ = some (.int .i64 (rk : Int)) ∧ W.cell? ⟨b, 1, none⟩ = some (.int .i64 v) ∧ ∀ i (hi : i < ids.length), W.cell? ⟨b, 2 + i, none⟩ = some (fi ids[i]) := by
 refine ⟨?_, ?_, fun i hi => ?_⟩
 ·rw [cell_of_row _ _ _ _ 123 (0, 0) h]; rfl
 ·rw [cell_of_row _ _ _ _ 123 (0, 0) h]; rfl
 ·rw [cell_of_row _ _ _ _ 123 (0, 0) h]
  have := pad_at ids i (by omega)
  simp only [ndC, List.getElem?_toArray]
  rw [List.getElem?_append_right (by simp), show 2 + i - [Value.int .i64 (rk : Int), Value.int .i64 v].length = i by simp, this, List.getD_eq_getElem?_getD, List.getElem?_eq_getElem hi]
  rfl
structure Tp (ρ : ByteArray × Nat -> Nat) (ν : Int -> Nat) (nw : Nat) (W : World) (b q : Nat) (t : T) (sV : Value) (ws : List Nat) : Prop where
 lt : b < W.heap.size
 c3 : W.cell? ⟨b, q + 3, none⟩ = some (.int .i64 (t.top ρ : Int))
 c4 : W.cell? ⟨b, q + 4, none⟩ = some sV
 rv : RowAt fu W sV ws
 bt : Bits ν nw t.vs ws
theorem Tp.keep {ρ : ByteArray × Nat -> Nat} {ν : Int -> Nat} {nw : Nat} {W W' : World} {b q : Nat} {t : T} {sV : Value} {ws : List Nat} (h : Tp ρ ν nw W b q t sV ws) (hb : Below W.heap.size W W') : Tp ρ ν nw W' b q t sV ws :=
 ⟨Nat.lt_of_lt_of_le h.lt hb.size, kc hb h.lt h.c3, kc hb h.lt h.c4, h.rv.keep hb (Nat.le_refl _), h.bt⟩
structure Rd (ρ : ByteArray × Nat -> Nat) (V : List Int) (lb br bv bn : Nat) (pa : Option Addr) (pn pc : Nat) (ids : List Nat) (ts : List T) (W : World) : Prop where
 lt : lb < W.heap.size
 l0 : W.cell? ⟨lb, 0, none⟩ = some (.map (some br))
 l1 : W.cell? ⟨lb, 1, none⟩ = some (.map (some bv))
 l3 : W.cell? ⟨lb, 3, none⟩ = some (.slice pa pn pc)
 mv : MapIs W 3 bv (vmap V) V.length
 pt : ∀ i (h : i < ids.length) (h' : i < ts.length), ids[i] < pn ∧ ∃ b o sV ws, pa = some ⟨b, o, none⟩ ∧ Tp ρ (fun x => (ixI V x).getD 0) ((V.length + 63) / 64) W b (o + ids[i] * 5) ts[i] sV ws
theorem Rd.keep {ρ : ByteArray × Nat -> Nat} {V : List Int} {lb br bv bn : Nat} {pa : Option Addr} {pn pc : Nat} {ids : List Nat} {ts : List T} {W W' : World} (h : Rd ρ V lb br bv bn pa pn pc ids ts W) (hb : Below W.heap.size W W') : Rd ρ V lb br bv bn pa pn pc ids ts W' := by
 refine ⟨Nat.lt_of_lt_of_le h.lt hb.size, kc hb h.lt h.l0, kc hb h.lt h.l1, kc hb h.lt h.l3, h.mv.same (hb.block _ h.mv.lt), fun i hi hi' => ?_⟩
 obtain ⟨h1, b, o, sV, ws, e, ht⟩ := h.pt i hi hi'
 exact ⟨h1, b, o, sV, ws, e, ht.keep hb⟩
theorem take_mk {P : Program} {md : Region.Mode} {ops : Array Oper} {Q : Exit -> Act -> World -> Prop} {S : World -> Prop} (i : Nat) (v : Value) {d : Option Tmp} {op : Op} {ty : TypeId} {pos : String} {aft} {gd} {fuel : Nat} {listed : Array Bool} {a : Act} {w : World} (hi : ops[i]? = some ⟨d, op, ty, pos, aft, gd⟩)
  (hs : Region.noSelect ops = true) (hf : Region.free md ops listed i = true) (hr : (Region.ready md ops listed).contains i = true)
  (hQ : ∀ c a w, Q (.panic c) (a.put d v) w -> Q (.panic c) a w) (hy : YieldsIf P ops S ⟨d, op, ty, pos, aft, gd⟩ v a) (hS : S w)
  (h : wpAnyH P md ops Q S fuel (listed.setIfInBounds i true) (a.put d v) w) : wpAnyH P md ops Q S (fuel + 1) listed a w :=
 wpAnyH_take hi hs hf hr hQ hy hS h
theorem Tryz.info129 : (Tryz.prog.info? 129).map (·.size) = some 5 := by kernel_rfl
theorem store_part (Y : World) (bx : Nat) (z0 z1 z2 z3 z4 c0 c1 c2 c3 c4 : Value) (h : Y.heap[bx]? = some (.cells #[z0, z1, z2, z3, z4] 129 (0, 0))) (h1 : ∀ u ∈ [c0, c1, c2, c3, c4], u.oneCell' = true) :
  ∃ Y', (Instr.storeAt 129 (.pointer (some ⟨bx, 0, none⟩)) (.agg #[c0, c1, c2, c3, c4])).run Tryz.prog Y = .ok () Y' ∧ Y'.heap[bx]? = some (.cells #[c0, c1, c2, c3, c4] 129 (0, 0)) ∧ Only [bx] Y Y' := by
 refine ⟨_, run_storeAt_mid (P := Tryz.prog) Y bx 0 129 #[c0, c1, c2, c3, c4] (fun j hj => ?_) Tryz.info129 (all_oneCell_toArray h1), ?_, ?_⟩
 ·have hj5 : j < 5 := hj
  have : j = 0 ∨ j = 1 ∨ j = 2 ∨ j = 3 ∨ j = 4 := by omega
  rcases this with rfl | rfl | rfl | rfl | rfl <;> simp [World.cell?, World.frozen?, h]
 ·have q0 := Go.heap_setCell_same Y bx 0 _ 129 c0 h
  have q1 := Go.heap_setCell_same _ bx 1 _ 129 c1 q0
  have q2 := Go.heap_setCell_same _ bx 2 _ 129 c2 q1
  have q3 := Go.heap_setCell_same _ bx 3 _ 129 c3 q2
  have q4 := Go.heap_setCell_same _ bx 4 _ 129 c4 q3
  simpa [World.setCells] using q4
 ·have o0 := only_setCell Y bx 0 c0
  have o1 := only_setCell (Y.setCell ⟨bx, 0, none⟩ c0) bx 1 c1
  have o2 := only_setCell ((Y.setCell ⟨bx, 0, none⟩ c0).setCell ⟨bx, 1, none⟩ c1) bx 2 c2
  have o3 := only_setCell (((Y.setCell ⟨bx, 0, none⟩ c0).setCell ⟨bx, 1, none⟩ c1).setCell ⟨bx, 2, none⟩ c2) bx 3 c3
  have o4 := only_setCell ((((Y.setCell ⟨bx, 0, none⟩ c0).setCell ⟨bx, 1, none⟩ c1).setCell ⟨bx, 2, none⟩ c2).setCell ⟨bx, 3, none⟩ c3) bx 4 c4
  have := (((o0.trans o1 (by simp)).trans o2 (by simp)).trans o3 (by simp)).trans o4 (by simp)
  simpa [World.setCells] using this
theorem wp_store_run {op : Oper} {a : Act} {w w' : World} {K : Act -> World -> Prop} {Q : Exit -> Act -> World -> Prop} (ty : TypeId) (x y : Operand) (ho : op.op = .store ty x y) (xv yv : Value) (hx : a.eval x = xv) (hy : a.eval y = yv)
  (hrun : (Instr.storeAt ty xv yv).run Tryz.prog w = .ok () w') (h : K (a.put op.dst undef) w') : Oper.wp Tryz.prog op a w K Q := by
 unfold Oper.wp execOp
 simp only [ho, hx, hy, Sem.run_bind, hrun, Result.andThen_ok, Sem.run_pure]
 exact h
theorem wpList_store_run {ops : Array Oper} {rest : List Oper} {op : Oper} {a : Act} {w w' : World} {Q : Exit -> Act -> World -> Prop} (hgd : op.guard = none) (ty : TypeId) (x y : Operand) (ho : op.op = .store ty x y) (xv yv : Value) (hx : a.eval x = xv) (hy : a.eval y = yv)
  (hrun : (Instr.storeAt ty xv yv).run Tryz.prog w = .ok () w') (h : wpList Tryz.prog ops Q rest (a.put op.dst undef) w') : wpList Tryz.prog ops Q (op :: rest) a w :=
 wpList_plain hgd fun _ hK => wp_store_run ty x y ho xv yv hx hy hrun (hK _ _ h)
structure Bx (w : World) (ids : List Nat) (own rk nw bx : Nat) (sA : Value) (bs : Nat) (W : World) : Prop where
 bel : Below w.heap.size w W
 box : W.heap[bx]? = some (.cells #[fi own, .int .i64 (rk : Int), sA, .int .i64 (rk : Int), setV bs nw] 129 (0, 0))
 low : w.heap.size <= bx
 ra : RowB fi 83 W sA ids
 st : SetAt W bs (List.replicate nw 0)
 lo : w.heap.size <= bs
structure Tl (w : World) (ids : List Nat) (own rk nw bx : Nat) (sA : Value) (bs tp : Nat) (ws : List Nat) (W : World) : Prop where
 bel : Below w.heap.size w W
 box : W.heap[bx]? = some (.cells #[fi own, .int .i64 (rk : Int), sA, .int .i64 (tp : Int), setV bs nw] 129 (0, 0))
 low : w.heap.size <= bx
 ra : RowB fi 83 W sA ids
 st : SetAt W bs ws
 lo : w.heap.size <= bs
theorem Bx.tl {w : World} {ids : List Nat} {own rk nw bx : Nat} {sA : Value} {bs : Nat} {W : World} (h : Bx w ids own rk nw bx sA bs W) : Tl w ids own rk nw bx sA bs rk (List.replicate nw 0) W := ⟨h.bel, h.box, h.low, h.ra, h.st, h.lo⟩
section
variable {w : World} {ids : List Nat} {own rk nw bx : Nat} {sA : Value} {bs tp : Nat} {ws : List Nat} {W W' : World}
theorem Tl.below (h : Tl w ids own rk nw bx sA bs tp ws W) (hb : Below W.heap.size W W') : Tl w ids own rk nw bx sA bs tp ws W' :=
 ⟨h.bel.trans (hb.mono h.bel.size), (hb.block _ (Array.getElem?_eq_some_iff.1 h.box).1).trans h.box, h.low, h.ra.below hb, (hb.block _ (Array.getElem?_eq_some_iff.1 h.st).1).trans h.st, h.lo⟩
theorem Tl.ne (h : Tl w ids own rk nw bx sA bs tp ws W) : bx ≠ bs := fun e => by
 have h1 := h.box
 have h2 : W.heap[bs]? = _ := h.st
 rw [e, h2] at h1
 simp only [Option.some.injEq, Obj.cells.injEq] at h1
 exact absurd h1.2.1 (by decide)
theorem Tl.setS (h : Tl w ids own rk nw bx sA bs tp ws W) {ws' : List Nat} (hs : SetAt W' bs ws') (ho : Only [bs] W W') : Tl w ids own rk nw bx sA bs tp ws' W' := by
 refine ⟨h.bel.trans (ho.below h.bel.size (by simp; exact h.lo)), (ho.block _ (Array.getElem?_eq_some_iff.1 h.box).1 (by simp; exact h.ne)).trans h.box, h.low, h.ra.keep (fun b cur hb => ho.block b (Array.getElem?_eq_some_iff.1 hb).1 ?_), hs, h.lo⟩
 simp
 intro e
 have h2 : W.heap[bs]? = _ := h.st
 rw [e, h2] at hb
 simp only [Option.some.injEq, Obj.cells.injEq] at hb
 exact absurd hb.2.1 (by decide)
theorem Tl.setT (h : Tl w ids own rk nw bx sA bs tp ws W) (n : Nat) : Tl w ids own rk nw bx sA bs n ws (W.setCell ⟨bx, 3, none⟩ (.int .i64 (n : Int))) := by
 have ho := only_setCell W bx 3 (.int .i64 (n : Int))
 have hb := Go.heap_setCell_same W bx 3 _ 129 (.int .i64 (n : Int)) h.box
 refine ⟨h.bel.trans (ho.below h.bel.size (by simp; exact h.low)), by simpa using hb, h.low, h.ra.keep (fun b cur hb => ho.block b (Array.getElem?_eq_some_iff.1 hb).1 ?_), (ho.block _ (Array.getElem?_eq_some_iff.1 h.st).1 (by simp; exact fun e => h.ne e.symm)).trans h.st, h.lo⟩
 simp
 intro e
 rw [e, h.box] at hb
 simp only [Option.some.injEq, Obj.cells.injEq] at hb
 exact absurd hb.2.1 (by decide)
theorem Tl.cells (h : Tl w ids own rk nw bx sA bs tp ws W) : (W.cell? ⟨bx, 0, none⟩ = some (fi own) ∧ W.cell? ⟨bx, 1, none⟩ = some (.int .i64 (rk : Int)) ∧ W.cell? ⟨bx, 2, none⟩ = some sA ∧ W.cell? ⟨bx, 3, none⟩ = some (.int .i64 (tp : Int)) ∧ W.cell? ⟨bx, 4, none⟩ = some (setV bs nw)) ∧ W.frozen? ⟨bx, 3, none⟩ = false := by
 have hb := h.box
 refine ⟨⟨?_, ?_, ?_, ?_, ?_⟩, ?_⟩ <;> simp [World.cell?, World.frozen?, hb]
end
theorem Tryz.alen95 : Tryz.prog.arrayLen 121 = 16 := by kernel_rfl
theorem Tryz.elem95 : Tryz.prog.elem 121 = 83 := by kernel_rfl
theorem run_slice95 (b n : Nat) (hn : n <= 16) (X : World) : Sem.run Tryz.prog (Instr.sliceAt 121 (.pointer (some ⟨b, 2, none⟩)) none (some (.int .i64 (n : Int))) none) X = .ok (.slice (some ⟨b, 2, none⟩) n 16) X := by
 have h := run_sliceAt_array_h (P := Tryz.prog) X 121 ⟨b, 2, none⟩ (by rw [Tryz.alen95, Tryz.elem95]; exact Tryz.underlying121) .i64 (n : Int) (by omega) (by rw [Tryz.alen95]; omega)
 rw [h, Tryz.elem95, Tryz.alen95]
 have hs := Tryz.sizeOf83 X
 rw [hs]
 simp [Result.andThen, slicedAt, Addr.add]
theorem built_any (ρ : ByteArray × Nat -> Nat) (V : List Int) (lb br bv bn : Nat) (pa : Option Addr) (pn pc : Nat) (own rk : Nat) (v : Int) (ids : List Nat) (ts : List T) (W : World) (hR : Rd ρ V lb br bv bn pa pn pc ids ts W) (hl : ids.length = ts.length) (h16 : ids.length <= 16) (hV : V.length <= 100000) (hv : 0 <= v ∧ v < 1000000) (hvV : rk = 0 -> v ∈ V ∧ ids = []) :
  Calls Tryz.prog 83 #[.pointer (some ⟨lb, 0, none⟩), fi own, ndV rk v ids, .int .i64 (ids.length : Int)] W fun e W' => ∃ sA bs ws, e = .returned (.agg #[fi own, .int .i64 (rk : Int), sA, .int .i64 (((ts.map (T.top ρ)).foldl max rk : Nat) : Int), setV bs ws.length]) ∧ RowB fi 83 W' sA ids ∧ RowB fu 194 W' (setV bs ws.length) ws ∧ Bits (fun x => (ixI V x).getD 0) ((V.length + 63) / 64) ((if rk = 0 then [v] else []) ++ (ts.map T.vs).flatten) ws ∧ Below W.heap.size W W' := by
 obtain ⟨cs, hcs⟩ : ∃ cs, ndC rk v ids = cs := ⟨_, rfl⟩
 have hcl : cs.length = 18 := by rw [<- hcs]; exact ndC_len _ _ _
 obtain ⟨W1, e1⟩ : ∃ X, W.alloc (.cells (ndC rk v ids).toArray 123) = X := ⟨_, rfl⟩
 obtain ⟨W2, e2⟩ : ∃ X, W1.alloc (.cells #[.int .i16 0, .int .i64 0, .slice none 0 0, .int .i64 0, .slice none 0 0] 129) = X := ⟨_, rfl⟩
 have s1 : W1.heap.size = W.heap.size + 1 := by rw [<- e1]; simp
 have s2 : W2.heap.size = W.heap.size + 2 := by rw [<- e2]; simp [s1]
 have b1 : Below W.heap.size W W1 := by rw [<- e1]; exact below_box W _
 have b2 : Below W1.heap.size W1 W2 := by rw [<- e2]; exact below_box W1 _
 have b02 := b1.trans (b2.mono (by omega))
 have hn1 : W1.heap[W.heap.size]? = some (.cells (ndC rk v ids).toArray 123 (0, 0)) := by rw [<- e1]; exact (MapKept.heap_alloc W _).1
 have hn2 : W2.heap[W.heap.size]? = some (.cells (ndC rk v ids).toArray 123 (0, 0)) := (b2.block _ (by omega)).trans hn1
 have hr2 : W2.heap[W.heap.size + 1]? = some (.cells #[.int .i16 0, .int .i64 0, .slice none 0 0, .int .i64 0, .slice none 0 0] 129 (0, 0)) := by
  have := (MapKept.heap_alloc W1 (.cells #[.int .i16 0, .int .i64 0, .slice none 0 0, .int .i64 0, .slice none 0 0] 129)).1
  rw [e2, s1] at this
  exact this
 have hR2 := hR.keep b02
 have hsl := run_slice95 W.heap.size ids.length h16
 have HL : Hid (ids.length = ts.length ∧ (rk = 0 -> v ∈ V ∧ ids = []) ∧ Below W.heap.size W W2 ∧ W2.heap.size = W.heap.size + 2) := ⟨hl, hvV, b02, s2⟩
 clear hl hvV
 obtain ⟨n0, n1, n2⟩ := nd_cells hn2 h16
 rw [show ndV rk v ids = .agg cs.toArray by rw [<- hcs]]
 rw [hcs] at e1
 go_enter Tryz.func83, Tryz.ntmps83
 go_wp2
 have hd : Below W2.heap.size W2 W2.drew := (Below.refl _ W2).drew
 have hsd : W2.drew.heap.size = W2.heap.size := rfl
 have q0 : ∀ X, Below W2.drew.heap.size W2.drew X -> X.cell? ⟨W.heap.size, 0, none⟩ = some (.int .i64 (rk : Int)) := fun X hX => kc (hd.trans hX) (by omega) n0
 have ql0 : ∀ X, Below W2.drew.heap.size W2.drew X -> X.cell? ⟨lb, 0, none⟩ = some (.map (some br)) := fun X hX => kc (hd.trans hX) hR2.lt hR2.l0
 have ql1 : ∀ X, Below W2.drew.heap.size W2.drew X -> X.cell? ⟨lb, 1, none⟩ = some (.map (some bv)) := fun X hX => kc (hd.trans hX) hR2.lt hR2.l1
 refine wp_region_held_drew (S := fun X => Below W2.drew.heap.size W2.drew X) (by kernel_rfl) (Below.refl _ _) (fun hHeld => ?_)
 generalize W2.drew = Wd at *
 refine take_mk 0 (fi own) rfl (by kernel_rfl) (by kernel_rfl) (by kernel_rfl) (fun _ _ _ h => h) (Or.inl ⟨by rfl, fun X hX => by go_simp⟩) (by assumption) ?_
 simp only [Act.put, List.setIfInBounds_toArray, List.set_cons_zero, List.set_cons_succ]
 refine take_mk 1 (.pointer (some ⟨W.heap.size, 0, none⟩)) rfl (by kernel_rfl) (by kernel_rfl) (by kernel_rfl) (fun _ _ _ h => h) (Or.inl ⟨by rfl, fun X hX => by go_simp⟩) (by assumption) ?_
 simp only [Act.put, List.setIfInBounds_toArray, List.set_cons_zero, List.set_cons_succ]
 refine take_mk 2 (.int .i64 (rk : Int)) rfl (by kernel_rfl) (by kernel_rfl) (by kernel_rfl) (fun _ _ _ h => h) (Or.inl ⟨by rfl, fun X hX => by have := q0 X hX; go_simp⟩) (by assumption) ?_
 simp only [Act.put, List.setIfInBounds_toArray, List.set_cons_zero, List.set_cons_succ]
 refine take_mk 3 (.pointer (some ⟨W.heap.size, 2, none⟩)) rfl (by kernel_rfl) (by kernel_rfl) (by kernel_rfl) (fun _ _ _ h => h) (Or.inl ⟨by rfl, fun X hX => by go_simp⟩) (by assumption) ?_
 simp only [Act.put, List.setIfInBounds_toArray, List.set_cons_zero, List.set_cons_succ]
 refine take_mk 4 (.int .i64 (ids.length : Int)) rfl (by kernel_rfl) (by kernel_rfl) (by kernel_rfl) (fun _ _ _ h => h) (Or.inl ⟨by rfl, fun X hX => by go_simp⟩) (by assumption) ?_
 simp only [Act.put, List.setIfInBounds_toArray, List.set_cons_zero, List.set_cons_succ]
 refine take_mk 5 (.slice (some ⟨W.heap.size, 2, none⟩) ids.length 16) rfl (by kernel_rfl) (by kernel_rfl) (by kernel_rfl) (fun _ _ _ h => h) (Or.inl ⟨by rfl, fun X hX => by go_simp⟩) (by assumption) ?_
 simp only [Act.put, List.setIfInBounds_toArray, List.set_cons_zero, List.set_cons_succ]
 refine take_mk 7 (.pointer (some ⟨W.heap.size, 0, none⟩)) rfl (by kernel_rfl) (by kernel_rfl) (by kernel_rfl) (fun _ _ _ h => h) (Or.inl ⟨by rfl, fun X hX => by go_simp⟩) (by assumption) ?_
 simp only [Act.put, List.setIfInBounds_toArray, List.set_cons_zero, List.set_cons_succ]
 refine take_mk 8 (.int .i64 (rk : Int)) rfl (by kernel_rfl) (by kernel_rfl) (by kernel_rfl) (fun _ _ _ h => h) (Or.inl ⟨by rfl, fun X hX => by have := q0 X hX; go_simp⟩) (by assumption) ?_
 simp only [Act.put, List.setIfInBounds_toArray, List.set_cons_zero, List.set_cons_succ]
 refine take_mk 9 (.pointer (some ⟨lb, 0, none⟩)) rfl (by kernel_rfl) (by kernel_rfl) (by kernel_rfl) (fun _ _ _ h => h) (Or.inl ⟨by rfl, fun X hX => by go_simp⟩) (by assumption) ?_
 simp only [Act.put, List.setIfInBounds_toArray, List.set_cons_zero, List.set_cons_succ]
 refine take_mk 10 (.pointer (some ⟨lb, 0, none⟩)) rfl (by kernel_rfl) (by kernel_rfl) (by kernel_rfl) (fun _ _ _ h => h) (Or.inl ⟨by rfl, fun X hX => by go_simp⟩) (by assumption) ?_
 simp only [Act.put, List.setIfInBounds_toArray, List.set_cons_zero, List.set_cons_succ]
 refine take_mk 11 (.pointer (some ⟨lb, 0, none⟩)) rfl (by kernel_rfl) (by kernel_rfl) (by kernel_rfl) (fun _ _ _ h => h) (Or.inl ⟨by rfl, fun X hX => by go_simp⟩) (by assumption) ?_
 simp only [Act.put, List.setIfInBounds_toArray, List.set_cons_zero, List.set_cons_succ]
 refine take_mk 12 (.agg #[.map (some br), .map (some bv)]) rfl (by kernel_rfl) (by kernel_rfl) (by kernel_rfl) (fun _ _ _ h => h) (Or.inl ⟨by rfl, fun X hX => by have := ql0 X hX; have := ql1 X hX; go_simp⟩) (by assumption) ?_
 simp only [Act.put, List.setIfInBounds_toArray, List.set_cons_zero, List.set_cons_succ]
 have h64 : ∀ X, Below Wd.heap.size Wd X -> Calls Tryz.prog 123 #[.slice (some ⟨W.heap.size, 2, none⟩) ids.length 16] X fun e X' => ∃ sA, e = .returned sA ∧ RowB fi 83 X' sA ids ∧ Below X.heap.size X X' := fun X hX => cloneN_any W.heap.size 2 16 ids h16 X (by have := hX.size; omega) (fun i hi => kc (hd.trans (hX.mono (Nat.le_of_eq hsd.symm))) (by omega) (n2 i hi))
 have h65 : ∀ X, Below Wd.heap.size Wd X -> Calls Tryz.prog 124 #[.agg #[.map (some br), .map (some bv)]] X fun e X' => ∃ bs, e = .returned (setV bs ((V.length + 63) / 64)) ∧ SetAt X' bs (List.replicate ((V.length + 63) / 64) 0) ∧ X.heap.size <= bs ∧ Below X.heap.size X X' := fun X hX => emptySet_any br bv V X ((hR2.keep (hd.trans (hX.mono (Nat.le_of_eq hsd.symm)))).mv) hV
 refine wpAnyH_ready (rs := [6, 15]) (by kernel_rfl) (by simp) (AllReadyH.cons (o := ⟨_, _, _, _, _, _⟩) rfl (fun K hK => ?clone) (AllReadyH.cons (o := ⟨_, _, _, _, _, _⟩) rfl (fun K hK => ?alloc0) AllReadyH.nil))
 case' clone =>
  rw [if_pos (by rfl)]
  go_simp
  refine (h64 _ hHeld).mono ?_
  rintro e X6 ⟨sA, rfl, hra, hb6⟩
  obtain ⟨sb, scur, scc, rfl, _, _, _, _⟩ := id hra
  refine hK.out _ _ (hHeld.trans (hb6.mono hHeld.size)) (fun hHeld6 => ?_)
  clear hK K
  try simp only [Act.put, List.setIfInBounds_toArray, List.set_cons_zero, List.set_cons_succ]
  refine wpAnyH_ready (rs := [13, 15]) (by kernel_rfl) (by simp) (AllReadyH.cons (o := ⟨_, _, _, _, _, _⟩) rfl (fun K hK => ?empty) (AllReadyH.cons (o := ⟨_, _, _, _, _, _⟩) rfl (fun K hK => ?alloc1) AllReadyH.nil))
 case' empty =>
  rw [if_pos (by rfl)]
  go_simp
  refine (h65 _ hHeld6).mono ?_
  rintro e X7 ⟨bs, rfl, hst, hlo, hb7⟩
  refine hK.out _ _ (hHeld6.trans (hb7.mono hHeld6.size)) (fun hHeld7 => ?_)
  clear hK K
  try simp only [Act.put, List.setIfInBounds_toArray, List.set_cons_zero, List.set_cons_succ]
  refine take_mk 14 (.agg #[fi own, .int .i64 (rk : Int), .slice (some ⟨sb, 0, none⟩) ids.length scc, .int .i64 (rk : Int), setV bs ((V.length + 63) / 64)]) rfl (by kernel_rfl) (by kernel_rfl) (by kernel_rfl) (fun _ _ _ h => h) (Or.inl ⟨by rfl, fun X hX => by go_simp⟩) (by assumption) ?_
  try simp only [Act.put, List.setIfInBounds_toArray, List.set_cons_zero, List.set_cons_succ]
  refine wpAnyH_ready (rs := [15]) (by kernel_rfl) (by simp) (AllReadyH.cons (o := ⟨_, _, _, _, _, _⟩) rfl (fun K hK => ?_) AllReadyH.nil)
  rw [if_pos (by rfl)]
  go_simp
  obtain ⟨XA, eA⟩ : ∃ X, X7.alloc (.cells #[.int .i16 0, .int .i64 0, .slice none 0 0, .int .i64 0, .slice none 0 0] 129) = X := ⟨_, rfl⟩
  have hbA : Below X7.heap.size X7 XA := by rw [<- eA]; exact below_box _ _
  have hxA : XA.heap[X7.heap.size]? = some (.cells #[.int .i16 0, .int .i64 0, .slice none 0 0, .int .i64 0, .slice none 0 0] 129 (0, 0)) := by rw [<- eA]; exact (MapKept.heap_alloc _ _).1
  obtain ⟨bx, hbx⟩ : ∃ bx, X7.heap.size = bx := ⟨_, rfl⟩
  refine hK.out _ _ (hHeld7.trans ((below_box _ _).mono hHeld7.size)) (fun hHeldA => ?_)
  rw [eA] at hHeldA ⊢
  rw [hbx] at hxA ⊢
  clear hK K
  try simp only [Act.put, List.setIfInBounds_toArray, List.set_cons_zero, List.set_cons_succ]
  have hxZ := hxA
  have hraZ := (hra.below hb7).below hbA
  have hstZ : SetAt XA bs (List.replicate ((V.length + 63) / 64) 0) := (hbA.block bs (Array.getElem?_eq_some_iff.1 hst).1).trans hst
  have hsz7 := hHeld7.size
  have hsz6 := hHeld6.size
  refine wpAnyH_ready (rs := [16]) (by kernel_rfl) (by simp) (AllReadyH.cons (o := ⟨_, _, _, _, _, _⟩) rfl (fun K hK => ?_) AllReadyH.nil)
  rw [if_pos (by rfl)]
  obtain ⟨Wf, hrun, hbf, hof⟩ := store_part XA bx _ _ _ _ _ (fi own) (.int .i64 (rk : Int)) (.slice (some ⟨sb, 0, none⟩) ids.length scc) (.int .i64 (rk : Int)) (setV bs ((V.length + 63) / 64)) hxZ (by intro u hu; simp only [List.mem_cons, List.not_mem_nil, or_false] at hu; rcases hu with rfl | rfl | rfl | rfl | rfl <;> rfl)
  refine wp_store_run 129 _ _ rfl (.pointer (some ⟨bx, 0, none⟩)) (.agg #[fi own, .int .i64 (rk : Int), .slice (some ⟨sb, 0, none⟩) ids.length scc, .int .i64 (rk : Int), setV bs ((V.length + 63) / 64)]) rfl rfl hrun ?_
  have hbelf : Below Wd.heap.size Wd Wf := hHeldA.trans (hof.below hHeldA.size (by simp; omega))
  refine hK.out _ _ hbelf (fun _ => ?_)
  clear hK K
  refine wpAnyH_done (by kernel_rfl) ?_ _
  simp only [Act.put]
  have HB : Hid (Bx W2 ids own rk ((V.length + 63) / 64) bx (.slice (some ⟨sb, 0, none⟩) ids.length scc) bs Wf) := by
   have hkeep : ∀ (j : Nat) (cur : Array Value) (ty : TypeId), ty ≠ 129 -> XA.heap[j]? = some (Obj.cells cur ty (0, 0)) -> Wf.heap[j]? = XA.heap[j]? := fun j cur ty hty hj => hof.block j (Array.getElem?_eq_some_iff.1 hj).1 (by
    simp
    intro e
    rw [e, hxZ] at hj
    simp only [Option.some.injEq, Obj.cells.injEq] at hj
    exact hty hj.2.1.symm)
   exact ⟨hd.trans (hbelf.mono (Nat.le_of_eq hsd.symm)), hbf, by omega, hraZ.keep (fun j cur hj => hkeep j cur 83 (by decide) hj), (hkeep bs _ 194 (by decide) hstZ).trans hstZ, by omega⟩
 case' alloc1 =>
  rw [if_pos (by rfl)]
  go_simp
  obtain ⟨XA, eA⟩ : ∃ X, X6.alloc (.cells #[.int .i16 0, .int .i64 0, .slice none 0 0, .int .i64 0, .slice none 0 0] 129) = X := ⟨_, rfl⟩
  have hbA : Below X6.heap.size X6 XA := by rw [<- eA]; exact below_box _ _
  have hxA : XA.heap[X6.heap.size]? = some (.cells #[.int .i16 0, .int .i64 0, .slice none 0 0, .int .i64 0, .slice none 0 0] 129 (0, 0)) := by rw [<- eA]; exact (MapKept.heap_alloc _ _).1
  obtain ⟨bx, hbx⟩ : ∃ bx, X6.heap.size = bx := ⟨_, rfl⟩
  refine hK.out _ _ (hHeld6.trans ((below_box _ _).mono hHeld6.size)) (fun hHeldA => ?_)
  rw [eA] at hHeldA ⊢
  rw [hbx] at hxA ⊢
  clear hK K
  try simp only [Act.put, List.setIfInBounds_toArray, List.set_cons_zero, List.set_cons_succ]
  refine wpAnyH_ready (rs := [13]) (by kernel_rfl) (by simp) (AllReadyH.cons (o := ⟨_, _, _, _, _, _⟩) rfl (fun K hK => ?_) AllReadyH.nil)
  rw [if_pos (by rfl)]
  go_simp
  refine (h65 _ hHeldA).mono ?_
  rintro e X7 ⟨bs, rfl, hst, hlo, hb7⟩
  refine hK.out _ _ (hHeldA.trans (hb7.mono hHeldA.size)) (fun hHeld7 => ?_)
  clear hK K
  try simp only [Act.put, List.setIfInBounds_toArray, List.set_cons_zero, List.set_cons_succ]
  refine take_mk 14 (.agg #[fi own, .int .i64 (rk : Int), .slice (some ⟨sb, 0, none⟩) ids.length scc, .int .i64 (rk : Int), setV bs ((V.length + 63) / 64)]) rfl (by kernel_rfl) (by kernel_rfl) (by kernel_rfl) (fun _ _ _ h => h) (Or.inl ⟨by rfl, fun X hX => by go_simp⟩) (by assumption) ?_
  try simp only [Act.put, List.setIfInBounds_toArray, List.set_cons_zero, List.set_cons_succ]
  have hxZ := (hb7.block bx (Array.getElem?_eq_some_iff.1 hxA).1).trans hxA
  have hraZ := (hra.below hbA).below hb7
  have hstZ := hst
  have hsz7 := hHeld7.size
  have hsz6 := hHeld6.size
  have hszA := hHeldA.size
  refine wpAnyH_ready (rs := [16]) (by kernel_rfl) (by simp) (AllReadyH.cons (o := ⟨_, _, _, _, _, _⟩) rfl (fun K hK => ?_) AllReadyH.nil)
  rw [if_pos (by rfl)]
  obtain ⟨Wf, hrun, hbf, hof⟩ := store_part X7 bx _ _ _ _ _ (fi own) (.int .i64 (rk : Int)) (.slice (some ⟨sb, 0, none⟩) ids.length scc) (.int .i64 (rk : Int)) (setV bs ((V.length + 63) / 64)) hxZ (by intro u hu; simp only [List.mem_cons, List.not_mem_nil, or_false] at hu; rcases hu with rfl | rfl | rfl | rfl | rfl <;> rfl)
  refine wp_store_run 129 _ _ rfl (.pointer (some ⟨bx, 0, none⟩)) (.agg #[fi own, .int .i64 (rk : Int), .slice (some ⟨sb, 0, none⟩) ids.length scc, .int .i64 (rk : Int), setV bs ((V.length + 63) / 64)]) rfl rfl hrun ?_
  have hbelf : Below Wd.heap.size Wd Wf := hHeld7.trans (hof.below hHeld7.size (by simp; omega))
  refine hK.out _ _ hbelf (fun _ => ?_)
  clear hK K
  refine wpAnyH_done (by kernel_rfl) ?_ _
  simp only [Act.put]
  have HB : Hid (Bx W2 ids own rk ((V.length + 63) / 64) bx (.slice (some ⟨sb, 0, none⟩) ids.length scc) bs Wf) := by
   have hkeep : ∀ (j : Nat) (cur : Array Value) (ty : TypeId), ty ≠ 129 -> X7.heap[j]? = some (Obj.cells cur ty (0, 0)) -> Wf.heap[j]? = X7.heap[j]? := fun j cur ty hty hj => hof.block j (Array.getElem?_eq_some_iff.1 hj).1 (by
    simp
    intro e
    rw [e, hxZ] at hj
    simp only [Option.some.injEq, Obj.cells.injEq] at hj
    exact hty hj.2.1.symm)
   exact ⟨hd.trans (hbelf.mono (Nat.le_of_eq hsd.symm)), hbf, by omega, hraZ.keep (fun j cur hj => hkeep j cur 83 (by decide) hj), (hkeep bs _ 194 (by decide) hstZ).trans hstZ, by omega⟩
 case' alloc0 =>
  rw [if_pos (by rfl)]
  go_simp
  obtain ⟨XA, eA⟩ : ∃ X, Wd.alloc (.cells #[.int .i16 0, .int .i64 0, .slice none 0 0, .int .i64 0, .slice none 0 0] 129) = X := ⟨_, rfl⟩
  have hbA : Below Wd.heap.size Wd XA := by rw [<- eA]; exact below_box _ _
  have hxA : XA.heap[Wd.heap.size]? = some (.cells #[.int .i16 0, .int .i64 0, .slice none 0 0, .int .i64 0, .slice none 0 0] 129 (0, 0)) := by rw [<- eA]; exact (MapKept.heap_alloc _ _).1
  obtain ⟨bx, hbx⟩ : ∃ bx, W.heap.size + 2 = bx := ⟨_, rfl⟩
  have hWd : Wd.heap.size = W.heap.size + 2 := by omega
  refine hK.out _ _ (hHeld.trans ((below_box _ _).mono hHeld.size)) (fun hHeldA => ?_)
  rw [eA] at hHeldA ⊢
  rw [hWd, hbx] at hxA
  rw [hbx]
  clear hK K
  try simp only [Act.put, List.setIfInBounds_toArray, List.set_cons_zero, List.set_cons_succ]
  refine wpAnyH_ready (rs := [6]) (by kernel_rfl) (by simp) (AllReadyH.cons (o := ⟨_, _, _, _, _, _⟩) rfl (fun K hK => ?_) AllReadyH.nil)
  rw [if_pos (by rfl)]
  go_simp
  refine (h64 _ hHeldA).mono ?_
  rintro e X6 ⟨sA, rfl, hra, hb6⟩
  obtain ⟨sb, scur, scc, rfl, _, _, _, _⟩ := id hra
  refine hK.out _ _ (hHeldA.trans (hb6.mono hHeldA.size)) (fun hHeld6 => ?_)
  clear hK K
  try simp only [Act.put, List.setIfInBounds_toArray, List.set_cons_zero, List.set_cons_succ]
  refine wpAnyH_ready (rs := [13]) (by kernel_rfl) (by simp) (AllReadyH.cons (o := ⟨_, _, _, _, _, _⟩) rfl (fun K hK => ?_) AllReadyH.nil)
  rw [if_pos (by rfl)]
  go_simp
  refine (h65 _ hHeld6).mono ?_
  rintro e X7 ⟨bs, rfl, hst, hlo, hb7⟩
  refine hK.out _ _ (hHeld6.trans (hb7.mono hHeld6.size)) (fun hHeld7 => ?_)
  clear hK K
  try simp only [Act.put, List.setIfInBounds_toArray, List.set_cons_zero, List.set_cons_succ]
  refine take_mk 14 (.agg #[fi own, .int .i64 (rk : Int), .slice (some ⟨sb, 0, none⟩) ids.length scc, .int .i64 (rk : Int), setV bs ((V.length + 63) / 64)]) rfl (by kernel_rfl) (by kernel_rfl) (by kernel_rfl) (fun _ _ _ h => h) (Or.inl ⟨by rfl, fun X hX => by go_simp⟩) (by assumption) ?_
  try simp only [Act.put, List.setIfInBounds_toArray, List.set_cons_zero, List.set_cons_succ]
  have hxZ6 := (hb6.block bx (Array.getElem?_eq_some_iff.1 hxA).1).trans hxA
  have hxZ := (hb7.block bx (Array.getElem?_eq_some_iff.1 hxZ6).1).trans hxZ6
  have hraZ := hra.below hb7
  have hstZ := hst
  have hsz7 := hHeld7.size
  have hsz6 := hHeld6.size
  have hszA := hHeldA.size
  refine wpAnyH_ready (rs := [16]) (by kernel_rfl) (by simp) (AllReadyH.cons (o := ⟨_, _, _, _, _, _⟩) rfl (fun K hK => ?_) AllReadyH.nil)
  rw [if_pos (by rfl)]
  obtain ⟨Wf, hrun, hbf, hof⟩ := store_part X7 bx _ _ _ _ _ (fi own) (.int .i64 (rk : Int)) (.slice (some ⟨sb, 0, none⟩) ids.length scc) (.int .i64 (rk : Int)) (setV bs ((V.length + 63) / 64)) hxZ (by intro u hu; simp only [List.mem_cons, List.not_mem_nil, or_false] at hu; rcases hu with rfl | rfl | rfl | rfl | rfl <;> rfl)
  refine wp_store_run 129 _ _ rfl (.pointer (some ⟨bx, 0, none⟩)) (.agg #[fi own, .int .i64 (rk : Int), .slice (some ⟨sb, 0, none⟩) ids.length scc, .int .i64 (rk : Int), setV bs ((V.length + 63) / 64)]) rfl rfl hrun ?_
  have hbelf : Below Wd.heap.size Wd Wf := hHeld7.trans (hof.below hHeld7.size (by simp; omega))
  refine hK.out _ _ hbelf (fun _ => ?_)
  clear hK K
  refine wpAnyH_done (by kernel_rfl) ?_ _
  simp only [Act.put]
  have HB : Hid (Bx W2 ids own rk ((V.length + 63) / 64) bx (.slice (some ⟨sb, 0, none⟩) ids.length scc) bs Wf) := by
   have hkeep : ∀ (j : Nat) (cur : Array Value) (ty : TypeId), ty ≠ 129 -> X7.heap[j]? = some (Obj.cells cur ty (0, 0)) -> Wf.heap[j]? = X7.heap[j]? := fun j cur ty hty hj => hof.block j (Array.getElem?_eq_some_iff.1 hj).1 (by
    simp
    intro e
    rw [e, hxZ] at hj
    simp only [Option.some.injEq, Obj.cells.injEq] at hj
    exact hty hj.2.1.symm)
   exact ⟨hd.trans (hbelf.mono (Nat.le_of_eq hsd.symm)), hbf, by omega, hraZ.keep (fun j cur hj => hkeep j cur 83 (by decide) hj), (hkeep bs _ 194 (by decide) hstZ).trans hstZ, by omega⟩
 all_goals
  have HT := HB.out.tl
  have HX : Hid (Rd ρ V lb br bv bn pa pn pc ids ts W2 ∧ (W2.cell? ⟨W.heap.size, 0, none⟩ = some (.int .i64 (rk : Int)) ∧ W2.cell? ⟨W.heap.size, 1, none⟩ = some (.int .i64 v)) ∧ W2.heap[W.heap.size + 1]? = some (.cells #[.int .i16 0, .int .i64 0, .slice none 0 0, .int .i64 0, .slice none 0 0] 129 (0, 0)) ∧ (0 <= v ∧ v < 1000000)) := ⟨hR2, ⟨n0, n1⟩, hr2, hv⟩
  try clear hHeldA hxA hbA
  clear hHeld hHeld6 hHeld7 hra hraZ hst hstZ hb6 hb7 hxZ hrun hbf hof hbelf hd hsd q0 ql0 ql1 h64 h65 hR2 hR n0 n1 n2 hn1 hn2 hr2 hsl b1 b2 b02 hv HB
  have m0 := kc HT.bel (by have := HL.out; omega) HX.out.2.1.1
  obtain ⟨⟨t0, t1, t2, t3, t4⟩, tf⟩ := HT.cells
  obtain ⟨nw, hnw⟩ : ∃ nw, (V.length + 63) / 64 = nw := ⟨_, rfl⟩
  rw [hnw] at HT t4 ⊢
  have hnwl : nw <= 100000 := by omega
  have hV64 : V.length <= 64 * nw := by omega
  by_cases hrk : rk = 0
  case' pos =>
   have hrkB : ((rk : Int) == 0) = true := by rw [hrk]; rfl
   obtain ⟨hvm, hids⟩ := HL.out.2.1 hrk
   obtain ⟨k, hk, hkl, hkv⟩ := ixI_some hvm
   clear hkv
   have hlook : ∀ X, Below W2.heap.size W2 X -> Sem.run Tryz.prog (Instr.lookup 74 (.map (some bv)) (.int .i64 v) false) X = .ok (.int .i64 (k : Int)) X := fun X hX => (((HX.out.1.keep hX).mv.look keyed3 Tryz.underlying74 (zeroI X) (key3 (fit_v HX.out.2.2.2))).1 (.int .i64 (k : Int)) (by simp [vmap, hk])).2
   have hd : Below Wf.heap.size Wf Wf.drew := (Below.refl _ Wf).drew
   have HTd := HT.below hd
   have hadd := add_any bs (List.replicate nw 0) k Wf.drew HTd.st (by simp; omega) (by simp; omega) (by intro n hn; have := (List.mem_replicate.1 hn).2; omega)
   rw [List.length_replicate] at hadd
   have hCC : ∀ X tp ws, Tl W2 ids own rk nw bx (.slice (some ⟨sb, 0, none⟩) ids.length scc) bs tp ws X -> (X.cell? ⟨bx, 4, none⟩ = some (setV bs nw) ∧ X.cell? ⟨lb, 1, none⟩ = some (.map (some bv)) ∧ X.cell? ⟨W.heap.size, 1, none⟩ = some (.int .i64 v)) ∧ Sem.run Tryz.prog (Instr.lookup 74 (.map (some bv)) (.int .i64 v) false) X = .ok (.int .i64 (k : Int)) X := fun X tp ws h => ⟨⟨h.cells.1.2.2.2.2, (HX.out.1.keep h.bel).l1, kc h.bel (by have := HL.out; omega) HX.out.2.1.2⟩, hlook X h.bel⟩
   have K1 := hCC _ _ _ HTd
   have HV : Hid (k = (ixI V v).getD 0 ∧ k < V.length) := ⟨by rw [hk]; rfl, hkl⟩
   have HTd' : Hid (Tl W2 ids own rk nw bx (.slice (some ⟨sb, 0, none⟩) ids.length scc) bs rk (List.replicate nw 0) Wf.drew) := HTd
   have HC : Hid (∀ X tp ws, Tl W2 ids own rk nw bx (.slice (some ⟨sb, 0, none⟩) ids.length scc) bs tp ws X -> (X.cell? ⟨bx, 4, none⟩ = some (setV bs nw) ∧ X.cell? ⟨lb, 1, none⟩ = some (.map (some bv)) ∧ X.cell? ⟨W.heap.size, 1, none⟩ = some (.int .i64 v)) ∧ Sem.run Tryz.prog (Instr.lookup 74 (.map (some bv)) (.int .i64 v) false) X = .ok (.int .i64 (k : Int)) X) := hCC
   have HIf : Hid ((if rk = 0 then [v] else []) = [v]) := by show _ = _; rw [if_pos hrk]
   have HPos : Hid (rk = 0) := hrk
   clear hvm hk hkl hlook hd HTd hCC hrk hids
   go_wp2
   go_region_held3 (fun X => (X.cell? ⟨bx, 4, none⟩ = some (setV bs nw) ∧ X.cell? ⟨lb, 1, none⟩ = some (.map (some bv)) ∧ X.cell? ⟨W.heap.size, 1, none⟩ = some (.int .i64 v)) ∧ Sem.run Tryz.prog (Instr.lookup 74 (.map (some bv)) (.int .i64 v) false) X = .ok (.int .i64 (k : Int)) X) (first | exact K1 | exact K2) (first
    | (go_at_call 125; refine hadd.mono ?_; rintro e X8 ⟨⟨v8, rfl⟩, hs8, ho8⟩; have HT8 := HTd'.out.setS hs8 ho8; have K2 := HC.out _ _ _ HT8; clear hs8 ho8))
   obtain ⟨⟨u0, u1, u2, u3, u4⟩, _⟩ := HT8.cells
   have hbx8 := (HT8.bel.block (W.heap.size + 1) (by have := HL.out; omega)).trans HX.out.2.2.1
   clear K1 K2 hadd
   have HBt : Hid (Bits (fun x => (ixI V x).getD 0) nw (if rk = 0 then [v] else []) (addW (List.replicate nw 0) k)) := by
    show Bits _ _ _ _
    rw [HIf.out]
    have h1 := bits_add (bits_zero (fun x => (ixI V x).getD 0) nw) v (by have := HV.out; omega)
    rw [List.nil_append] at h1
    have e : (ixI V v).getD 0 = k := HV.out.1.symm
    rw [e] at h1
    exact h1
   obtain ⟨ws0, hws0⟩ : ∃ ws0, addW (List.replicate nw 0) k = ws0 := ⟨_, rfl⟩
   rw [hws0] at HT8 HBt
   have HT9 : Hid (Tl W2 ids own rk nw bx (.slice (some ⟨sb, 0, none⟩) ids.length scc) bs rk ws0 X8) := HT8
   clear HT8 HTd' HC HV hws0 HT HIf
   go_wp2
  case' neg =>
   have hrkB : ((rk : Int) == 0) = false := by rw [beq_eq_false_iff_ne]; omega
   have HBt : Hid (Bits (fun x => (ixI V x).getD 0) nw (if rk = 0 then [v] else []) (List.replicate nw 0)) := by
    show Bits _ _ _ _
    rw [if_neg hrk]
    exact bits_zero _ _
   obtain ⟨X8, hX8⟩ : ∃ X, Wf = X := ⟨_, rfl⟩
   obtain ⟨ws0, hws0⟩ : ∃ ws0, List.replicate nw 0 = ws0 := ⟨_, rfl⟩
   rw [hws0] at HT HBt
   rw [hX8] at HT m0 t0 t1 t2 t3 t4 tf ⊢
   have HT9 : Hid (Tl W2 ids own rk nw bx (.slice (some ⟨sb, 0, none⟩) ids.length scc) bs rk ws0 X8) := HT
   have HNeg : Hid (rk ≠ 0) := hrk
   clear HT hws0 hrk
   go_wp2
  all_goals
   clear t0 t1 t2 t3 t4 tf m0
   try clear u0 u1 u2 u3 u4 hbx8
   go_loopw [44] (fun vi wr => ∃ i : Nat, vi = .int .i64 i ∧ i <= ids.length ∧ Hid (∃ ws, Tl W2 ids own rk nw bx (.slice (some ⟨sb, 0, none⟩) ids.length scc) bs (((ts.take i).map (T.top ρ)).foldl max rk) ws wr ∧ Bits (fun x => (ixI V x).getD 0) nw ((if rk = 0 then [v] else []) ++ ((ts.take i).map T.vs).flatten) ws)) (fun vi _ => ids.length - (intOf vi).toNat)
   case atStart => exact ⟨0, rfl, Nat.zero_le _, ws0, by simpa using HT9.out, by simpa using HBt.out⟩
   case round =>
    obtain ⟨i, rfl, hi, HI⟩ := hrel
    obtain ⟨ws, hTl, hBi⟩ := HI.out
    clear HI
    by_cases hlt : i < ids.length
    ·have hlt' : i < ts.length := by have := HL.out; omega
     have ht : ts.take (i + 1) = ts.take i ++ [ts[i]] := List.take_succ_eq_append_getElem hlt'
     obtain ⟨hpn, pb, po, sV, us, rfl, hTp⟩ := (HX.out.1.keep hTl.bel).pt i hlt hlt'
     have hrow : ∀ X, Below W2.heap.size W2 X -> ∀ b o sV us, Tp ρ (fun x => (ixI V x).getD 0) nw W2 b o ts[i] sV us -> RowAt fu X sV us := fun X hX b o sV us h => h.rv.keep hX (Nat.le_refl _)
     have hTpW2 : ∃ b o sV us, (some ⟨pb, po, none⟩ : Option Addr) = some ⟨b, o, none⟩ ∧ Tp ρ (fun x => (ixI V x).getD 0) nw W2 b (o + ids[i] * 5) ts[i] sV us := by
      obtain ⟨_, b, o, sV, us, e, h⟩ := HX.out.1.pt i hlt hlt'
      rw [hnw] at h
      exact ⟨b, o, sV, us, e, h⟩
     clear hTp
     obtain ⟨pb', po', sV, us, ep, hTp⟩ := hTpW2
     obtain ⟨rfl, rfl⟩ : pb' = pb ∧ po' = po := by
      have := Option.some.inj ep
      simp only [Addr.mk.injEq, and_true] at this
      exact ⟨this.1.symm, this.2.symm⟩
     clear ep
     have hTpr := hTp.keep hTl.bel
     have r0 : wr.cell? ⟨sb, i, none⟩ = some (fi ids[i]) := by
      obtain ⟨b', o', e, _, hc⟩ := hTl.ra.row.nth hlt
      simp only [Option.some.injEq, Addr.mk.injEq, and_true] at e
      rw [<- e.1, <- e.2, Nat.zero_add] at hc
      exact hc
     obtain ⟨⟨_, _, _, c3, c4⟩, cf⟩ := hTl.cells
     have l3 := (HX.out.1.keep hTl.bel).l3
     have p3 := hTpr.c3
     have c3d : wr.drew.cell? ⟨bx, 3, none⟩ = some (.int .i64 ((((ts.take i).map (T.top ρ)).foldl max rk : Nat) : Int)) := c3
     have cfd : wr.drew.frozen? ⟨bx, 3, none⟩ = false := cf
     have l3d : wr.drew.cell? ⟨lb, 3, none⟩ = some (.slice (some ⟨pb', po', none⟩) pn pc) := l3
     have p3d : wr.drew.cell? ⟨pb', po' + ids[i] * 5 + 3, none⟩ = some (.int .i64 (ts[i].top ρ : Int)) := p3
     obtain ⟨us', hus⟩ : ∃ u, us = u := ⟨_, rfl⟩
     have HTi : Hid (Tl W2 ids own rk nw bx (.slice (some ⟨sb, 0, none⟩) ids.length scc) bs (((ts.take i).map (T.top ρ)).foldl max rk) ws wr ∧ Bits (fun x => (ixI V x).getD 0) nw ((if rk = 0 then [v] else []) ++ ((ts.take i).map T.vs).flatten) ws ∧ Tp ρ (fun x => (ixI V x).getD 0) nw W2 pb' (po' + ids[i] * 5) ts[i] sV us ∧ ts.take (i + 1) = ts.take i ++ [ts[i]]) := ⟨hTl, hBi, hTp, ht⟩
     clear hTl hBi hTp hTpr ht hrow us' hus c4
     obtain ⟨tt, htt⟩ : ∃ tt, ts[i] = tt := ⟨_, rfl⟩
     rw [htt] at HTi p3d p3
     obtain ⟨m, hm⟩ : ∃ m, ((ts.take i).map (T.top ρ)).foldl max rk = m := ⟨_, rfl⟩
     have HM : Hid (((ts.take i).map (T.top ρ)).foldl max rk = m) := hm
     rw [hm] at HTi c3d c3
     clear htt hm c3 p3 cf l3
     obtain ⟨ii, hii⟩ : ∃ ii, ids[i] = ii := ⟨_, rfl⟩
     rw [hii] at HTi p3d r0 hpn
     clear hii
     obtain ⟨m2, hm2⟩ : ∃ m2, tt.top ρ = m2 := ⟨_, rfl⟩
     have HM2 : Hid (tt.top ρ = m2) := hm2
     rw [hm2] at p3d
     clear hm2
     go_wp2
     go_region
     obtain ⟨W7, e7⟩ : ∃ X, (wr.setCell ⟨bx, 3, none⟩ (.int .i64 (max (m : Int) (m2 : Int)))).drew = X := ⟨_, rfl⟩
     have hmx : max (m : Int) (m2 : Int) = ((max m m2 : Nat) : Int) := by omega
     have hT7 : Tl W2 ids own rk nw bx (.slice (some ⟨sb, 0, none⟩) ids.length scc) bs (max m m2) ws W7 := by
      rw [<- e7, hmx]
      exact (HTi.out.1.setT (max m m2)).below (Below.refl _ _).drew
     rw [e7]
     have hT8 := hT7.below (Below.refl _ W7).drew
     have hCC : ∀ X tp ws, Tl W2 ids own rk nw bx (.slice (some ⟨sb, 0, none⟩) ids.length scc) bs tp ws X -> X.cell? ⟨bx, 4, none⟩ = some (setV bs nw) ∧ X.cell? ⟨lb, 3, none⟩ = some (.slice (some ⟨pb', po', none⟩) pn pc) ∧ X.cell? ⟨pb', po' + ii * 5 + 4, none⟩ = some sV := fun X tp ws h => ⟨h.cells.1.2.2.2.2, (HX.out.1.keep h.bel).l3, (HTi.out.2.2.1.keep h.bel).c4⟩
     have K1 := hCC _ _ _ hT8
     have hwl : ws.length = nw := HTi.out.2.1.len
     have hjoin := join_any bs ws us sV W7.drew hT8.st (fun X hX => HTi.out.2.2.1.rv.keep (hT8.bel.trans (hX.below hT8.bel.size (by simp; exact hT8.lo))) (Nat.le_refl _)) (hwl.trans HTi.out.2.2.1.bt.len.symm) HTi.out.2.1.lt HTi.out.2.2.1.bt.lt
     rw [hwl] at hjoin
     obtain ⟨sva, svc, rfl, _, _⟩ := HTi.out.2.2.1.rv.slice
     have HT8 : Hid (Tl W2 ids own rk nw bx (.slice (some ⟨sb, 0, none⟩) ids.length scc) bs (max m m2) ws W7.drew) := hT8
     have HC : Hid (∀ X tp ws, Tl W2 ids own rk nw bx (.slice (some ⟨sb, 0, none⟩) ids.length scc) bs tp ws X -> X.cell? ⟨bx, 4, none⟩ = some (setV bs nw) ∧ X.cell? ⟨lb, 3, none⟩ = some (.slice (some ⟨pb', po', none⟩) pn pc) ∧ X.cell? ⟨pb', po' + ii * 5 + 4, none⟩ = some (.slice sva us.length svc)) := hCC
     clear hT7 hT8 hCC e7 hmx c3d cfd l3d p3d r0 hwl
     go_wp2
     go_region_held3 (fun X => X.cell? ⟨bx, 4, none⟩ = some (setV bs nw) ∧ X.cell? ⟨lb, 3, none⟩ = some (.slice (some ⟨pb', po', none⟩) pn pc) ∧ X.cell? ⟨pb', po' + ii * 5 + 4, none⟩ = some (.slice sva us.length svc)) (first | exact K1 | exact K2) (first
      | (go_at_call 126; refine hjoin.mono ?_; rintro e X9 ⟨⟨v9, rfl⟩, hs9, ho9⟩; have HT10 : Hid (Tl W2 ids own rk nw bx (.slice (some ⟨sb, 0, none⟩) ids.length scc) bs (max m m2) (joinW ws us) X9) := HT8.out.setS hs9 ho9; have K2 := HC.out _ _ _ HT10.out; clear hs9 ho9))
     have HN : Hid (∃ ws, Tl W2 ids own rk nw bx (.slice (some ⟨sb, 0, none⟩) ids.length scc) bs (((ts.take (i + 1)).map (T.top ρ)).foldl max rk) ws X9 ∧ Bits (fun x => (ixI V x).getD 0) nw ((if rk = 0 then [v] else []) ++ ((ts.take (i + 1)).map T.vs).flatten) ws) := by
      refine ⟨joinW ws us, ?_, ?_⟩
      ·have e : ((ts.take (i + 1)).map (T.top ρ)).foldl max rk = max m m2 := by
        rw [HTi.out.2.2.2, List.map_append, List.foldl_append, HM.out]
        simp [HM2.out]
       rw [e]
       exact HT10.out
      ·rw [HTi.out.2.2.2, List.map_append, List.flatten_append, <- List.append_assoc]
       have := bits_join HTi.out.2.1 HTi.out.2.2.1.bt
       simpa using this
     clear K1 K2 hjoin HC
     go_wp2
     go_roundw
     case rel => exact ⟨i + 1, by go_num, by omega, HN⟩
     case measure => simp [intOf]; omega
    ·have hall : ts.take i = ts := List.take_of_length_le (by have := HL.out; omega)
     rw [hall] at hTl hBi
     obtain ⟨⟨c0, c1, c2, c3, c4⟩, cf⟩ := hTl.cells
     have hbx8 := (hTl.bel.block (W.heap.size + 1) (by have := HL.out; omega)).trans HX.out.2.2.1
     obtain ⟨m, hm⟩ : ∃ m, (ts.map (T.top ρ)).foldl max rk = m := ⟨_, rfl⟩
     have HMf : Hid ((ts.map (T.top ρ)).foldl max rk = m) := hm
     rw [hm] at c3 hTl
     clear hm
     obtain ⟨Y, hrunY, hbY, hoY⟩ := store_part wr (W.heap.size + 1) _ _ _ _ _ (fi own) (.int .i64 (rk : Int)) (.slice (some ⟨sb, 0, none⟩) ids.length scc) (.int .i64 (m : Int)) (setV bs nw) hbx8 (by intro u hu; simp only [List.mem_cons, List.not_mem_nil, or_false] at hu; rcases hu with rfl | rfl | rfl | rfl | rfl <;> rfl)
     have y0 : Y.cell? ⟨W.heap.size + 1, 0, none⟩ = some (fi own) := by simp [World.cell?, hbY]
     have y1 : Y.cell? ⟨W.heap.size + 1, 1, none⟩ = some (.int .i64 (rk : Int)) := by simp [World.cell?, hbY]
     have y2 : Y.cell? ⟨W.heap.size + 1, 2, none⟩ = some (.slice (some ⟨sb, 0, none⟩) ids.length scc) := by simp [World.cell?, hbY]
     have y3 : Y.cell? ⟨W.heap.size + 1, 3, none⟩ = some (.int .i64 (m : Int)) := by simp [World.cell?, hbY]
     have y4 : Y.cell? ⟨W.heap.size + 1, 4, none⟩ = some (setV bs nw) := by simp [World.cell?, hbY]
     have HF : Hid (∃ sA bs' ws, (Ending.returned (.agg #[fi own, .int .i64 (rk : Int), .slice (some ⟨sb, 0, none⟩) ids.length scc, .int .i64 (m : Int), setV bs nw]) = .returned (.agg #[fi own, .int .i64 (rk : Int), sA, .int .i64 (((ts.map (T.top ρ)).foldl max rk : Nat) : Int), setV bs' ws.length])) ∧ RowB fi 83 Y sA ids ∧ RowB fu 194 Y (setV bs' ws.length) ws ∧ Bits (fun x => (ixI V x).getD 0) nw ((if rk = 0 then [v] else []) ++ (ts.map T.vs).flatten) ws ∧ Below W.heap.size W Y) := by
      have hkeep : ∀ (j : Nat) (cur : Array Value) (ty : TypeId), ty ≠ 129 -> wr.heap[j]? = some (Obj.cells cur ty (0, 0)) -> Y.heap[j]? = wr.heap[j]? := fun j cur ty hty hj => hoY.block j (Array.getElem?_eq_some_iff.1 hj).1 (by
       simp
       intro e
       rw [e, hbx8] at hj
       simp only [Option.some.injEq, Obj.cells.injEq] at hj
       exact hty hj.2.1.symm)
      have hb0 : Below W.heap.size W wr := HL.out.2.2.1.trans (hTl.bel.mono HL.out.2.2.1.size)
      have hst : SetAt Y bs ws := (hkeep bs _ 194 (by decide) hTl.st).trans hTl.st
      have hlen : ws.length = nw := hBi.len
      refine ⟨_, bs, ws, by rw [HMf.out, hlen], hTl.ra.keep (fun j cur hj => hkeep j cur 83 (by decide) hj), hst.rowB (by omega), hBi, hb0.trans (hoY.below hb0.size (by simp))⟩
     clear hTl hBi hbx8 hbY hoY hall
     go_wp2_with (first | (refine wpList_store_run rfl 129 _ _ rfl (.pointer (some ⟨W.heap.size + 1, 0, none⟩)) (.agg #[fi own, .int .i64 (rk : Int), .slice (some ⟨sb, 0, none⟩) ids.length scc, .int .i64 (m : Int), setV bs nw]) rfl rfl hrunY ?_))
     refine bodyPost_ret (v := .agg #[fi own, .int .i64 (rk : Int), .slice (some ⟨sb, 0, none⟩) ids.length scc, .int .i64 (m : Int), setV bs nw]) (by simp [results, Tryz.results83, go_sem, y0, y1, y2, y3, y4]) rfl ?_
     obtain ⟨sA, bs', ws', h1, h2, h3, h4, h5⟩ := HF.out
     first
      | (have e := HNeg.out; rw [if_neg e, List.nil_append] at h4; exact ⟨sA, bs', ws', h1, h2, h3, h4, h5⟩)
      | (have e := HPos.out; subst e; exact ⟨sA, bs', ws', h1, h2, h3, by simpa using h4, h5⟩)
end Go.Proofs.YtglphfhlpobgcaaGreat
