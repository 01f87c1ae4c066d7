import Derived.Test.YtpahgmidofacaaaWV
import Derived.Deep.OwnRows

/-
  Sets of variables in memory: emptySet, add, join; Clone of numbers.
-/
namespace Go.Proofs.Ytpahgmidofacaaa
open Go.RowKit Go.Maps

/-- A row in a block of a type of its own. -/
def RowB {α : Type} (f : α → Value) (ty : TypeId) (W : World) (v : Value) (l : List α) : Prop :=
  ∃ b cur c, v = .slice (some ⟨b, 0, none⟩) l.length c ∧ l.length ≤ c ∧ c ≤ 9223372036854775807 ∧ W.heap[b]? = some (.cells cur ty (0, 0)) ∧ ∀ i (h : i < l.length), cur[i]? = some (f l[i])
theorem RowB.row {α : Type} {f : α → Value} {ty : TypeId} {W : World} {v : Value} {l : List α} (h : RowB f ty W v l) : RowAt f W v l := by
  obtain ⟨b, cur, c, h1, h2, h3, h4, h5⟩ := h
  refine ⟨_, c, h1, h2, h3, fun h0 => ⟨b, 0, (Array.getElem?_eq_some_iff.1 h4).1, rfl, fun i hi => ?_⟩⟩
  have := h5 i hi
  simp only [World.cell?, h4, Nat.zero_add]
  simpa using this
/-- It lies on where no block of its type turns. -/
theorem RowB.keep {α : Type} {f : α → Value} {ty : TypeId} {W W' : World} {v : Value} {l : List α} (h : RowB f ty W v l) (hk : ∀ (b : Nat) (cur : Array Value), W.heap[b]? = some (Obj.cells cur ty (0, 0)) → W'.heap[b]? = W.heap[b]?) : RowB f ty W' v l := by
  obtain ⟨b, cur, c, h1, h2, h3, h4, h5⟩ := h
  exact ⟨b, cur, c, h1, h2, h3, (hk b cur h4).trans h4, h5⟩
theorem RowB.below {α : Type} {f : α → Value} {ty : TypeId} {W W' : World} {v : Value} {l : List α} (h : RowB f ty W v l) (hb : Below W.heap.size W W') : RowB f ty W' v l :=
  h.keep fun b _ hc => hb.block b (Array.getElem?_eq_some_iff.1 hc).1

theorem only_setCell (W : World) (p o : Nat) (v : Value) : Only [p] W (W.setCell ⟨p, o, none⟩ v) :=
  ⟨rfl, rfl, rfl, by simp, fun k _ hn => Below.heap_setCell _ _ _ k (by simpa using hn)⟩

/-- A set that is being made. -/
def SetAt (W : World) (bs : Nat) (ws : List Nat) : Prop := W.heap[bs]? = some (.cells (ws.map fu).toArray 144 (0, 0))
abbrev setV (bs n : Nat) : Value := .slice (some ⟨bs, 0, none⟩) n n
theorem SetAt.rowB {W : World} {bs : Nat} {ws : List Nat} (h : SetAt W bs ws) (hl : ws.length ≤ 1000000) : RowB fu 144 W (setV bs ws.length) ws :=
  ⟨bs, _, ws.length, rfl, Nat.le_refl _, by omega, h, fun i hi => by simp [hi]⟩
theorem SetAt.cell {W : World} {bs : Nat} {ws : List Nat} (h : SetAt W bs ws) {i : Nat} (hi : i < ws.length) : W.cell? ⟨bs, i, none⟩ = some (fu ws[i]) ∧ W.frozen? ⟨bs, i, none⟩ = false := by
  refine ⟨?_, by simp [World.frozen?, show W.heap[bs]? = _ from h]⟩
  simp only [World.cell?, show W.heap[bs]? = _ from h]
  simp [hi]
theorem SetAt.set {W : World} {bs : Nat} {ws : List Nat} (h : SetAt W bs ws) (i n : Nat) : SetAt (W.setCell ⟨bs, i, none⟩ (fu n)) bs (ws.set i n) := by
  have := Go.heap_setCell_same W bs i _ 144 (fu n) h
  unfold SetAt
  rw [this, List.map_set]
  simp

theorem Try.info144 : (Try.prog.info? 144).map (fun i => (i.zero, i.size, i.bytes)) = some (some (.int .u64 0), 1, 8) := by kernel_rfl

theorem made_zero (n : Nat) : madeCells #[.int .u64 0] n = ((List.replicate n 0).map fu).toArray := by
  unfold madeCells
  refine Array.ext (by simp) fun i h1 h2 => ?_
  simp [fu, Nat.mod_one]

set_option maxRecDepth 100000 in
set_option maxHeartbeats 1000000 in
theorem emptySet_any (br bv : Nat) (V : List Int) (W : World) (hV : MapIs W 3 bv (vmap V) V.length) (hl : V.length ≤ 100000) :
    Calls Try.prog 65 #[.agg #[.map (some br), .map (some bv)]] W fun e W' => ∃ bs, e = .returned (setV bs ((V.length + 63) / 64)) ∧ SetAt W' bs (List.replicate ((V.length + 63) / 64) 0) ∧ W.heap.size ≤ bs ∧ Below W.heap.size W W' := by
  obtain ⟨n, hn⟩ : ∃ n, (V.length + 63) / 64 = n := ⟨_, rfl⟩
  obtain ⟨X, eX⟩ : ∃ X, W.alloc (.cells #[.map (some br), .map (some bv)] 57) = X := ⟨_, rfl⟩
  have hb : Below W.heap.size W X := by rw [← eX]; exact below_box W _
  obtain ⟨c0, c1⟩ := box2_cells W (.map (some br)) (.map (some bv)) 57
  rw [eX] at c0 c1
  have hln := (hV.same (hb.block bv hV.lt)).len Try.underlying55 3
  have hmk := fun w => run_make_row' (P := Try.prog) 101 144 (.int .u64 0) 8 Try.underlying101 Try.info144 rfl .i64 .i64 n (by omega) (by omega) w
  have hq : ((V.length : Int) + 64 - 1) / 64 = (n : Int) := by omega
  have HX : Hid (Below W.heap.size W X ∧ X.heap.size = W.heap.size + 1) := ⟨hb, by rw [← eX]; simp⟩
  rw [hn]
  clear hV hb
  go_enter Try.func65, Try.ntmps65
  go_wp2
  go_ret
  refine ⟨X.heap.size, rfl, ?_, by have := HX.out.2; omega, HX.out.1.trans ((below_box X _).mono (by have := HX.out.2; omega))⟩
  unfold SetAt
  rw [made_zero]
  exact (MapKept.heap_alloc X _).1

/-- One variable more. -/
def addW (ws : List Nat) (x : Nat) : List Nat := ws.set (x / 64) (ws.getD (x / 64) 0 ||| 2 ^ (x % 64))

theorem shl_one (k : Nat) (h : k < 64) : IntKind.u64.wrap ((1 : Int) * 2 ^ k) = ((2 ^ k : Nat) : Int) := by
  have h2 : (2 : Nat) ^ k < 2 ^ 64 := Nat.pow_lt_pow_right (by decide) h
  have h3 : (2 : Nat) ^ 64 = 18446744073709551616 := by decide
  rw [IntKind.wrap_u64, Int.one_mul]
  have h4 : ((2 : Int) ^ k) = ((2 ^ k : Nat) : Int) := by simp
  rw [h4]
  generalize (2 : Nat) ^ k = m at *
  omega

set_option maxRecDepth 100000 in
set_option maxHeartbeats 400000 in
theorem add_any (bs : Nat) (ws : List Nat) (x : Nat) (W : World) (hS : SetAt W bs ws) (hx : x < 64 * ws.length) (hl : ws.length ≤ 100000) (hlt : ∀ n ∈ ws, n < 18446744073709551616) :
    Calls Try.prog 66 #[setV bs ws.length, .int .i64 (x : Int)] W fun e W' => (∃ v, e = .returned v) ∧ SetAt W' bs (addW ws x) ∧ Only [bs] W W' := by
  obtain ⟨i, hie⟩ : ∃ i, x / 64 = i := ⟨_, rfl⟩
  obtain ⟨k, hke⟩ : ∃ k, x % 64 = k := ⟨_, rfl⟩
  have hi : i < ws.length := by omega
  have hk : k < 64 := by omega
  have hSd : SetAt W.drew bs ws := hS
  obtain ⟨c0, f0⟩ := hSd.cell hi
  have hq : (x : Int) / 64 = (i : Int) := by omega
  have hr : (x : Int) % 64 = (k : Int) := by omega
  have hw : ws[i] < 18446744073709551616 := hlt _ (List.getElem_mem hi)
  have h2k : 2 ^ k < 18446744073709551616 := by
    have h2 : (2 : Nat) ^ k < 2 ^ 64 := Nat.pow_lt_pow_right (by decide) hk
    have h3 : (2 : Nat) ^ 64 = 18446744073709551616 := by decide
    omega
  have hor := u64_or_nat ws[i] (2 ^ k) hw h2k
  have hshl := shl_one k hk
  have HE : Hid (SetAt W.drew bs ws ∧ addW ws x = ws.set i (ws[i] ||| 2 ^ k) ∧ Only [bs] W W.drew) := ⟨hSd, by unfold addW; rw [hie, hke]; simp [hi], Only.of_below (Below.refl _ W).drew⟩
  obtain ⟨y, hy⟩ : ∃ y, ws[i] = y := ⟨_, rfl⟩
  rw [hy] at c0 hor HE
  clear hS hSd hie hke hw hlt hy hx
  go_enter Try.func66, Try.ntmps66
  go_wp2
  go_region
  have hv : bits BinOp.or IntKind.u64 (y : Int) (IntKind.u64.wrap (2 ^ k)) = ((y ||| 2 ^ k : Nat) : Int) := by
    rw [Int.one_mul] at hshl
    rw [hshl]
    exact hor
  rw [hv]
  refine bodyPost_end (results_none rfl _ _ _) rfl ?_
  refine ⟨⟨_, rfl⟩, ?_, HE.out.2.2.trans (only_setCell W.drew bs i (fu (y ||| 2 ^ k))) (by simp)⟩
  rw [HE.out.2.1]
  exact HE.out.1.set i _

/-- All variables of both. -/
def joinW (ws us : List Nat) : List Nat := List.zipWith (· ||| ·) ws us
theorem joinW_len {ws us : List Nat} (h : ws.length = us.length) : (joinW ws us).length = ws.length := by simp [joinW, h]

set_option maxRecDepth 100000 in
set_option maxHeartbeats 1000000 in
theorem join_any (bs : Nat) (ws us : List Nat) (u : Value) (W : World) (hS : SetAt W bs ws) (hu : ∀ X, Only [bs] W X → RowAt fu X u us) (hl : ws.length = us.length) (h1 : ∀ n ∈ ws, n < 18446744073709551616) (h2 : ∀ n ∈ us, n < 18446744073709551616) :
    Calls Try.prog 67 #[setV bs ws.length, u] W fun e W' => (∃ v, e = .returned v) ∧ SetAt W' bs (joinW ws us) ∧ Only [bs] W W' := by
  obtain ⟨a, c, rfl, hc, hm⟩ := (hu W (Only.refl _ _)).slice
  have HH : Hid (SetAt W bs ws ∧ (∀ X, Only [bs] W X → RowAt fu X (.slice a us.length c) us) ∧ ws.length = us.length ∧ (∀ n ∈ ws, n < 18446744073709551616) ∧ (∀ n ∈ us, n < 18446744073709551616)) := ⟨hS, hu, hl, h1, h2⟩
  clear hS hu hl h1 h2
  go_enter Try.func67, Try.ntmps67
  go_wp2
  go_loopw [8] (fun vi wr => ∃ i : Nat, vi = .int .i64 i ∧ i ≤ us.length ∧ Hid (SetAt wr bs ((joinW ws us).take i ++ ws.drop i) ∧ Only [bs] W wr)) (fun vi _ => us.length - (intOf vi).toNat)
  case atStart => exact ⟨0, rfl, Nat.zero_le _, by simpa using HH.out.1, Only.refl _ _⟩
  case round =>
    obtain ⟨i, rfl, hi, HI⟩ := hrel
    by_cases hlt : i < us.length
    · have hlw : i < ws.length := by have := HH.out.2.2.1; omega
      have hlj : i < (joinW ws us).length := by rw [joinW_len HH.out.2.2.1]; exact hlw
      have hlen : ((joinW ws us).take i ++ ws.drop i).length = ws.length := by simp; omega
      obtain ⟨b', o', rfl, hbl, hcell⟩ := (HH.out.2.1 wr HI.out.2).nth hlt
      obtain ⟨c0, f0⟩ := HI.out.1.cell (i := i) (by omega)
      have hgi : ((joinW ws us).take i ++ ws.drop i)[i]'(by omega) = ws[i] := by
        have ht : ((joinW ws us).take i).length = i := by rw [List.length_take]; omega
        rw [List.getElem_append_right (by omega)]
        simp only [ht, Nat.sub_self, List.getElem_drop, Nat.add_zero]
      have hor := u64_or_nat ws[i] us[i] (HH.out.2.2.2.1 _ (List.getElem_mem hlw)) (HH.out.2.2.2.2 _ (List.getElem_mem hlt))
      have hnx : ((joinW ws us).take i ++ ws.drop i).set i (ws[i] ||| us[i]) = (joinW ws us).take (i + 1) ++ ws.drop (i + 1) := by
        refine List.ext_getElem (by simp; omega) fun j h1 h2 => ?_
        rw [List.getElem_set]
        by_cases e : i = j
        · subst e
          rw [if_pos rfl, List.getElem_append_left (by simp; omega), List.getElem_take]
          simp [joinW]
        · rw [if_neg e]
          by_cases hj : j < i
          · rw [List.getElem_append_left (by simp; omega), List.getElem_append_left (by simp; omega), List.getElem_take, List.getElem_take]
          · rw [List.getElem_append_right (by simp; omega), List.getElem_append_right (by simp; omega), List.getElem_drop, List.getElem_drop]
            congr 1
            simp only [List.length_take]
            omega
      rw [hgi] at c0
      have HN : Hid (SetAt (wr.setCell ⟨bs, i, none⟩ (fu (ws[i] ||| us[i]))) bs ((joinW ws us).take (i + 1) ++ ws.drop (i + 1)) ∧ Only [bs] W (wr.setCell ⟨bs, i, none⟩ (fu (ws[i] ||| us[i])))) := by
        refine ⟨?_, HI.out.2.trans (only_setCell wr bs i _) (by simp)⟩
        rw [← hnx]
        exact HI.out.1.set i _
      clear hgi hnx hlen hlj
      generalize ws[i] = x at *
      generalize us[i] = y at *
      go_wp2
      go_roundw
      case rel => exact ⟨i + 1, by go_num, by omega, HN⟩
      case measure => simp [intOf]; omega
    · have HN : Hid (SetAt wr bs (joinW ws us) ∧ Only [bs] W wr) := by
        have h1 := HI.out
        have h3 := HH.out.2.2.1
        rw [List.take_of_length_le (by rw [joinW_len h3]; omega), List.drop_of_length_le (by omega), List.append_nil] at h1
        exact h1
      go_wp2
      refine bodyPost_end (results_none rfl _ _ _) rfl ?_
      exact ⟨⟨_, rfl⟩, HN.out⟩

end Go.Proofs.Ytpahgmidofacaaa

/-
  Bits of sets; Clone of numbers.
-/
namespace Go.Proofs.Ytpahgmidofacaaa
open Go.RowKit Go.Maps

theorem bits_zero (ν : Int → Nat) (nw : Nat) : Bits ν nw [] (List.replicate nw 0) := by
  refine ⟨by simp, fun n hn => ?_, fun i h j hj => ?_⟩
  · have := (List.mem_replicate.1 hn).2
    omega
  · simp
theorem Bits.congr {ν : Int → Nat} {nw : Nat} {vs us : List Int} {ws : List Nat} (h : Bits ν nw vs ws) (he : ∀ x, x ∈ vs ↔ x ∈ us) : Bits ν nw us ws := by
  refine ⟨h.len, h.lt, fun i hi j hj => (h.bit i hi j hj).trans ?_⟩
  constructor
  · rintro ⟨x, hx, e⟩; exact ⟨x, (he x).1 hx, e⟩
  · rintro ⟨x, hx, e⟩; exact ⟨x, (he x).2 hx, e⟩
theorem or_lt {a b : Nat} (ha : a < 18446744073709551616) (hb : b < 18446744073709551616) : a ||| b < 18446744073709551616 := by
  have h : (2 : Nat) ^ 64 = 18446744073709551616 := by decide
  rw [← h] at *
  exact Nat.or_lt_two_pow ha hb
theorem bits_add {ν : Int → Nat} {nw : Nat} {vs : List Int} {ws : List Nat} (h : Bits ν nw vs ws) (x : Int) (hx : ν x < 64 * nw) : Bits ν nw (vs ++ [x]) (addW ws (ν x)) := by
  have hl := h.len
  obtain ⟨q, hq⟩ : ∃ q, ν x / 64 = q := ⟨_, rfl⟩
  obtain ⟨k, hk⟩ : ∃ k, ν x % 64 = k := ⟨_, rfl⟩
  have hqk : ν x = 64 * q + k := by omega
  have hk64 : k < 64 := by omega
  have hqn : q < ws.length := by omega
  have e : addW ws (ν x) = ws.set q (ws[q] ||| 2 ^ k) := by
    unfold addW
    rw [hq, hk]
    simp [hqn]
  rw [e]
  refine ⟨by simp [hl], fun n hn => ?_, fun i hi j hj => ?_⟩
  · rcases List.mem_or_eq_of_mem_set hn with hn | hn
    · exact h.lt n hn
    · subst hn
      refine or_lt (h.lt _ (List.getElem_mem hqn)) ?_
      have h2 : (2 : Nat) ^ k < 2 ^ 64 := Nat.pow_lt_pow_right (by decide) hk64
      have h3 : (2 : Nat) ^ 64 = 18446744073709551616 := by decide
      omega
  · have hi' : i < ws.length := by simpa using hi
    rw [List.getElem_set]
    have hb := h.bit i hi' j hj
    have main : (∃ y ∈ vs ++ [x], ν y = 64 * i + j) ↔ (∃ y ∈ vs, ν y = 64 * i + j) ∨ (q = i ∧ k = j) := by
      constructor
      · rintro ⟨y, hy, e⟩
        rcases List.mem_append.1 hy with hy | hy
        · exact .inl ⟨y, hy, e⟩
        · have : y = x := by simpa using hy
          subst this
          exact .inr (by omega)
      · rintro (⟨y, hy, e⟩ | ⟨e1, e2⟩)
        · exact ⟨y, List.mem_append_left _ hy, e⟩
        · exact ⟨x, by simp, by omega⟩
    rw [main, ← hb]
    by_cases e1 : q = i
    · subst e1
      rw [if_pos rfl, Nat.testBit_or, Nat.testBit_two_pow, Bool.or_eq_true, decide_eq_true_eq]
      simp
    · rw [if_neg e1]
      simp [e1]
theorem bits_join {ν : Int → Nat} {nw : Nat} {vs us : List Int} {ws us' : List Nat} (h : Bits ν nw vs ws) (k : Bits ν nw us us') : Bits ν nw (vs ++ us) (joinW ws us') := by
  have hl : ws.length = us'.length := h.len.trans k.len.symm
  refine ⟨by rw [joinW_len hl, h.len], fun n hn => ?_, fun i hi j hj => ?_⟩
  · obtain ⟨i, hi, rfl⟩ := List.getElem_of_mem hn
    have hi' : i < ws.length := by rw [joinW_len hl] at hi; exact hi
    simp only [joinW, List.getElem_zipWith]
    exact or_lt (h.lt _ (List.getElem_mem hi')) (k.lt _ (List.getElem_mem (by omega)))
  · have hi' : i < ws.length := by rw [joinW_len hl] at hi; exact hi
    simp only [joinW, List.getElem_zipWith, Nat.testBit_or, Bool.or_eq_true]
    rw [h.bit i hi' j hj, k.bit i (by omega) j hj]
    constructor
    · rintro (⟨x, hx, e⟩ | ⟨x, hx, e⟩)
      · exact ⟨x, List.mem_append_left _ hx, e⟩
      · exact ⟨x, List.mem_append_right _ hx, e⟩
    · rintro ⟨x, hx, e⟩
      rcases List.mem_append.1 hx with hx | hx
      · exact .inl ⟨x, hx, e⟩
      · exact .inr ⟨x, hx, e⟩

theorem Try.info64 : (Try.prog.info? 64).map (fun i => (i.zero, i.size, i.bytes)) = some (some (.int .i16 0), 1, 2) := by kernel_rfl

set_option maxRecDepth 100000 in
set_option maxHeartbeats 1000000 in
theorem cloneN_any (b q c : Nat) (xs : List Nat) (hl : xs.length ≤ 16) (W : World) (hb : b < W.heap.size) (hx : ∀ i (h : i < xs.length), W.cell? ⟨b, q + i, none⟩ = some (fi xs[i])) :
    Calls Try.prog 64 #[.slice (some ⟨b, q, none⟩) xs.length c] W fun e W' => ∃ v, e = .returned v ∧ RowB fi 64 W' v xs ∧ Below W.heap.size W W' := by
  obtain ⟨i0, hi0, hz0, hz1, hz2⟩ := info_parts Try.info64
  have heq : ∀ (n c : Nat) (w : World), Sem.run Try.prog (binOp BinOp.eql 99 (Value.slice (some ⟨b, q, none⟩) n c) (Value.slice none 0 0)) w = .ok (.bool false) w := fun n c w => by kernel_rfl
  have hA := below_box W (.cells #[] 64)
  have hrow : (W.alloc (.cells #[] 64)).ownsRow W.heap.size 64 1 (.slice (some ⟨W.heap.size, 0, none⟩) 0 0) 0 [] := ⟨rfl, .inr ⟨W.heap.size, 0, #[], rfl, Nat.le_refl _, (MapKept.heap_alloc W _).1, Nat.le_refl _, by decide, rfl, rfl⟩⟩
  have hx' : ∀ j u, (xs.map fi)[j]? = some u → (W.alloc (.cells #[] 64)).cell? (Addr.add ⟨b, q, none⟩ j) = some u := fun j u hj => by
    rw [Addr.add_mid]
    have hjl : j < xs.length := by have := (List.getElem?_eq_some_iff.1 hj).1; simpa using this
    rw [List.getElem?_map, List.getElem?_eq_getElem hjl] at hj
    rw [← hj]
    exact kc hA hb (hx j hjl)
  have HA : Hid (Below W.heap.size W (W.alloc (.cells #[] 64))) := hA
  clear hx hA
  go_enter Try.func64, Try.ntmps64
  go_wp2_with (first
    | (at_builtin; refine wpList_append_own_at _ rfl _ _ 99 rfl W.heap.size 64 i0 _ 1 2 Try.underlying99 hi0 hz0 hz1 hz2 rfl (by decide) _ _ _ rfl hrow ⟨b, q, none⟩ xs.length c (xs.map fi) rfl (by simp) hx' (by intro u hu; obtain ⟨n, _, rfl⟩ := List.mem_map.1 hu; rfl) (by unfold maxLen; omega) (by omega) (by simp) ?_; intro v' w3 hown' hg3 hnil3 hat3))
  go_ret
  have hbw : Below W.heap.size W w3 := HA.out.grown hg3 (by simp) (fun k e => by
    have : k = W.heap.size := by simpa [Act.eval, Value.ownBlock] using e.symm
    omega)
  refine ⟨v', rfl, ?_, hbw⟩
  rcases hown'.2 with ⟨e, h0⟩ | ⟨g, cap, cur, e, hbb, hg, hc, hm, hsz, ht⟩
  · have := (hnil3.1 e).1
    cases this
  · refine ⟨g, cur, cap, by rw [e, Nat.zero_add], by omega, by unfold maxLen at hm; omega, hg, fun i hi => ?_⟩
    have h1 := congrArg (fun l => l[i]?) ht
    simp only [List.nil_append, List.getElem?_map, List.getElem?_eq_getElem hi, Option.map_some] at h1
    rw [List.getElem?_take, if_pos (by omega)] at h1
    simpa using h1

end Go.Proofs.Ytpahgmidofacaaa
