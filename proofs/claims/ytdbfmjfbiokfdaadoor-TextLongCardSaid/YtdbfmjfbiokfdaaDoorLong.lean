/-
  TextLong: for every number, byte and cut the law returns true.
-/
import Derived.Test.YtdbfmjfbiokfdaaDoorK
import Derived.Test.YtdbfmjfbiokfdaaDoorJ
import Derived.OwnWalk
namespace Go.Proofs.YtdbfmjfbiokfdaaDoor
open Go.ChangeShapes Go.WideShapes Go.ChangeAt Go.RowKit

theorem Keeps.below {W W' : World} {Bb B : Nat} {kv : Value} {ks : List Int} {lg : Bool} (h : Keeps W Bb kv ks lg) (hb : Below B W W') (hB : W.heap.size ≤ B) : Keeps W' Bb kv ks lg := by
  refine ⟨(hb.block Bb (Nat.lt_of_lt_of_le h.1.lt hB)).trans h.1, ⟨h.2.1.1, ?_⟩, h.2.2⟩
  rcases h.2.1.2 with hn | ⟨g, cap, cur, rfl, hb', hgg, rest⟩
  · exact .inl hn
  · exact .inr ⟨g, cap, cur, rfl, hb', (hb.block g (Nat.lt_of_lt_of_le (Array.getElem?_eq_some_iff.1 hgg).1 hB)).trans hgg, rest⟩

/-- The block B1 holds N bytes c. -/
def LL (W : World) (B1 N : Nat) (c : Int) : Prop := W.heap[B1]? = some (.cells (List.replicate N (Value.int .u8 c)).toArray 5 (0, 0))
theorem LL.cell {W : World} {B1 N : Nat} {c : Int} (h : LL W B1 N c) {i : Nat} (hi : i < N) : W.cell? ⟨B1, i, none⟩ = some (.int .u8 c) := by
  rw [cell_of_row W B1 i _ 5 (0, 0) h]
  simp [hi]
theorem LL.bts {W : World} {B1 N : Nat} {c : Int} (h : LL W B1 N c) (_hN : N ≤ 70000) (hc : 0 ≤ c ∧ c ≤ 255) (o m d : Nat) (hm : o + m ≤ N) (hd : m ≤ d) (hdd : d ≤ 70000) (p : Option Addr) (hp : 0 < m → p = some ⟨B1, o, none⟩) : Bts W (.slice p m d) (List.replicate m c) := by
  refine ⟨p, d, by simp, by simpa using hd, by omega, fun x hx => by rw [List.eq_of_mem_replicate hx]; exact hc, fun h0 => ?_⟩
  rw [List.length_replicate] at h0 ⊢
  refine ⟨B1, o, hp h0, fun i hi => ?_⟩
  rw [h.cell (by omega), getD_rep c m i hi]

theorem feed_long1 (W : World) (Bb B1 N K : Nat) (c : Int) (hk : Keeps W Bb (.slice none 0 0) [] false) (hL : LL W B1 N c) (hne : B1 ≠ Bb) (hN : N ≤ 70000) (hc : 0 ≤ c ∧ c ≤ 255) (h10 : c ≠ 10) (hK : K ≤ N) :
    Calls Tryd.prog 19 #[.pointer (some ⟨Bb, 0, none⟩), .slice (some ⟨B1, 0, none⟩) K N] W fun e w2 => ∃ xa xc kv, e = .returned (.slice xa 0 xc) ∧
      Keeps w2 Bb kv (stepK [] false (List.replicate K c)).1 (stepK [] false (List.replicate K c)).2 ∧ (∀ g, kv.ownBlock = some g → W.heap.size ≤ g) ∧ LL w2 B1 N c ∧ Below Bb W w2 ∧ B1 < w2.heap.size := by
  have hlt : B1 < W.heap.size := (Array.getElem?_eq_some_iff.1 hL).1
  have hB := hL.bts hN hc 0 K N (by omega) hK hN (some ⟨B1, 0, none⟩) (fun _ => rfl)
  refine (feed_any Bb (.slice none 0 0) _ [] false (List.replicate K c) W hk hB (fun _ b hb => ?_) (by rw [List.length_replicate]; omega)).mono ?_
  · simp [Value.ownBlock] at hb
    subst hb
    exact ⟨hne, by simp [Value.ownBlock]⟩
  · rintro e w2 ⟨v, kv, rfl, hk2, ht, hr⟩
    rw [feed_rep c h10] at hk2 hr
    obtain ⟨xa, xc, rfl, _⟩ := row_form hr
    have hs := ht.size
    refine ⟨xa, xc, kv, rfl, hk2, fun g hg => ?_, (ht.block B1 hlt hne (by simp [Value.ownBlock])).trans hL, ⟨ht.os, ht.tape, ht.output, ht.size, fun k hk' => ht.block k (by have := hk.1.lt; omega) (by omega) (by simp [Value.ownBlock])⟩, by omega⟩
    rcases ht.row g hg with e | e
    · simp [Value.ownBlock] at e
    · exact e

/-- What the line comes to: its text and its error. -/
theorem feed_long2 (W : World) (Bb B1 N K M : Nat) (c : Int) (kv v : Value) (b : Nat) (hk : Keeps W Bb kv (stepK [] false (List.replicate K c)).1 (stepK [] false (List.replicate K c)).2) (hrow : ∀ g, kv.ownBlock = some g → Bb < g ∧ g ≠ B1) (hL : LL W B1 N c) (hne : Bb < B1)
    (hv : W.ownsRow b 5 1 v (M + 1) (List.replicate M (Value.int .u8 c) ++ [.int .u8 10])) (hfar : ∀ g, v.ownBlock = some g → g ≠ Bb ∧ some g ≠ kv.ownBlock) (hM : M ≤ 70000) (hc : 0 ≤ c ∧ c ≤ 255) (h10 : c ≠ 10) (T : ByteArray) (E : Int)
    (hT : lineT (stepK [] false (List.replicate (K + M) c)).1 (stepK [] false (List.replicate (K + M) c)).2 = T ∧ lineE (stepK [] false (List.replicate (K + M) c)).1 (stepK [] false (List.replicate (K + M) c)).2 = E) :
    Calls Tryd.prog 19 #[.pointer (some ⟨Bb, 0, none⟩), v] W fun e w5 => ∃ g yc kv', e = .returned (.slice (some ⟨g, 0, none⟩) 1 yc) ∧ w5.cell? ⟨g, 0, none⟩ = some (.string T) ∧ w5.cell? ⟨g, 1, none⟩ = some (.int .i64 E) ∧
      Keeps w5 Bb kv' [] false ∧ LL w5 B1 N c ∧ Below Bb W w5 ∧ g < w5.heap.size ∧ B1 < w5.heap.size := by
  have hlt : B1 < W.heap.size := (Array.getElem?_eq_some_iff.1 hL).1
  have e1 : List.replicate M (Value.int .u8 c) ++ [.int .u8 10] = (List.replicate M c ++ [10]).map (Value.int .u8) := by simp
  have e2 : M + 1 = (List.replicate M c ++ [10]).length := by simp
  have hB : Bts W v (List.replicate M c ++ [10]) := by
    refine row_bts (base := b) ?_ ?_
    · rw [← e1, ← e2]; exact hv
    · intro x hx
      rcases List.mem_append.1 hx with h | h
      · rw [List.eq_of_mem_replicate h]; exact hc
      · simp at h; subst h; decide
  refine (feed_any Bb kv v _ _ (List.replicate M c ++ [10]) W hk hB (fun _ g hg => hfar g hg) (by rw [← e2]; omega)).mono ?_
  rintro e w5 ⟨y, kv', rfl, hk5, ht, hr⟩
  rw [feed_rep10 c h10, hT.1, hT.2] at hk5 hr
  have hs := ht.size
  obtain ⟨g, yc, rfl⟩ := ownsRow_succ hr
  have c0 := hr.cells (g := g) rfl 0 _ rfl
  have c1 := hr.cells (g := g) rfl 1 _ rfl
  refine ⟨g, yc, kv', rfl, c0, c1, hk5, (ht.block B1 hlt (by omega) (fun e => (hrow B1 e.symm).2 rfl)).trans hL, ⟨ht.os, ht.tape, ht.output, ht.size, fun k hk' => ht.block k (by omega) (by omega) (fun e => by have := (hrow k e.symm).1; omega)⟩, (hr.lt g rfl).2, by omega⟩

theorem made_bytes (N t : Nat) (h : t < N) : (madeCells (Value.int .u8 0).cells (N * 1))[t]? = some (.int .u8 0) := by
  rw [Nat.mul_one]
  simp [madeCells, h, Value.cells, Nat.mod_one]
theorem LL_of {W : World} {B1 N : Nat} {c : Int} {arr : Array Value} (h : W.heap[B1]? = some (.cells arr 5 (0, 0))) (hs : arr.size = N) (hc : ∀ t, t < N → arr[t]? = some (.int .u8 c)) : LL W B1 N c := by
  have : arr = (List.replicate N (Value.int .u8 c)).toArray := by
    apply Array.ext
    · simp [hs]
    · intro i h1 h2
      have := hc i (by omega)
      rw [Array.getElem?_eq_getElem h1] at this
      simpa using this
  rw [this] at h
  exact h

theorem long_news {W : World} {B1 N K : Nat} {c : Int} (h : LL W B1 N c) (o : Obj) : ∀ j u, (List.replicate (N - K) (Value.int .u8 c))[j]? = some u → (W.alloc o).cell? ((⟨B1, K, none⟩ : Addr).add j) = some u := by
  intro j u hj
  have hlt : j < N - K := by have := (List.getElem?_eq_some_iff.1 hj).1; simpa using this
  rw [addr_add]
  have hB := (Array.getElem?_eq_some_iff.1 h).1
  rw [World.cell?_of_block (w := W) (a := ⟨B1, K + j, none⟩) (Below.heap_alloc W o B1 hB), h.cell (by omega)]
  simp [hlt] at hj
  rw [hj]
theorem long_mid {w2 w3 w4 : World} {o3 o4 : Obj} {v3 v4 : Value} (hg3 : (w2.alloc o3).grownBy w3 (some w2.heap.size)) (hat3 : v3.ownBlock = some w2.heap.size ∨ v3.ownBlock = some (w2.alloc o3).heap.size)
    (hg4 : (w3.alloc o4).grownBy w4 v3.ownBlock) (hat4 : v4.ownBlock = v3.ownBlock ∨ v4.ownBlock = some (w3.alloc o4).heap.size) : Below w2.heap.size w2 w4 ∧ ∀ g, v4.ownBlock = some g → w2.heap.size ≤ g := by
  have h3 : ∀ g, v3.ownBlock = some g → w2.heap.size ≤ g := by
    intro g hg
    rcases hat3 with e | e
    · rw [e] at hg; cases hg; exact Nat.le_refl _
    · rw [e] at hg; cases hg; simp
  have b3 : Below w2.heap.size w2 w3 := ((Below.refl _ w2).alloc (Nat.le_refl _) o3).grown hg3 (by simp) (fun k e => by cases e; exact Nat.le_refl _)
  refine ⟨(b3.alloc b3.size o4).grown hg4 (by have := b3.size; simp; omega) h3, fun g hg => ?_⟩
  rcases hat4 with e | e
  · rw [e] at hg; exact h3 g hg
  · rw [e] at hg; cases hg; have := b3.size; simp; omega

set_option maxRecDepth 100000 in
set_option maxHeartbeats 1000000 in
theorem textLong_main (N K : Nat) (c cut : Int) (w : World) (hN : N ≤ 70000) (hc : 0 ≤ c ∧ c ≤ 255) (h10 : c ≠ 10) (T : ByteArray) (E : Int)
    (hT : lineT (stepK [] false (List.replicate N c)).1 (stepK [] false (List.replicate N c)).2 = T ∧ lineE (stepK [] false (List.replicate N c)).1 (stepK [] false (List.replicate N c)).2 = E)
    (hTE : (65536 < N ∧ T = ⟨#[]⟩ ∧ E = 11) ∨ (N ≤ 65536 ∧ 127 < c ∧ 0 < N ∧ T = ⟨#[]⟩ ∧ E = 10) ∨ (N ≤ 65536 ∧ (c ≤ 127 ∨ N = 0) ∧ T = strOfNums (List.replicate N c) ∧ E = 0))
    (hK : (0 < N ∧ 0 < cut ∧ cut % (N : Int) = K ∧ K < N) ∨ (N = 0 ∧ K = 0) ∨ (0 < N ∧ cut ≤ 0 ∧ K = 0)) :
    Calls Tryd.prog 6 #[.int .i64 N, .int .u8 c, .int .i64 cut] w fun e w' => e = .returned (.bool true) ∧ Below w.heap.size w w' := by
  obtain ⟨i0, hi, hz0, hz1, hz2⟩ := info_parts Tryd.info5
  have hc10 : (c == 10) = false := by rw [beq_eq_false_iff_ne]; exact h10
  have hKN : K ≤ N := by omega
  have HT : Hid (lineT (stepK [] false (List.replicate N c)).1 (stepK [] false (List.replicate N c)).2 = T ∧ lineE (stepK [] false (List.replicate N c)).1 (stepK [] false (List.replicate N c)).2 = E) := hT
  have HK : Hid ((0 < N ∧ 0 < cut ∧ cut % (N : Int) = K ∧ K < N) ∨ (N = 0 ∧ K = 0) ∨ (0 < N ∧ cut ≤ 0 ∧ K = 0)) := hK
  have HE : Hid ((65536 < N ∧ T = ⟨#[]⟩ ∧ E = 11) ∨ (N ≤ 65536 ∧ 127 < c ∧ 0 < N ∧ T = ⟨#[]⟩ ∧ E = 10) ∨ (N ≤ 65536 ∧ (c ≤ 127 ∨ N = 0) ∧ T = strOfNums (List.replicate N c) ∧ E = 0)) := hTE
  have H10 : Hid (c ≠ 10) := h10
  clear hT hK hTE h10
  go_enter Tryd.func6, Tryd.ntmps6
  go_wp2_with (first | (go_at_call 16; refine (new_any _).mono ?_; rintro e w' ⟨rfl, rfl⟩) | (at_make; refine wpList_make_full _ rfl _ _ 22 rfl 0 5 i0 (.int .u8 0) 1 Tryd.underlying22 hi hz0 hz1 .i64 .i64 _ _ N rfl rfl rfl rfl (by rw [hz2]; omega) (by unfold maxLen; omega) (Nat.zero_le _) ?_; intro w1 hown1 hgrow1))
  rw [World.size_alloc] at hown1
  go_loopw [9] (fun j wr => ∃ (i : Nat) (arr : Array Value), j = .int .i64 i ∧ i ≤ N ∧ wr.heap[w.heap.size + 1]? = some (.cells arr 5 (0, 0)) ∧ arr.size = N ∧ (∀ t, t < i → arr[t]? = some (.int .u8 c)) ∧ (∀ t, t < N → ∃ x, arr[t]? = some (.int .u8 x)) ∧ BufAt wr w.heap.size (.slice none 0 0) false ∧ Below w.heap.size w wr)
    (fun j _ => N - (intOf j).toNat)
  case atStart =>
    rcases hown1.2 with ⟨e, _⟩ | ⟨g, cap, cur, e, _, hgg, _, _, hcs, ht⟩
    · cases e
    · cases e
      rw [Nat.mul_one] at hcs ht
      have hcur : ∀ t, t < N → cur[t]? = some (.int .u8 0) := by
        intro t h
        have h2 := made_bytes N t h
        rw [Nat.mul_one, ← Array.getElem?_toList, ← ht, List.getElem?_take, if_pos h, Array.getElem?_toList] at h2
        exact h2
      have hb1 : Below w.heap.size w w1 := ((Below.refl _ w).alloc (Nat.le_refl _) _).grown hgrow1 (by simp) (fun k e => by cases e)
      refine ⟨0, cur, rfl, Nat.zero_le _, hgg, hcs, fun t h => by omega, fun t h => ⟨0, hcur t h⟩, ?_, hb1⟩
      exact (hgrow1.block w.heap.size (by simp) (by simp)).trans (World.alloc_heap_new w _)
  case round =>
    obtain ⟨i, arr, rfl, hiN, hblk, hsz, hdone, hall, hbuf, hbel⟩ := hrel
    by_cases hlt : i < N
    · obtain ⟨x, hx⟩ := hall i hlt
      have hcell : wr.cell? ⟨w.heap.size + 1, i, none⟩ = some (.int .u8 x) := by rw [cell_of_row wr _ i _ 5 (0, 0) hblk]; exact hx
      have hfr : wr.frozen? ⟨w.heap.size + 1, i, none⟩ = false := Joins.unfrozen_of_block hblk i
      have KK : Hid (wr.heap[w.heap.size + 1]? = some (.cells arr 5 (0, 0)) ∧ arr.size = N ∧ (∀ t, t < i → arr[t]? = some (.int .u8 c)) ∧ (∀ t, t < N → ∃ x, arr[t]? = some (.int .u8 x)) ∧ BufAt wr w.heap.size (.slice none 0 0) false) := ⟨hblk, hsz, hdone, hall, hbuf⟩
      clear hblk hsz hdone hall hbuf hx
      go_wp2
      go_roundw
      case rel =>
        obtain ⟨hblk, hsz, hdone, hall, hbuf⟩ := KK.out
        refine ⟨i + 1, arr.setIfInBounds i (.int .u8 c), by go_num, by omega, Joins.block_setCell hblk _, by simpa using hsz, ?_, ?_, ?_, hbel.setCell (p := ⟨w.heap.size + 1, i, none⟩) (by simp) _⟩
        · intro t ht
          by_cases e : t = i
          · subst e; rw [Array.getElem?_setIfInBounds_self_of_lt (by omega)]
          · rw [Array.getElem?_setIfInBounds_ne (fun e' => e e'.symm)]; exact hdone t (by omega)
        · intro t ht
          by_cases e : t = i
          · subst e; exact ⟨c, by rw [Array.getElem?_setIfInBounds_self_of_lt (by omega)]⟩
          · rw [Array.getElem?_setIfInBounds_ne (fun e' => e e'.symm)]; exact hall t ht
        · exact (Below.heap_setCell _ _ _ _ (by simp)).trans hbuf
      case measure => simp [intOf]; omega
    · obtain rfl : i = N := by omega
      have hLL : LL wr (w.heap.size + 1) i c := LL_of hblk hsz hdone
      have hkeep : Keeps wr w.heap.size (.slice none 0 0) [] false := ⟨hbuf, World.ownsRow_nil _ _ _ _, by simp, by simp⟩
      clear hblk hsz hdone hall hbuf hown1 hgrow1
      have hszr : w.heap.size + 1 < wr.heap.size := (Array.getElem?_eq_some_iff.1 hLL).1
      rcases HK.out with ⟨k1, k2, k3, k4⟩ | ⟨k1, k2⟩ | ⟨k1, k2, k3⟩
      · have hik : ¬ (i = K) := by omega
        rcases HE.out with ⟨t1, rfl, rfl⟩ | ⟨t1, t2, t3, rfl, rfl⟩ | ⟨t1, t2, rfl, rfl⟩
        · go_wp2_with (first
            | (go_at_call 19; refine (feed_long2 w4 w.heap.size (w.heap.size + 1) i K (i - K) c kv _ 0 hk4 hrow4 hLL4 (by omega) hown4 hfar4 (by omega) hc H10.out _ _ (by rw [show K + (i - K) = i by omega]; exact HT.out)).mono ?_; rintro e w5 ⟨g, yc, kv5, rfl, y0, y1, hk5, hLL5, hb5, hg5, hB5⟩)
            | (go_at_call 19; refine (feed_long1 wr w.heap.size (w.heap.size + 1) i K c hkeep hLL (by omega) hN hc H10.out hKN).mono ?_; rintro e w2 ⟨xa, xc, kv, rfl, hk2, hrow2, hLL2, hb2, hlt2⟩; have hn1 := long_news (K := K) hLL2 (.cells #[] 5); clear hkeep hLL)
            | (at_builtin; refine wpList_append_own_at _ rfl _ _ 22 rfl 0 5 i0 (.int .u8 0) 1 1 Tryd.underlying22 hi hz0 hz1 hz2 rfl (by decide) _ _ _ rfl (hown3.alloc _) ⟨w3.heap.size, 0, none⟩ 1 1 [.int .u8 10] rfl rfl (cell_one_new _ _ _) (by simp [Value.oneCell']) (by unfold maxLen; omega) (by omega) (Nat.zero_le _) ?_; intro v4 w4 hown4 hgrow4 _ hat4; obtain ⟨b24, hv4⟩ := long_mid hgrow3 hat3 hgrow4 hat4; have hk4 := hk2.below b24 (Nat.le_refl _); have hLL4 : LL w4 (w.heap.size + 1) i c := (b24.block _ hlt2).trans hLL2; have hrow4 : ∀ g, kv.ownBlock = some g → w.heap.size < g ∧ g ≠ w.heap.size + 1 := (fun g hg => by have := hrow2 g hg; omega); have hfar4 : ∀ g, v4.ownBlock = some g → g ≠ w.heap.size ∧ some g ≠ kv.ownBlock := (fun g hg => by have h1 := hv4 g hg; refine ⟨by omega, fun e => ?_⟩; have := (hk2.2.1.lt g e.symm).2; omega); obtain ⟨a4, c4, hv4', _⟩ := row_form hown4; subst hv4')
            | (at_builtin; refine wpList_append_own_at _ rfl _ _ 22 rfl 0 5 i0 (.int .u8 0) 1 1 Tryd.underlying22 hi hz0 hz1 hz2 rfl (by decide) _ _ _ rfl (World.ownsRow_made w2 #[] 0 (Nat.zero_le _) (Nat.zero_le _) rfl) ⟨w.heap.size + 1, K, none⟩ (i - K) _ (List.replicate (i - K) (.int .u8 c)) rfl (by simp) hn1 (fun u hu => by rw [List.eq_of_mem_replicate hu]; rfl) (by unfold maxLen; omega) (by omega) (Nat.zero_le _) ?_; intro v3 w3 hown3 hgrow3 _ hat3; rw [Nat.zero_add, List.nil_append] at hown3; obtain ⟨a3, c3, hv3', _⟩ := row_form hown3; subst hv3')
            | (go_at_call 20; refine (len_any w.heap.size kv5 [] false w5 hk5).mono ?_; rintro e w' ⟨rfl, hw'⟩; have hw2 := hw'.symm; subst hw2)
            | (go_at_call 10; refine (alive_any w5).mono ?_; rintro e w6 ⟨rfl, hb6⟩; have y06 := (hb6.cell (p := ⟨g, 0, none⟩) hg5).trans y0; have y16 := (hb6.cell (p := ⟨g, 1, none⟩) hg5).trans y1; have hLL6 : LL w6 (w.heap.size + 1) i c := (hb6.block _ hB5).trans hLL5; have hcv : ∀ q, (convert 22 9 (.slice (some ⟨w.heap.size + 1, 0, none⟩) i i)).run Tryd.prog (w6.drewN q) = .ok (.string (strOfNums (List.replicate i c))) (w6.drewN q) := fun q => conv_any (w6.drewN q) _ _ (LL.bts (W := w6.drewN q) hLL6 hN hc 0 i i (by omega) (Nat.le_refl _) hN (some ⟨w.heap.size + 1, 0, none⟩) (fun _ => rfl))))
          go_ret
          refine ⟨ret_bool ?_, ?_⟩
          · rfl
          · exact hbel.trans (hb2.trans ((b24.mono (by omega)).trans (hb5.trans (hb6.mono (by have := hb5.size; have := b24.size; omega)))))
        · go_wp2_with (first
            | (go_at_call 19; refine (feed_long2 w4 w.heap.size (w.heap.size + 1) i K (i - K) c kv _ 0 hk4 hrow4 hLL4 (by omega) hown4 hfar4 (by omega) hc H10.out _ _ (by rw [show K + (i - K) = i by omega]; exact HT.out)).mono ?_; rintro e w5 ⟨g, yc, kv5, rfl, y0, y1, hk5, hLL5, hb5, hg5, hB5⟩)
            | (go_at_call 19; refine (feed_long1 wr w.heap.size (w.heap.size + 1) i K c hkeep hLL (by omega) hN hc H10.out hKN).mono ?_; rintro e w2 ⟨xa, xc, kv, rfl, hk2, hrow2, hLL2, hb2, hlt2⟩; have hn1 := long_news (K := K) hLL2 (.cells #[] 5); clear hkeep hLL)
            | (at_builtin; refine wpList_append_own_at _ rfl _ _ 22 rfl 0 5 i0 (.int .u8 0) 1 1 Tryd.underlying22 hi hz0 hz1 hz2 rfl (by decide) _ _ _ rfl (hown3.alloc _) ⟨w3.heap.size, 0, none⟩ 1 1 [.int .u8 10] rfl rfl (cell_one_new _ _ _) (by simp [Value.oneCell']) (by unfold maxLen; omega) (by omega) (Nat.zero_le _) ?_; intro v4 w4 hown4 hgrow4 _ hat4; obtain ⟨b24, hv4⟩ := long_mid hgrow3 hat3 hgrow4 hat4; have hk4 := hk2.below b24 (Nat.le_refl _); have hLL4 : LL w4 (w.heap.size + 1) i c := (b24.block _ hlt2).trans hLL2; have hrow4 : ∀ g, kv.ownBlock = some g → w.heap.size < g ∧ g ≠ w.heap.size + 1 := (fun g hg => by have := hrow2 g hg; omega); have hfar4 : ∀ g, v4.ownBlock = some g → g ≠ w.heap.size ∧ some g ≠ kv.ownBlock := (fun g hg => by have h1 := hv4 g hg; refine ⟨by omega, fun e => ?_⟩; have := (hk2.2.1.lt g e.symm).2; omega); obtain ⟨a4, c4, hv4', _⟩ := row_form hown4; subst hv4')
            | (at_builtin; refine wpList_append_own_at _ rfl _ _ 22 rfl 0 5 i0 (.int .u8 0) 1 1 Tryd.underlying22 hi hz0 hz1 hz2 rfl (by decide) _ _ _ rfl (World.ownsRow_made w2 #[] 0 (Nat.zero_le _) (Nat.zero_le _) rfl) ⟨w.heap.size + 1, K, none⟩ (i - K) _ (List.replicate (i - K) (.int .u8 c)) rfl (by simp) hn1 (fun u hu => by rw [List.eq_of_mem_replicate hu]; rfl) (by unfold maxLen; omega) (by omega) (Nat.zero_le _) ?_; intro v3 w3 hown3 hgrow3 _ hat3; rw [Nat.zero_add, List.nil_append] at hown3; obtain ⟨a3, c3, hv3', _⟩ := row_form hown3; subst hv3')
            | (go_at_call 20; refine (len_any w.heap.size kv5 [] false w5 hk5).mono ?_; rintro e w' ⟨rfl, hw'⟩; have hw2 := hw'.symm; subst hw2)
            | (go_at_call 10; refine (alive_any w5).mono ?_; rintro e w6 ⟨rfl, hb6⟩; have y06 := (hb6.cell (p := ⟨g, 0, none⟩) hg5).trans y0; have y16 := (hb6.cell (p := ⟨g, 1, none⟩) hg5).trans y1; have hLL6 : LL w6 (w.heap.size + 1) i c := (hb6.block _ hB5).trans hLL5; have hcv : ∀ q, (convert 22 9 (.slice (some ⟨w.heap.size + 1, 0, none⟩) i i)).run Tryd.prog (w6.drewN q) = .ok (.string (strOfNums (List.replicate i c))) (w6.drewN q) := fun q => conv_any (w6.drewN q) _ _ (LL.bts (W := w6.drewN q) hLL6 hN hc 0 i i (by omega) (Nat.le_refl _) hN (some ⟨w.heap.size + 1, 0, none⟩) (fun _ => rfl))))
          go_ret
          refine ⟨ret_bool ?_, ?_⟩
          · rfl
          · exact hbel.trans (hb2.trans ((b24.mono (by omega)).trans (hb5.trans (hb6.mono (by have := hb5.size; have := b24.size; omega)))))
        · go_wp2_with (first
            | (go_at_call 19; refine (feed_long2 w4 w.heap.size (w.heap.size + 1) i K (i - K) c kv _ 0 hk4 hrow4 hLL4 (by omega) hown4 hfar4 (by omega) hc H10.out _ _ (by rw [show K + (i - K) = i by omega]; exact HT.out)).mono ?_; rintro e w5 ⟨g, yc, kv5, rfl, y0, y1, hk5, hLL5, hb5, hg5, hB5⟩)
            | (go_at_call 19; refine (feed_long1 wr w.heap.size (w.heap.size + 1) i K c hkeep hLL (by omega) hN hc H10.out hKN).mono ?_; rintro e w2 ⟨xa, xc, kv, rfl, hk2, hrow2, hLL2, hb2, hlt2⟩; have hn1 := long_news (K := K) hLL2 (.cells #[] 5); clear hkeep hLL)
            | (at_builtin; refine wpList_append_own_at _ rfl _ _ 22 rfl 0 5 i0 (.int .u8 0) 1 1 Tryd.underlying22 hi hz0 hz1 hz2 rfl (by decide) _ _ _ rfl (hown3.alloc _) ⟨w3.heap.size, 0, none⟩ 1 1 [.int .u8 10] rfl rfl (cell_one_new _ _ _) (by simp [Value.oneCell']) (by unfold maxLen; omega) (by omega) (Nat.zero_le _) ?_; intro v4 w4 hown4 hgrow4 _ hat4; obtain ⟨b24, hv4⟩ := long_mid hgrow3 hat3 hgrow4 hat4; have hk4 := hk2.below b24 (Nat.le_refl _); have hLL4 : LL w4 (w.heap.size + 1) i c := (b24.block _ hlt2).trans hLL2; have hrow4 : ∀ g, kv.ownBlock = some g → w.heap.size < g ∧ g ≠ w.heap.size + 1 := (fun g hg => by have := hrow2 g hg; omega); have hfar4 : ∀ g, v4.ownBlock = some g → g ≠ w.heap.size ∧ some g ≠ kv.ownBlock := (fun g hg => by have h1 := hv4 g hg; refine ⟨by omega, fun e => ?_⟩; have := (hk2.2.1.lt g e.symm).2; omega); obtain ⟨a4, c4, hv4', _⟩ := row_form hown4; subst hv4')
            | (at_builtin; refine wpList_append_own_at _ rfl _ _ 22 rfl 0 5 i0 (.int .u8 0) 1 1 Tryd.underlying22 hi hz0 hz1 hz2 rfl (by decide) _ _ _ rfl (World.ownsRow_made w2 #[] 0 (Nat.zero_le _) (Nat.zero_le _) rfl) ⟨w.heap.size + 1, K, none⟩ (i - K) _ (List.replicate (i - K) (.int .u8 c)) rfl (by simp) hn1 (fun u hu => by rw [List.eq_of_mem_replicate hu]; rfl) (by unfold maxLen; omega) (by omega) (Nat.zero_le _) ?_; intro v3 w3 hown3 hgrow3 _ hat3; rw [Nat.zero_add, List.nil_append] at hown3; obtain ⟨a3, c3, hv3', _⟩ := row_form hown3; subst hv3')
            | (go_at_call 20; refine (len_any w.heap.size kv5 [] false w5 hk5).mono ?_; rintro e w' ⟨rfl, hw'⟩; have hw2 := hw'.symm; subst hw2)
            | (go_at_call 10; refine (alive_any w5).mono ?_; rintro e w6 ⟨rfl, hb6⟩; have y06 := (hb6.cell (p := ⟨g, 0, none⟩) hg5).trans y0; have y16 := (hb6.cell (p := ⟨g, 1, none⟩) hg5).trans y1; have hLL6 : LL w6 (w.heap.size + 1) i c := (hb6.block _ hB5).trans hLL5; have hcv : ∀ q, (convert 22 9 (.slice (some ⟨w.heap.size + 1, 0, none⟩) i i)).run Tryd.prog (w6.drewN q) = .ok (.string (strOfNums (List.replicate i c))) (w6.drewN q) := fun q => conv_any (w6.drewN q) _ _ (LL.bts (W := w6.drewN q) hLL6 hN hc 0 i i (by omega) (Nat.le_refl _) hN (some ⟨w.heap.size + 1, 0, none⟩) (fun _ => rfl))))
          go_quiet (fail)
          go_wp2
          go_ret
          refine ⟨ret_bool ?_, ?_⟩
          · simp
          · exact hbel.trans (hb2.trans ((b24.mono (by omega)).trans (hb5.trans ((show Below w5.heap.size w5 (w6.drewN _) from ⟨hb6.os, hb6.tape, hb6.output, hb6.size, hb6.block⟩).mono (by have := hb5.size; have := b24.size; omega)))))
      · subst k1; subst k2
        rcases HE.out with ⟨t1, rfl, rfl⟩ | ⟨t1, t2, t3, rfl, rfl⟩ | ⟨t1, t2, rfl, rfl⟩
        · exact absurd t1 (by omega)
        · exact absurd t3 (by omega)
        · by_cases h127 : 127 < c
          · go_wp2_with (first
              | (go_at_call 19; refine (feed_long2 w4 w.heap.size (w.heap.size + 1) 0 0 (0 - 0) c kv _ 0 hk4 hrow4 hLL4 (by omega) hown4 hfar4 (by omega) hc H10.out _ _ (by rw [show 0 + (0 - 0) = 0 by omega]; exact HT.out)).mono ?_; rintro e w5 ⟨g, yc, kv5, rfl, y0, y1, hk5, hLL5, hb5, hg5, hB5⟩)
              | (go_at_call 19; refine (feed_long1 wr w.heap.size (w.heap.size + 1) 0 0 c hkeep hLL (by omega) hN hc H10.out hKN).mono ?_; rintro e w2 ⟨xa, xc, kv, rfl, hk2, hrow2, hLL2, hb2, hlt2⟩; have hn1 := long_news (K := 0) hLL2 (.cells #[] 5); clear hkeep hLL)
              | (at_builtin; refine wpList_append_own_at _ rfl _ _ 22 rfl 0 5 i0 (.int .u8 0) 1 1 Tryd.underlying22 hi hz0 hz1 hz2 rfl (by decide) _ _ _ rfl (hown3.alloc _) ⟨w3.heap.size, 0, none⟩ 1 1 [.int .u8 10] rfl rfl (cell_one_new _ _ _) (by simp [Value.oneCell']) (by unfold maxLen; omega) (by omega) (Nat.zero_le _) ?_; intro v4 w4 hown4 hgrow4 _ hat4; obtain ⟨b24, hv4⟩ := long_mid hgrow3 hat3 hgrow4 hat4; have hk4 := hk2.below b24 (Nat.le_refl _); have hLL4 : LL w4 (w.heap.size + 1) 0 c := (b24.block _ hlt2).trans hLL2; have hrow4 : ∀ g, kv.ownBlock = some g → w.heap.size < g ∧ g ≠ w.heap.size + 1 := (fun g hg => by have := hrow2 g hg; omega); have hfar4 : ∀ g, v4.ownBlock = some g → g ≠ w.heap.size ∧ some g ≠ kv.ownBlock := (fun g hg => by have h1 := hv4 g hg; refine ⟨by omega, fun e => ?_⟩; have := (hk2.2.1.lt g e.symm).2; omega); obtain ⟨a4, c4, hv4', _⟩ := row_form hown4; subst hv4')
              | (at_builtin; refine wpList_append_own_at _ rfl _ _ 22 rfl 0 5 i0 (.int .u8 0) 1 1 Tryd.underlying22 hi hz0 hz1 hz2 rfl (by decide) _ _ _ rfl (World.ownsRow_made w2 #[] 0 (Nat.zero_le _) (Nat.zero_le _) rfl) ⟨w.heap.size + 1, 0, none⟩ (0 - 0) _ (List.replicate (0 - 0) (.int .u8 c)) rfl (by simp) hn1 (fun u hu => by rw [List.eq_of_mem_replicate hu]; rfl) (by unfold maxLen; omega) (by omega) (Nat.zero_le _) ?_; intro v3 w3 hown3 hgrow3 _ hat3; rw [Nat.zero_add, List.nil_append] at hown3; obtain ⟨a3, c3, hv3', _⟩ := row_form hown3; subst hv3')
              | (go_at_call 20; refine (len_any w.heap.size kv5 [] false w5 hk5).mono ?_; rintro e w' ⟨rfl, hw'⟩; have hw2 := hw'.symm; subst hw2)
              | (go_at_call 10; refine (alive_any w5).mono ?_; rintro e w6 ⟨rfl, hb6⟩; have y06 := (hb6.cell (p := ⟨g, 0, none⟩) hg5).trans y0; have y16 := (hb6.cell (p := ⟨g, 1, none⟩) hg5).trans y1; have hLL6 : LL w6 (w.heap.size + 1) 0 c := (hb6.block _ hB5).trans hLL5; have hcv : ∀ q, (convert 22 9 (.slice (some ⟨w.heap.size + 1, 0, none⟩) 0 0)).run Tryd.prog (w6.drewN q) = .ok (.string (strOfNums (List.replicate 0 c))) (w6.drewN q) := fun q => conv_any (w6.drewN q) _ _ (LL.bts (W := w6.drewN q) hLL6 hN hc 0 0 0 (by omega) (Nat.le_refl _) hN (some ⟨w.heap.size + 1, 0, none⟩) (fun _ => rfl))))
            go_quiet (fail)
            go_wp2
            go_ret
            refine ⟨ret_bool ?_, ?_⟩
            · simp
            · exact hbel.trans (hb2.trans ((b24.mono (by omega)).trans (hb5.trans ((show Below w5.heap.size w5 (w6.drewN _) from ⟨hb6.os, hb6.tape, hb6.output, hb6.size, hb6.block⟩).mono (by have := hb5.size; have := b24.size; omega)))))
          · go_wp2_with (first
              | (go_at_call 19; refine (feed_long2 w4 w.heap.size (w.heap.size + 1) 0 0 (0 - 0) c kv _ 0 hk4 hrow4 hLL4 (by omega) hown4 hfar4 (by omega) hc H10.out _ _ (by rw [show 0 + (0 - 0) = 0 by omega]; exact HT.out)).mono ?_; rintro e w5 ⟨g, yc, kv5, rfl, y0, y1, hk5, hLL5, hb5, hg5, hB5⟩)
              | (go_at_call 19; refine (feed_long1 wr w.heap.size (w.heap.size + 1) 0 0 c hkeep hLL (by omega) hN hc H10.out hKN).mono ?_; rintro e w2 ⟨xa, xc, kv, rfl, hk2, hrow2, hLL2, hb2, hlt2⟩; have hn1 := long_news (K := 0) hLL2 (.cells #[] 5); clear hkeep hLL)
              | (at_builtin; refine wpList_append_own_at _ rfl _ _ 22 rfl 0 5 i0 (.int .u8 0) 1 1 Tryd.underlying22 hi hz0 hz1 hz2 rfl (by decide) _ _ _ rfl (hown3.alloc _) ⟨w3.heap.size, 0, none⟩ 1 1 [.int .u8 10] rfl rfl (cell_one_new _ _ _) (by simp [Value.oneCell']) (by unfold maxLen; omega) (by omega) (Nat.zero_le _) ?_; intro v4 w4 hown4 hgrow4 _ hat4; obtain ⟨b24, hv4⟩ := long_mid hgrow3 hat3 hgrow4 hat4; have hk4 := hk2.below b24 (Nat.le_refl _); have hLL4 : LL w4 (w.heap.size + 1) 0 c := (b24.block _ hlt2).trans hLL2; have hrow4 : ∀ g, kv.ownBlock = some g → w.heap.size < g ∧ g ≠ w.heap.size + 1 := (fun g hg => by have := hrow2 g hg; omega); have hfar4 : ∀ g, v4.ownBlock = some g → g ≠ w.heap.size ∧ some g ≠ kv.ownBlock := (fun g hg => by have h1 := hv4 g hg; refine ⟨by omega, fun e => ?_⟩; have := (hk2.2.1.lt g e.symm).2; omega); obtain ⟨a4, c4, hv4', _⟩ := row_form hown4; subst hv4')
              | (at_builtin; refine wpList_append_own_at _ rfl _ _ 22 rfl 0 5 i0 (.int .u8 0) 1 1 Tryd.underlying22 hi hz0 hz1 hz2 rfl (by decide) _ _ _ rfl (World.ownsRow_made w2 #[] 0 (Nat.zero_le _) (Nat.zero_le _) rfl) ⟨w.heap.size + 1, 0, none⟩ (0 - 0) _ (List.replicate (0 - 0) (.int .u8 c)) rfl (by simp) hn1 (fun u hu => by rw [List.eq_of_mem_replicate hu]; rfl) (by unfold maxLen; omega) (by omega) (Nat.zero_le _) ?_; intro v3 w3 hown3 hgrow3 _ hat3; rw [Nat.zero_add, List.nil_append] at hown3; obtain ⟨a3, c3, hv3', _⟩ := row_form hown3; subst hv3')
              | (go_at_call 20; refine (len_any w.heap.size kv5 [] false w5 hk5).mono ?_; rintro e w' ⟨rfl, hw'⟩; have hw2 := hw'.symm; subst hw2)
              | (go_at_call 10; refine (alive_any w5).mono ?_; rintro e w6 ⟨rfl, hb6⟩; have y06 := (hb6.cell (p := ⟨g, 0, none⟩) hg5).trans y0; have y16 := (hb6.cell (p := ⟨g, 1, none⟩) hg5).trans y1; have hLL6 : LL w6 (w.heap.size + 1) 0 c := (hb6.block _ hB5).trans hLL5; have hcv : ∀ q, (convert 22 9 (.slice (some ⟨w.heap.size + 1, 0, none⟩) 0 0)).run Tryd.prog (w6.drewN q) = .ok (.string (strOfNums (List.replicate 0 c))) (w6.drewN q) := fun q => conv_any (w6.drewN q) _ _ (LL.bts (W := w6.drewN q) hLL6 hN hc 0 0 0 (by omega) (Nat.le_refl _) hN (some ⟨w.heap.size + 1, 0, none⟩) (fun _ => rfl))))
            go_quiet (fail)
            go_wp2
            go_ret
            refine ⟨ret_bool ?_, ?_⟩
            · simp
            · exact hbel.trans (hb2.trans ((b24.mono (by omega)).trans (hb5.trans ((show Below w5.heap.size w5 (w6.drewN _) from ⟨hb6.os, hb6.tape, hb6.output, hb6.size, hb6.block⟩).mono (by have := hb5.size; have := b24.size; omega)))))
      · subst k3; have hik : ¬ (i = 0) := by omega
        rcases HE.out with ⟨t1, rfl, rfl⟩ | ⟨t1, t2, t3, rfl, rfl⟩ | ⟨t1, t2, rfl, rfl⟩
        · go_wp2_with (first
            | (go_at_call 19; refine (feed_long2 w4 w.heap.size (w.heap.size + 1) i 0 (i - 0) c kv _ 0 hk4 hrow4 hLL4 (by omega) hown4 hfar4 (by omega) hc H10.out _ _ (by rw [show 0 + (i - 0) = i by omega]; exact HT.out)).mono ?_; rintro e w5 ⟨g, yc, kv5, rfl, y0, y1, hk5, hLL5, hb5, hg5, hB5⟩)
            | (go_at_call 19; refine (feed_long1 wr w.heap.size (w.heap.size + 1) i 0 c hkeep hLL (by omega) hN hc H10.out hKN).mono ?_; rintro e w2 ⟨xa, xc, kv, rfl, hk2, hrow2, hLL2, hb2, hlt2⟩; have hn1 := long_news (K := 0) hLL2 (.cells #[] 5); clear hkeep hLL)
            | (at_builtin; refine wpList_append_own_at _ rfl _ _ 22 rfl 0 5 i0 (.int .u8 0) 1 1 Tryd.underlying22 hi hz0 hz1 hz2 rfl (by decide) _ _ _ rfl (hown3.alloc _) ⟨w3.heap.size, 0, none⟩ 1 1 [.int .u8 10] rfl rfl (cell_one_new _ _ _) (by simp [Value.oneCell']) (by unfold maxLen; omega) (by omega) (Nat.zero_le _) ?_; intro v4 w4 hown4 hgrow4 _ hat4; obtain ⟨b24, hv4⟩ := long_mid hgrow3 hat3 hgrow4 hat4; have hk4 := hk2.below b24 (Nat.le_refl _); have hLL4 : LL w4 (w.heap.size + 1) i c := (b24.block _ hlt2).trans hLL2; have hrow4 : ∀ g, kv.ownBlock = some g → w.heap.size < g ∧ g ≠ w.heap.size + 1 := (fun g hg => by have := hrow2 g hg; omega); have hfar4 : ∀ g, v4.ownBlock = some g → g ≠ w.heap.size ∧ some g ≠ kv.ownBlock := (fun g hg => by have h1 := hv4 g hg; refine ⟨by omega, fun e => ?_⟩; have := (hk2.2.1.lt g e.symm).2; omega); obtain ⟨a4, c4, hv4', _⟩ := row_form hown4; subst hv4')
            | (at_builtin; refine wpList_append_own_at _ rfl _ _ 22 rfl 0 5 i0 (.int .u8 0) 1 1 Tryd.underlying22 hi hz0 hz1 hz2 rfl (by decide) _ _ _ rfl (World.ownsRow_made w2 #[] 0 (Nat.zero_le _) (Nat.zero_le _) rfl) ⟨w.heap.size + 1, 0, none⟩ (i - 0) _ (List.replicate (i - 0) (.int .u8 c)) rfl (by simp) hn1 (fun u hu => by rw [List.eq_of_mem_replicate hu]; rfl) (by unfold maxLen; omega) (by omega) (Nat.zero_le _) ?_; intro v3 w3 hown3 hgrow3 _ hat3; rw [Nat.zero_add, List.nil_append] at hown3; obtain ⟨a3, c3, hv3', _⟩ := row_form hown3; subst hv3')
            | (go_at_call 20; refine (len_any w.heap.size kv5 [] false w5 hk5).mono ?_; rintro e w' ⟨rfl, hw'⟩; have hw2 := hw'.symm; subst hw2)
            | (go_at_call 10; refine (alive_any w5).mono ?_; rintro e w6 ⟨rfl, hb6⟩; have y06 := (hb6.cell (p := ⟨g, 0, none⟩) hg5).trans y0; have y16 := (hb6.cell (p := ⟨g, 1, none⟩) hg5).trans y1; have hLL6 : LL w6 (w.heap.size + 1) i c := (hb6.block _ hB5).trans hLL5; have hcv : ∀ q, (convert 22 9 (.slice (some ⟨w.heap.size + 1, 0, none⟩) i i)).run Tryd.prog (w6.drewN q) = .ok (.string (strOfNums (List.replicate i c))) (w6.drewN q) := fun q => conv_any (w6.drewN q) _ _ (LL.bts (W := w6.drewN q) hLL6 hN hc 0 i i (by omega) (Nat.le_refl _) hN (some ⟨w.heap.size + 1, 0, none⟩) (fun _ => rfl))))
          go_ret
          refine ⟨ret_bool ?_, ?_⟩
          · rfl
          · exact hbel.trans (hb2.trans ((b24.mono (by omega)).trans (hb5.trans (hb6.mono (by have := hb5.size; have := b24.size; omega)))))
        · go_wp2_with (first
            | (go_at_call 19; refine (feed_long2 w4 w.heap.size (w.heap.size + 1) i 0 (i - 0) c kv _ 0 hk4 hrow4 hLL4 (by omega) hown4 hfar4 (by omega) hc H10.out _ _ (by rw [show 0 + (i - 0) = i by omega]; exact HT.out)).mono ?_; rintro e w5 ⟨g, yc, kv5, rfl, y0, y1, hk5, hLL5, hb5, hg5, hB5⟩)
            | (go_at_call 19; refine (feed_long1 wr w.heap.size (w.heap.size + 1) i 0 c hkeep hLL (by omega) hN hc H10.out hKN).mono ?_; rintro e w2 ⟨xa, xc, kv, rfl, hk2, hrow2, hLL2, hb2, hlt2⟩; have hn1 := long_news (K := 0) hLL2 (.cells #[] 5); clear hkeep hLL)
            | (at_builtin; refine wpList_append_own_at _ rfl _ _ 22 rfl 0 5 i0 (.int .u8 0) 1 1 Tryd.underlying22 hi hz0 hz1 hz2 rfl (by decide) _ _ _ rfl (hown3.alloc _) ⟨w3.heap.size, 0, none⟩ 1 1 [.int .u8 10] rfl rfl (cell_one_new _ _ _) (by simp [Value.oneCell']) (by unfold maxLen; omega) (by omega) (Nat.zero_le _) ?_; intro v4 w4 hown4 hgrow4 _ hat4; obtain ⟨b24, hv4⟩ := long_mid hgrow3 hat3 hgrow4 hat4; have hk4 := hk2.below b24 (Nat.le_refl _); have hLL4 : LL w4 (w.heap.size + 1) i c := (b24.block _ hlt2).trans hLL2; have hrow4 : ∀ g, kv.ownBlock = some g → w.heap.size < g ∧ g ≠ w.heap.size + 1 := (fun g hg => by have := hrow2 g hg; omega); have hfar4 : ∀ g, v4.ownBlock = some g → g ≠ w.heap.size ∧ some g ≠ kv.ownBlock := (fun g hg => by have h1 := hv4 g hg; refine ⟨by omega, fun e => ?_⟩; have := (hk2.2.1.lt g e.symm).2; omega); obtain ⟨a4, c4, hv4', _⟩ := row_form hown4; subst hv4')
            | (at_builtin; refine wpList_append_own_at _ rfl _ _ 22 rfl 0 5 i0 (.int .u8 0) 1 1 Tryd.underlying22 hi hz0 hz1 hz2 rfl (by decide) _ _ _ rfl (World.ownsRow_made w2 #[] 0 (Nat.zero_le _) (Nat.zero_le _) rfl) ⟨w.heap.size + 1, 0, none⟩ (i - 0) _ (List.replicate (i - 0) (.int .u8 c)) rfl (by simp) hn1 (fun u hu => by rw [List.eq_of_mem_replicate hu]; rfl) (by unfold maxLen; omega) (by omega) (Nat.zero_le _) ?_; intro v3 w3 hown3 hgrow3 _ hat3; rw [Nat.zero_add, List.nil_append] at hown3; obtain ⟨a3, c3, hv3', _⟩ := row_form hown3; subst hv3')
            | (go_at_call 20; refine (len_any w.heap.size kv5 [] false w5 hk5).mono ?_; rintro e w' ⟨rfl, hw'⟩; have hw2 := hw'.symm; subst hw2)
            | (go_at_call 10; refine (alive_any w5).mono ?_; rintro e w6 ⟨rfl, hb6⟩; have y06 := (hb6.cell (p := ⟨g, 0, none⟩) hg5).trans y0; have y16 := (hb6.cell (p := ⟨g, 1, none⟩) hg5).trans y1; have hLL6 : LL w6 (w.heap.size + 1) i c := (hb6.block _ hB5).trans hLL5; have hcv : ∀ q, (convert 22 9 (.slice (some ⟨w.heap.size + 1, 0, none⟩) i i)).run Tryd.prog (w6.drewN q) = .ok (.string (strOfNums (List.replicate i c))) (w6.drewN q) := fun q => conv_any (w6.drewN q) _ _ (LL.bts (W := w6.drewN q) hLL6 hN hc 0 i i (by omega) (Nat.le_refl _) hN (some ⟨w.heap.size + 1, 0, none⟩) (fun _ => rfl))))
          go_ret
          refine ⟨ret_bool ?_, ?_⟩
          · rfl
          · exact hbel.trans (hb2.trans ((b24.mono (by omega)).trans (hb5.trans (hb6.mono (by have := hb5.size; have := b24.size; omega)))))
        · go_wp2_with (first
            | (go_at_call 19; refine (feed_long2 w4 w.heap.size (w.heap.size + 1) i 0 (i - 0) c kv _ 0 hk4 hrow4 hLL4 (by omega) hown4 hfar4 (by omega) hc H10.out _ _ (by rw [show 0 + (i - 0) = i by omega]; exact HT.out)).mono ?_; rintro e w5 ⟨g, yc, kv5, rfl, y0, y1, hk5, hLL5, hb5, hg5, hB5⟩)
            | (go_at_call 19; refine (feed_long1 wr w.heap.size (w.heap.size + 1) i 0 c hkeep hLL (by omega) hN hc H10.out hKN).mono ?_; rintro e w2 ⟨xa, xc, kv, rfl, hk2, hrow2, hLL2, hb2, hlt2⟩; have hn1 := long_news (K := 0) hLL2 (.cells #[] 5); clear hkeep hLL)
            | (at_builtin; refine wpList_append_own_at _ rfl _ _ 22 rfl 0 5 i0 (.int .u8 0) 1 1 Tryd.underlying22 hi hz0 hz1 hz2 rfl (by decide) _ _ _ rfl (hown3.alloc _) ⟨w3.heap.size, 0, none⟩ 1 1 [.int .u8 10] rfl rfl (cell_one_new _ _ _) (by simp [Value.oneCell']) (by unfold maxLen; omega) (by omega) (Nat.zero_le _) ?_; intro v4 w4 hown4 hgrow4 _ hat4; obtain ⟨b24, hv4⟩ := long_mid hgrow3 hat3 hgrow4 hat4; have hk4 := hk2.below b24 (Nat.le_refl _); have hLL4 : LL w4 (w.heap.size + 1) i c := (b24.block _ hlt2).trans hLL2; have hrow4 : ∀ g, kv.ownBlock = some g → w.heap.size < g ∧ g ≠ w.heap.size + 1 := (fun g hg => by have := hrow2 g hg; omega); have hfar4 : ∀ g, v4.ownBlock = some g → g ≠ w.heap.size ∧ some g ≠ kv.ownBlock := (fun g hg => by have h1 := hv4 g hg; refine ⟨by omega, fun e => ?_⟩; have := (hk2.2.1.lt g e.symm).2; omega); obtain ⟨a4, c4, hv4', _⟩ := row_form hown4; subst hv4')
            | (at_builtin; refine wpList_append_own_at _ rfl _ _ 22 rfl 0 5 i0 (.int .u8 0) 1 1 Tryd.underlying22 hi hz0 hz1 hz2 rfl (by decide) _ _ _ rfl (World.ownsRow_made w2 #[] 0 (Nat.zero_le _) (Nat.zero_le _) rfl) ⟨w.heap.size + 1, 0, none⟩ (i - 0) _ (List.replicate (i - 0) (.int .u8 c)) rfl (by simp) hn1 (fun u hu => by rw [List.eq_of_mem_replicate hu]; rfl) (by unfold maxLen; omega) (by omega) (Nat.zero_le _) ?_; intro v3 w3 hown3 hgrow3 _ hat3; rw [Nat.zero_add, List.nil_append] at hown3; obtain ⟨a3, c3, hv3', _⟩ := row_form hown3; subst hv3')
            | (go_at_call 20; refine (len_any w.heap.size kv5 [] false w5 hk5).mono ?_; rintro e w' ⟨rfl, hw'⟩; have hw2 := hw'.symm; subst hw2)
            | (go_at_call 10; refine (alive_any w5).mono ?_; rintro e w6 ⟨rfl, hb6⟩; have y06 := (hb6.cell (p := ⟨g, 0, none⟩) hg5).trans y0; have y16 := (hb6.cell (p := ⟨g, 1, none⟩) hg5).trans y1; have hLL6 : LL w6 (w.heap.size + 1) i c := (hb6.block _ hB5).trans hLL5; have hcv : ∀ q, (convert 22 9 (.slice (some ⟨w.heap.size + 1, 0, none⟩) i i)).run Tryd.prog (w6.drewN q) = .ok (.string (strOfNums (List.replicate i c))) (w6.drewN q) := fun q => conv_any (w6.drewN q) _ _ (LL.bts (W := w6.drewN q) hLL6 hN hc 0 i i (by omega) (Nat.le_refl _) hN (some ⟨w.heap.size + 1, 0, none⟩) (fun _ => rfl))))
          go_quiet (fail)
          go_wp2
          go_ret
          refine ⟨ret_bool ?_, ?_⟩
          · simp
          · exact hbel.trans (hb2.trans ((b24.mono (by omega)).trans (hb5.trans ((show Below w5.heap.size w5 (w6.drewN _) from ⟨hb6.os, hb6.tape, hb6.output, hb6.size, hb6.block⟩).mono (by have := hb5.size; have := b24.size; omega)))))

end Go.Proofs.YtdbfmjfbiokfdaaDoor
