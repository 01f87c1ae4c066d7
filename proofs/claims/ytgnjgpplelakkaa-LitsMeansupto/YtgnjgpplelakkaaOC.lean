import Derived.Test.YtgnjgpplelakkaaUA

/-
  The document's interpretations in memory: numbers that are read, a world, its things.
-/
namespace Go.Proofs.Ytgnjgpplelakkaa
open Go.RowKit

/-- Numbers that are read. -/
def IntsAt (W : World) (v : Value) (l : List Int) : Prop :=
  ∃ a c, v = .slice a l.length c ∧ l.length ≤ c ∧ c ≤ 9223372036854775807 ∧ (0 < l.length → ∃ b o, a = some ⟨b, o, none⟩ ∧ b < W.heap.size ∧ ∀ i (h : i < l.length), W.cell? ⟨b, o + i, none⟩ = some (.int .i64 l[i]))

theorem IntsAt.keep {W W' : World} {v : Value} {l : List Int} (h : IntsAt W v l) (hb : Below W.heap.size W W') : IntsAt W' v l := by
  obtain ⟨a, c, rfl, h1, h2, h3⟩ := h
  refine ⟨a, c, rfl, h1, h2, fun h0 => ?_⟩
  obtain ⟨b, o, rfl, hlt, h4⟩ := h3 h0
  exact ⟨b, o, rfl, Nat.lt_of_lt_of_le hlt hb.size, fun i hi => kc hb hlt (h4 i hi)⟩

theorem IntsAt.slice {W : World} {v : Value} {l : List Int} (h : IntsAt W v l) : ∃ a c, v = .slice a l.length c := by
  obtain ⟨a, c, rfl, _⟩ := h
  exact ⟨a, c, rfl⟩

theorem IntsAt.len {W : World} {v : Value} {l : List Int} (h : IntsAt W v l) : l.length ≤ 9223372036854775807 := by
  obtain ⟨a, c, rfl, h1, h2, _⟩ := h
  omega

theorem IntsAt.nth {W : World} {a : Option Addr} {c n : Nat} {l : List Int} (h : IntsAt W (.slice a n c) l) {i : Nat} (hi : i < l.length) : ∃ b o, a = some ⟨b, o, none⟩ ∧ b < W.heap.size ∧ W.cell? ⟨b, o + i, none⟩ = some (.int .i64 l[i]) := by
  obtain ⟨a', c', e, h1, h2, h3⟩ := h
  cases e
  obtain ⟨b, o, rfl, hlt, h4⟩ := h3 (by omega)
  exact ⟨b, o, rfl, hlt, h4 i hi⟩

theorem ints_of_row {W : World} {base : Nat} {v : Value} {k : Nat} {xs : List Int} (h : W.ownsRow base 3 1 v k (xs.map (Value.int .i64))) : IntsAt W v xs := by
  have hk : xs.length = k := by simpa using h.1
  subst hk
  rcases h.2 with ⟨e0, h0⟩ | ⟨g, cap, cur, e0, hb, hg, hn, hm, hs, ht⟩
  · subst e0
    exact ⟨none, 0, by rw [h0], by omega, by decide, fun h => absurd h (by omega)⟩
  · subst e0
    refine ⟨_, _, rfl, hn, by unfold maxLen at hm; omega, fun h0 => ⟨g, 0, rfl, ?_, fun i hi => ?_⟩⟩
    · obtain ⟨g', e, hlt, _, _⟩ := row_get h h0
      cases e
      exact hlt
    · obtain ⟨g', e, hlt, _, hc⟩ := row_get h hi
      cases e
      rw [Nat.zero_add]
      exact hc

/-- A world's value: how many things there are, its rule. -/
abbrev wval (sz : Int) (vr : Value) : Value := .agg #[.int .i64 sz, vr]
abbrev wbox (sz : Int) (vr : Value) : Obj := .cells #[.int .i64 sz, vr] 50

theorem wbox_cells (w : World) (sz : Int) (vr : Value) : (w.alloc (wbox sz vr)).cell? ⟨w.heap.size, 0, none⟩ = some (.int .i64 sz) ∧ (w.alloc (wbox sz vr)).cell? ⟨w.heap.size, 1, none⟩ = some vr := by
  have h : (w.alloc (wbox sz vr)).heap[w.heap.size]? = some (.cells [Value.int .i64 sz, vr].toArray 50 (0, 0)) := (MapKept.heap_alloc w (wbox sz vr)).1
  refine ⟨?_, ?_⟩ <;> rw [cell_of_row _ _ _ _ 50 (0, 0) h] <;> rfl

/-- A thing of any number. -/
def thg (sz n : Int) : Int := if n.tmod sz < 0 then n.tmod sz + sz else n.tmod sz

theorem thg_in {sz y : Int} (h0 : 0 ≤ y) (h1 : y < sz) : thg sz y = y := by
  have : y.tmod sz = y := Int.tmod_eq_of_lt h0 h1
  unfold thg
  rw [this, if_neg (by omega)]

theorem thing_any (sz : Int) (h1 : 1 ≤ sz) (h3 : sz ≤ 3) (vr : Value) (n : Int) (w : World) :
    Calls Try.prog 125 #[wval sz vr, .int .i64 n] w fun e w' => e = .returned (.int .i64 (thg sz n)) ∧ Below w.heap.size w w' := by
  obtain ⟨c0, c1⟩ := wbox_cells w sz vr
  have hz : ¬ sz = 0 := by omega
  have hlo : -3 < n.tmod sz := by
    have := Int.lt_tmod_of_pos n (show 0 < sz by omega)
    omega
  have HT : Hid (thg sz n = _) := rfl
  go_enter Try.func125, Try.ntmps125
  go_wp2
  all_goals go_ret
  · exact ⟨ret_i64 (by unfold thg; rw [if_pos (by assumption)]), below_box w _⟩
  · exact ⟨ret_i64 (by unfold thg; rw [if_neg (by omega)]), below_box w _⟩

end Go.Proofs.Ytgnjgpplelakkaa

/-
  The document's interpretations: pick.
-/
namespace Go.Proofs.Ytgnjgpplelakkaa
open Go.RowKit

/-- A byte more. -/
def hbs (fn : ByteArray) (h : Int) : Nat → Int
  | 0 => h
  | k + 1 => if hk : k < fn.size then IntKind.u64.wrap (IntKind.u64.wrap (hbs fn h k * 131) + IntKind.u64.wrap fn[k].toNat) else hbs fn h k
/-- A thing more. -/
def has (xs : List Int) (h : Int) : Nat → Int
  | 0 => h
  | k + 1 => if hk : k < xs.length then IntKind.u64.wrap (IntKind.u64.wrap (IntKind.u64.wrap (has xs h k * 7) + IntKind.u64.wrap xs[k]) + 1) else has xs h k

theorem hbs_succ (fn : ByteArray) (h : Int) (k : Nat) (hk : k < fn.size) : IntKind.u64.wrap (IntKind.u64.wrap (hbs fn h k * 131) + IntKind.u64.wrap fn[k].toNat) = hbs fn h (k + 1) := by
  rw [hbs, dif_pos hk]
theorem has_succ (xs : List Int) (h : Int) (k : Nat) (hk : k < xs.length) : IntKind.u64.wrap (IntKind.u64.wrap (IntKind.u64.wrap (has xs h k * 7) + IntKind.u64.wrap xs[k]) + 1) = has xs h (k + 1) := by
  rw [has, dif_pos hk]

def pkH (fn : ByteArray) (xs : List Int) : Int := has xs (hbs fn xs.length fn.size) xs.length
def pkX (H : Int) : Int := bits .xor .u64 H (H / 128)
theorem pkX_nonneg (H : Int) : 0 ≤ pkX H := by
  have := wf_bits .xor .u64 H (H / 128)
  simp [Lit.wf, IntKind.min, IntKind.max, IntKind.signed, IntKind.bits] at this
  exact this.1
def pkI (rule : List Int) (fn : ByteArray) (xs : List Int) : Nat := ((pkX (pkH fn xs)).tmod rule.length).toNat
theorem pkI_lt (rule : List Int) (hr : 0 < rule.length) (fn : ByteArray) (xs : List Int) : (pkX (pkH fn xs)).tmod rule.length = ((pkI rule fn xs : Nat) : Int) ∧ pkI rule fn xs < rule.length := by
  have h0 := pkX_nonneg (pkH fn xs)
  have h1 : 0 ≤ (pkX (pkH fn xs)).tmod rule.length := Int.tmod_nonneg _ h0
  have h2 : (pkX (pkH fn xs)).tmod rule.length < rule.length := Int.tmod_lt_of_pos _ (by omega)
  unfold pkI
  omega
def pkR (rule : List Int) (fn : ByteArray) (xs : List Int) : Int := rule.getD (pkI rule fn xs) 0

/-- Is it a predicate's name? -/
def atB (fn : ByteArray) : Bool := if h : 0 < fn.size then decide ((fn[0].toNat : Int) = 64) else false
/-- What a function is of things. -/
def pk (sz : Int) (rule : List Int) (fn : ByteArray) (xs : List Int) : Int :=
  if fn.toList = [36, 116, 114, 117, 101] then 1001 else if atB fn = true then (if (pkR rule fn xs).tmod 2 = 0 then 1000 else 1001) else thg sz (pkR rule fn xs)

theorem pk_true {sz : Int} {rule : List Int} {fn : ByteArray} {xs : List Int} (h : fn.toList = [36, 116, 114, 117, 101]) : (1001 : Int) = pk sz rule fn xs := by
  unfold pk
  rw [if_pos h]
theorem pk_at {sz : Int} {rule : List Int} {fn : ByteArray} {xs : List Int} {n : Int} (hn : pkR rule fn xs = n) (h : ¬ fn.toList = [36, 116, 114, 117, 101]) (h0 : 0 < fn.size) (h1 : (fn[0].toNat : Int) = 64) : (if n.tmod 2 = 0 then 1000 else 1001) = pk sz rule fn xs := by
  have e : atB fn = true := by unfold atB; rw [dif_pos h0]; exact decide_eq_true h1
  unfold pk
  rw [if_neg h, hn, e]
  simp
theorem pk_no {sz : Int} {rule : List Int} {fn : ByteArray} {xs : List Int} {n : Int} (hn : pkR rule fn xs = n) (h : ¬ fn.toList = [36, 116, 114, 117, 101]) (h0 : ∀ h0 : 0 < fn.size, ¬ (fn[0].toNat : Int) = 64) : thg sz n = pk sz rule fn xs := by
  unfold pk
  rw [if_neg h, if_neg (by
    unfold atB
    split
    · simpa using h0 (by assumption)
    · simp), hn]

set_option maxRecDepth 100000 in
set_option maxHeartbeats 1000000 in
theorem pick_any (sz : Int) (h1 : 1 ≤ sz) (h3 : sz ≤ 3) (rule : List Int) (hr : 0 < rule.length) (fn : ByteArray) (xs : List Int) (vr vx : Value) (w : World) (hfs : fn.size ≤ 1048576) (hR : IntsAt w vr rule) (hX : IntsAt w vx xs) :
    Calls Try.prog 126 #[wval sz vr, .string fn, vx] w fun e w' => e = .returned (.int .i64 (pk sz rule fn xs)) ∧ Below w.heap.size w w' := by
  obtain ⟨ra, rc, rfl⟩ := hR.slice
  obtain ⟨xa, xc, rfl⟩ := hX.slice
  obtain ⟨c0, c1⟩ := wbox_cells w sz (.slice ra rule.length rc)
  have hxl := hX.len
  have hrl := hR.len
  have hRb := hR.keep (below_box w (wbox sz (.slice ra rule.length rc)))
  have hXb := hX.keep (below_box w (wbox sz (.slice ra rule.length rc)))
  have hth : ∀ n, ∀ W, Calls Try.prog 125 #[wval sz (.slice ra rule.length rc), .int .i64 n] W fun e w' => e = .returned (.int .i64 (thg sz n)) ∧ Below W.heap.size W w' := fun n W => thing_any sz h1 h3 _ n W
  clear hR hX
  go_enter Try.func126, Try.ntmps126
  go_wp2
  go_loopw [7, 8] (fun h i wr => ∃ k : Nat, k ≤ fn.size ∧ i = .int .i64 k ∧ h = .int .u64 (hbs fn xs.length k) ∧ wr = w.alloc (wbox sz (.slice ra rule.length rc))) (fun _ i _ => fn.size - (intOf i).toNat)
  case atStart => exact ⟨0, Nat.zero_le _, rfl, rfl, rfl⟩
  case round =>
    obtain ⟨k, hk, rfl, rfl, rfl⟩ := hrel
    by_cases hlt : k < fn.size
    · go_wp2
      go_roundw
      case rel => exact ⟨k + 1, by omega, by go_num, by rw [hbs_succ _ _ _ hlt], by first | rfl | trivial⟩
      case measure => simp [intOf]; omega
    · have hke : k = fn.size := by omega
      subst hke
      go_wp2
      go_loopw [7, 9] (fun h i wr => ∃ k : Nat, k ≤ xs.length ∧ i = .int .i64 k ∧ h = .int .u64 (has xs (hbs fn xs.length fn.size) k) ∧ wr = w.alloc (wbox sz (.slice ra rule.length rc))) (fun _ i _ => xs.length - (intOf i).toNat)
      case atStart => exact ⟨0, Nat.zero_le _, rfl, rfl, rfl⟩
      case round =>
        obtain ⟨k, hk, rfl, rfl, rfl⟩ := hrel
        by_cases hlt2 : k < xs.length
        · obtain ⟨b, o, rfl, hbl, hcx⟩ := hXb.nth hlt2
          go_wp2
          go_roundw
          case rel => exact ⟨k + 1, by omega, by go_num, by rw [has_succ _ _ _ hlt2], by first | rfl | trivial⟩
          case measure => simp [intOf]; omega
        · have hke : k = xs.length := by omega
          subst hke
          obtain ⟨hI, hlt3⟩ := pkI_lt rule hr fn xs
          obtain ⟨n, hn⟩ : ∃ n, rule[pkI rule fn xs]? = some n := ⟨_, List.getElem?_eq_getElem hlt3⟩
          have HP : Hid (pkR rule fn xs = n) := by
            show pkR rule fn xs = _
            unfold pkR
            rw [List.getD_eq_getElem?_getD, hn, Option.getD_some]
          obtain ⟨b, o, rfl, hbl, hcr⟩ := hRb.nth hlt3
          rw [(List.getElem_eq_iff hlt3).2 hn] at hcr
          obtain ⟨H, hH⟩ : ∃ H, has xs (hbs fn xs.length fn.size) xs.length = H := ⟨_, rfl⟩
          have hI' : (bits .xor .u64 H (H / 128)).tmod rule.length = ((pkI rule fn xs : Nat) : Int) := by rw [← hH]; exact hI
          rw [hH]
          clear hI hH hn
          generalize pkI rule fn xs = I at *
          have hz : ¬ (rule.length : Int) = 0 := by omega
          go_wp2
          go_quiet (fail)
          have hbN : Below w.heap.size w ((w.alloc (wbox sz (.slice (some ⟨b, o, none⟩) rule.length rc))).drewN nq) := (below_box w _).trans ⟨rfl, rfl, rfl, Nat.le_refl _, fun _ _ => rfl⟩
          clear hRb hXb hcr hI' hr hrl hxl
          obtain ⟨W3, hW3⟩ : ∃ W3, (w.alloc (wbox sz (.slice (some ⟨b, o, none⟩) rule.length rc))).drewN nq = W3 := ⟨_, rfl⟩
          have c0' : W3.cell? ⟨w.heap.size, 0, none⟩ = some (.int .i64 sz) := by rw [← hW3]; exact c0
          have c1' : W3.cell? ⟨w.heap.size, 1, none⟩ = some (.slice (some ⟨b, o, none⟩) rule.length rc) := by rw [← hW3]; exact c1
          rw [hW3] at hbN ⊢
          clear c0 c1 hW3
          go_wp2_with (go_at_call 125; refine (hth _ _).mono ?_; rintro e w' ⟨rfl, hb'⟩)
          all_goals go_ret
          all_goals clear hth
          · rename_i g1
            exact ⟨ret_i64 (pk_true g1), hbN⟩
          · rename_i g1 g2 g3 g4
            refine ⟨ret_i64 ((pk_at HP.out g1 g2 g3).symm.trans (if_neg ?_)).symm, hbN⟩
            simpa [g1] using g4
          · have g4 : (fn.toList == [36, 116, 114, 117, 101]) = false ∧ (n.tmod 2 != 0) = false := by assumption
            have g1 : ¬ fn.toList = [36, 116, 114, 117, 101] := by assumption
            have g2 : 0 < fn.size := by assumption
            exact ⟨ret_i64 ((pk_at HP.out g1 g2 (by assumption)).symm.trans (if_pos (by simpa using g4.2))).symm, hbN⟩
          · rename_i g1 g2 g3 g4
            exact absurd g4 (by simpa using g1)
          · rename_i g1 g2 g3 g4 g5
            exact ⟨ret_i64 (pk_no HP.out g1 fun _ => g3), hbN.trans (hb'.mono hbN.size)⟩
          · rename_i g1 g2 g3
            exact absurd g3 (by simpa using g1)
          · rename_i g1 g2 g3
            exact ⟨ret_i64 (pk_no HP.out g1 fun h => absurd h g2), hbN.trans (hb'.mono hbN.size)⟩

end Go.Proofs.Ytgnjgpplelakkaa
