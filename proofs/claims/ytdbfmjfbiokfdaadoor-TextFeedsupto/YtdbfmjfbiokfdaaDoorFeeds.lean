/-
  The walk of TextFeeds.
-/
import Derived.Test.YtdbfmjfbiokfdaaDoorR
import Derived.Deep.RegionWith
namespace Go.Proofs.YtdbfmjfbiokfdaaDoor
open Go.RowKit

/-- What the walk is told of the chunks that came in. -/
def Chunks (w : World) (v : Value) (css : List (List Int)) : Prop :=
  ∃ p c, v = .slice p css.length c ∧ css.length ≤ c ∧ c ≤ 9223372036854775807 ∧ (0 < css.length → ∃ b o, p = some ⟨b, o, none⟩ ∧ ∀ i (h : i < css.length), ∃ u, w.cell? ⟨b, o + i, none⟩ = some u ∧ Bts w u css[i])

/-- Between two chunks; acc: the bytes that have come. -/
structure TF (w : World) (acc : List Int) (vA : Value) (W : World) : Prop where
  below : Below w.heap.size w W
  all : W.ownsRow w.heap.size 5 1 vA acc.length (acc.map (Value.int .u8))
  bytes : ∀ x ∈ acc, 0 ≤ x ∧ x ≤ 255
  buf : ∃ kv, Keeps W w.heap.size kv (accS acc).1 (accS acc).2.1 ∧ ∀ g, kv.ownBlock = some g → w.heap.size < g ∧ some g ≠ vA.ownBlock

theorem bts_below {w W : World} {v : Value} {xs : List Int} (h : Bts w v xs) (hb : Below w.heap.size w W) : Bts W v xs := by
  obtain ⟨p, c, rfl, h1, h2, h3, h4⟩ := h
  refine ⟨p, c, rfl, h1, h2, h3, fun hp => ?_⟩
  obtain ⟨b, o, rfl, hc⟩ := h4 hp
  exact ⟨b, o, rfl, fun i hi => (hb.cell (p := ⟨b, o + i, none⟩) (World.block_lt_of_cell? w _ (hc i hi))).trans (hc i hi)⟩

theorem row_under {W W' : World} {base e size n B : Nat} {v : Value} {xs : List Value} (h : W.ownsRow base e size v n xs) (hb : Below B W W') (hB : W.heap.size ≤ B) : W'.ownsRow base e size v n xs := by
  refine ⟨h.1, ?_⟩
  rcases h.2 with hn | ⟨g, cap, cur, rfl, hb', hgg, rest⟩
  · exact .inl hn
  · exact .inr ⟨g, cap, cur, rfl, hb', (hb.block g (Nat.lt_of_lt_of_le (Array.getElem?_eq_some_iff.1 hgg).1 hB)).trans hgg, rest⟩
theorem Keeps.under {W W' : World} {Bb B : Nat} {kv : Value} {ks : List Int} {lg : Bool} (h : Keeps W Bb kv ks lg) (hb : Below B W W') (hB : W.heap.size ≤ B) : Keeps W' Bb kv ks lg :=
  ⟨(hb.block Bb (Nat.lt_of_lt_of_le h.1.lt hB)).trans h.1, row_under h.2.1 hb hB, h.2.2⟩

/-- append of bytes onto a row of the call's own. -/
theorem run_append_bytes (ty : TypeId) (w : World) (b1 : Nat) (vA u : Value) (acc ys : List Int) (h1 : w.ownsRow b1 5 1 vA acc.length (acc.map (Value.int .u8))) (h2 : Bts w u ys) (hb : b1 ≤ w.heap.size) (hn : acc.length + ys.length ≤ 1048576) :
    ∃ v' w', (Builtin.append_ #[22, 22] ty #[vA, u]).run Tryd.prog w = .ok v' w' ∧ w'.ownsRow b1 5 1 v' (acc ++ ys).length ((acc ++ ys).map (Value.int .u8)) ∧ w.grownBy w' vA.ownBlock ∧ (v'.ownBlock = vA.ownBlock ∨ v'.ownBlock = some w.heap.size) := by
  obtain ⟨i0, hi, hz0, hz1, hz2⟩ := info_parts Tryd.info5
  obtain ⟨p, d, rfl, hd, hdm, hpb, hpc⟩ := h2
  cases p with
  | none =>
    have h0 : ys = [] := by
      cases ys with
      | nil => rfl
      | cons x r => obtain ⟨b, o, e, _⟩ := hpc (by simp); cases e
    subst h0
    obtain ⟨a, c, rfl, hac, _⟩ := row_form h1
    exact ⟨_, w, run_append_none ty a _ c d w hac, by simpa using h1, ⟨rfl, rfl, rfl, Nat.le_refl _, fun _ _ _ => rfl⟩, .inl rfl⟩
  | some ad =>
    have hn2 : ∀ j u, (ys.map (Value.int .u8))[j]? = some u → w.cell? (ad.add j) = some u := by
      intro j u hj
      rw [List.getElem?_map] at hj
      cases hq : ys[j]? with
      | none => rw [hq] at hj; cases hj
      | some x =>
        have hlt : j < ys.length := (List.getElem?_eq_some_iff.1 hq).1
        obtain ⟨b, o, e, hc⟩ := hpc (by omega)
        cases e
        rw [addr_add, hc j hlt, List.getD_eq_getElem?_getD, hq]
        rw [hq] at hj
        simpa using hj
    obtain ⟨v', w', hr, r1, r2, _, r4⟩ := run_append_own_at (P := Tryd.prog) w b1 22 ty 5 i0 _ 1 1 Tryd.underlying22 hi hz0 hz1 hz2 rfl (by decide) vA acc.length _ h1 ad ys.length d (ys.map (Value.int .u8)) (by simp) hn2 (fun u hu => by obtain ⟨_, _, rfl⟩ := List.mem_map.1 hu; rfl) (by unfold maxLen; omega) (by omega) hb
    exact ⟨v', w', hr, by rw [List.map_append, List.length_append]; exact r1, r2, r4⟩

/-- Behind the append. -/
theorem TF.append {w W W1 : World} {acc ys : List Int} {vA vA' : Value} (h : TF w acc vA W) (hy : ∀ x ∈ ys, 0 ≤ x ∧ x ≤ 255)
    (_hown : W1.ownsRow w.heap.size 5 1 vA' (acc ++ ys).length ((acc ++ ys).map (Value.int .u8))) (hg : W.grownBy W1 vA.ownBlock) (hat : vA'.ownBlock = vA.ownBlock ∨ vA'.ownBlock = some W.heap.size) :
    Below w.heap.size w W1 ∧ (∀ x ∈ acc ++ ys, 0 ≤ x ∧ x ≤ 255) ∧ ∃ kv, Keeps W1 w.heap.size kv (accS acc).1 (accS acc).2.1 ∧ ∀ g, kv.ownBlock = some g → w.heap.size < g ∧ some g ≠ vA'.ownBlock := by
  obtain ⟨kv, hk, hr⟩ := h.buf
  refine ⟨h.below.grown hg h.below.size (fun k e => (h.all.lt k e).1), fun x hx => ?_, kv, hk.kept hg ?_ ?_, fun g hg' => ⟨(hr g hg').1, ?_⟩⟩
  · rcases List.mem_append.1 hx with e | e
    · exact h.bytes x e
    · exact hy x e
  · exact hk.1.not_row (by decide) h.all
  · cases hq : kv.ownBlock with
    | none => exact .inl rfl
    | some g => exact .inr (hr g hq).2
  · rcases hat with e | e
    · rw [e]; exact (hr g hg').2
    · rw [e]
      have := (hk.2.1.lt g hg').2
      simp
      omega

theorem Touch.rowAny {Bb : Nat} {kv kv' : Value} {W W' : World} {ks : List Int} {lg : Bool} (ht : Touch Bb kv kv' W W') (hk : Keeps W Bb kv ks lg) {base e size n : Nat} {v : Value} {xs : List Value} (he : e ≠ 54) (hne : ∀ g, v.ownBlock = some g → some g ≠ kv.ownBlock) (h : W.ownsRow base e size v n xs) : W'.ownsRow base e size v n xs := by
  refine ⟨h.1, ?_⟩
  rcases h.2 with hn | ⟨g, cap, cur, rfl, hb, hgg, rest⟩
  · exact .inl hn
  · refine .inr ⟨g, cap, cur, rfl, hb, ?_, rest⟩
    refine (ht.block g (Array.getElem?_eq_some_iff.1 hgg).1 (fun e' => ?_) (hne g rfl)).trans hgg
    subst e'
    have := hgg.symm.trans hk.1
    simp at this
    exact he this.2

/-- The chunk fed. -/
theorem tf_feed (w W1 w2 : World) (acc ys : List Int) (vA' u vL kv : Value) (hb1 : Below w.heap.size w W1) (hby : ∀ x ∈ acc ++ ys, 0 ≤ x ∧ x ≤ 255)
    (hall : W1.ownsRow w.heap.size 5 1 vA' (acc ++ ys).length ((acc ++ ys).map (Value.int .u8))) (hk : Keeps W1 w.heap.size kv (accS acc).1 (accS acc).2.1) (hrow : ∀ g, kv.ownBlock = some g → w.heap.size < g ∧ some g ≠ vA'.ownBlock)
    (hb2 : Below W1.heap.size W1 w2) (hL : w2.ownsRow W1.heap.size 55 2 vL (accS (acc ++ ys)).2.2.length (flat (accS (acc ++ ys)).2.2)) (hu : Bts w u ys) (hn : acc.length + ys.length ≤ 1048576) :
    Calls Tryd.prog 19 #[.pointer (some ⟨w.heap.size, 0, none⟩), u] w2.drew fun e w3 => ∃ fa fc, e = .returned (.slice fa (feedS (accS acc).1 (accS acc).2.1 ys).2.2.length fc) ∧ LinesAt w3 (.slice fa (feedS (accS acc).1 (accS acc).2.1 ys).2.2.length fc) (feedS (accS acc).1 (accS acc).2.1 ys).2.2 ∧
      LinesAt w3 vL (accS (acc ++ ys)).2.2 ∧ TF w (acc ++ ys) vA' w3 := by
  have hk2 : Keeps w2.drew w.heap.size kv (accS acc).1 (accS acc).2.1 := (hk.under hb2 (Nat.le_refl _)).drew
  have hall2 : w2.drew.ownsRow w.heap.size 5 1 vA' (acc ++ ys).length ((acc ++ ys).map (Value.int .u8)) := row_under hall hb2.drew (Nat.le_refl _)
  have bw2 : Below w.heap.size w w2 := hb1.trans (hb2.mono hb1.size)
  have hu2 : Bts w2.drew u ys := bts_below hu ⟨bw2.os, bw2.tape, bw2.output, bw2.size, bw2.block⟩
  refine (feed_any w.heap.size kv u _ _ ys w2.drew hk2 hu2 (fun hp b hb => ?_) (by omega)).mono ?_
  · obtain ⟨b2, o, _, _, hlt⟩ := hu.chunk'
    obtain ⟨h1, h2⟩ := hlt hp
    rw [h2] at hb
    cases hb
    exact ⟨by omega, fun e => by have := (hrow _ e.symm).1; omega⟩
  · rintro e w3 ⟨v, kv', rfl, hk3, ht, hr⟩
    have hacc := accS_app acc ys
    obtain ⟨fa, fc, hv, _⟩ := row_form hr
    subst hv
    refine ⟨fa, fc, rfl, row_lines hr, row_lines (ht.rowAny hk2 (by decide) (fun g hg e => ?_) (show w2.drew.ownsRow W1.heap.size 55 2 vL _ _ from hL)), ⟨?_, ht.rowAny hk2 (by decide) (fun g hg e => ?_) hall2, hby, kv', by rw [hacc]; exact hk3, fun g hg => ?_⟩⟩
    · have h1 := (hL.lt g hg).1
      have h2 := (hk.2.1.lt g e.symm).2
      omega
    · exact bw2.trans ⟨ht.os, ht.tape, ht.output, ht.size, fun k hk' => ht.block k (by have := bw2.size; exact Nat.lt_of_lt_of_le hk' this) (by omega) (fun e => by have := (hrow k e.symm).1; omega)⟩
    · exact (hrow g e.symm).2 hg.symm
    · rcases ht.row g hg with e | e
      · exact hrow g e
      · have hs : w2.heap.size ≤ g := e
        refine ⟨by have := bw2.size; have := hk2.1.lt; have h5 : w.heap.size < w2.heap.size := this; omega, fun e' => ?_⟩
        have := (hall2.lt g e'.symm).2
        have h6 : g < w2.heap.size := this
        omega

theorem lines_tail {W : World} {p : Option Addr} {c : Nat} {L : List (ByteArray × Int)} (h : LinesAt W (.slice p L.length c) L) (k : Nat) (hk : k ≤ L.length) (q : Option Addr) (hq : k ≠ c → q = p.map (fun x => x.add (k * 2))) : LinesAt W (.slice q (L.length - k) (c - k)) (L.drop k) := by
  obtain ⟨p', c', e, h1, h2, h3⟩ := h
  simp only [Value.slice.injEq, true_and] at e
  obtain ⟨rfl, rfl⟩ := e
  refine ⟨q, c - k, by rw [List.length_drop], by rw [List.length_drop]; omega, by omega, fun hp => ?_⟩
  rw [List.length_drop] at hp
  obtain ⟨g, o, rfl, hc⟩ := h3 (by omega)
  refine ⟨g, o + k * 2, ?_, fun j hj => ?_⟩
  · rw [hq (by omega)]
    simp only [Option.map_some, addr_add]
  · rw [List.length_drop] at hj
    have := hc (k + j) (by omega)
    have e1 : o + k * 2 + j * 2 = o + (k + j) * 2 := by omega
    rw [e1]
    simp only [List.getElem_drop]
    exact this

theorem TF.drewN {w W : World} {acc : List Int} {vA : Value} (h : TF w acc vA W) (q : Nat) : TF w acc vA (W.drewN q) :=
  ⟨⟨h.below.os, h.below.tape, h.below.output, h.below.size, h.below.block⟩, h.all, h.bytes, h.buf⟩

theorem flat_take (css : List (List Int)) (i : Nat) (h : i < css.length) : (css.take (i + 1)).flatten = (css.take i).flatten ++ css[i] := by
  rw [List.take_succ_eq_append_getElem h, List.flatten_append]
  simp only [List.flatten_cons, List.flatten_nil, List.append_nil]
theorem flat_len (css : List (List Int)) (i : Nat) : (css.take i).flatten.length ≤ css.flatten.length := by
  have h := List.take_append_drop i css
  have : css.flatten.length = (css.take i).flatten.length + (css.drop i).flatten.length := by
    rw [← List.length_append, ← List.flatten_append, h]
  omega

theorem one_buf {w w1 : World} (hb : Below (w.alloc (.cells #[.slice none 0 0, .bool false] 54)).heap.size (w.alloc (.cells #[.slice none 0 0, .bool false] 54)) w1) : TF w [] (.slice none 0 0) w1 := by
  refine ⟨((Below.refl _ w).alloc (Nat.le_refl _) _).trans (hb.mono (by simp)), World.ownsRow_nil _ _ _ _, by simp, .slice none 0 0, ⟨?_, World.ownsRow_nil _ _ _ _, by simp [accS], by simp [accS]⟩, fun g h => by simp [Value.ownBlock] at h⟩
  exact (hb.block w.heap.size (by simp)).trans (World.alloc_heap_new w _)

set_option maxRecDepth 100000 in
set_option maxHeartbeats 1000000 in
theorem textFeeds_main (v0 : Value) (css : List (List Int)) (w : World) (hC : Chunks w v0 css) (hx : css.flatten.length ≤ 1048576) (hcs : css.length ≤ 1048576) :
    Calls Tryd.prog 5 #[v0] w fun e w' => e = .returned (.bool true) ∧ Below w.heap.size w w' := by
  obtain ⟨p, c, rfl, hpc, hcm, hcell⟩ := hC
  have HC : Hid (0 < css.length → ∃ b o, p = some ⟨b, o, none⟩ ∧ ∀ i (h : i < css.length), ∃ u, w.cell? ⟨b, o + i, none⟩ = some u ∧ Bts w u css[i]) := hcell
  clear hcell
  go_enter Tryd.func5, Tryd.ntmps5
  go_wp2_with (first
    | (go_at_call 16; refine (new_any _).mono ?_; rintro e w' ⟨rfl, rfl⟩)
    | (go_at_call 10; refine (alive_any _).mono ?_; rintro e w1 ⟨rfl, hb1⟩; have hT := one_buf hb1; clear hb1))
  go_loopw [4, 5, 6] (fun vA hd ii wr => ∃ i : Nat, ii = .int .i64 i ∧ hd = .int .i64 (accS (css.take i).flatten).2.2.length ∧ i ≤ css.length ∧ TF w (css.take i).flatten vA wr) (fun _ _ ii _ => css.length - (intOf ii).toNat)
  case atStart => exact ⟨0, rfl, rfl, Nat.zero_le _, hT⟩
  case round =>
    obtain ⟨i, rfl, rfl, hi, hT2⟩ := hrel
    clear hT
    by_cases hlt : i < css.length
    · obtain ⟨b, o, hpe, hcell⟩ := HC.out (by omega)
      subst hpe
      obtain ⟨u, hcu, hBu⟩ := hcell i hlt
      have hci : wr.cell? ⟨b, o + i, none⟩ = some u := (hT2.below.cell (p := ⟨b, o + i, none⟩) (World.block_lt_of_cell? w _ hcu)).trans hcu
      have hft := flat_take css i hlt
      have hl1 := flat_len css (i + 1)
      rw [hft, List.length_append] at hl1
      obtain ⟨acc, hacc⟩ : ∃ acc, (css.take i).flatten = acc := ⟨_, rfl⟩
      obtain ⟨ys, hys⟩ : ∃ ys, css[i] = ys := ⟨_, rfl⟩
      rw [hacc] at hT2 hft hl1 ⊢
      rw [hys] at hBu hft hl1
      have HFT : Hid ((css.take (i + 1)).flatten = acc ++ ys) := hft
      have HBU : Hid (Bts w u ys) := hBu
      have HT2 : Hid (TF w acc (_ : Value) wr) := hT2
      obtain ⟨vA', W1, hrun, hown, hgrow, hat⟩ := run_append_bytes 22 wr w.heap.size _ u acc ys hT2.all (bts_below hBu hT2.below) hT2.below.size (by omega)
      obtain ⟨hb1, hby, kv, hk1, hr1⟩ := hT2.append (fun x hx => by obtain ⟨_, _, _, _, _, h3, _⟩ := hBu; exact h3 x hx) hown hgrow hat
      have HF := refFeed_any vA' (acc ++ ys) W1 (row_bts hown hby) (by rw [List.length_append]; omega)
      obtain ⟨pu, cu, hue, hu1, hu2, _⟩ := hBu
      subst hue
      obtain ⟨aA, cA, hvA, _⟩ := row_form hT2.all
      obtain ⟨aA', cA', hvA', _⟩ := row_form hown
      subst hvA
      subst hvA'
      have happ := accS_app acc ys
      have hN1 : (accS (acc ++ ys)).2.2.length = (accS acc).2.2.length + (feedS (accS acc).1 (accS acc).2.1 ys).2.2.length := by rw [happ, List.length_append]
      have hdrop : (accS (acc ++ ys)).2.2.drop (accS acc).2.2.length = (feedS (accS acc).1 (accS acc).2.1 ys).2.2 := by rw [happ]; simp
      have hln := accS_len (acc ++ ys)
      rw [List.length_append] at hln
      obtain ⟨LN, hLN⟩ : ∃ LN, (feedS (accS acc).1 (accS acc).2.1 ys).2.2 = LN := ⟨_, rfl⟩
      have HFD := fun w2 vL hb2 hL => tf_feed w W1 w2 acc ys _ _ vL kv hb1 hby hown hk1 hr1 hb2 hL HBU.out (by omega)
      rw [hLN] at hN1 hdrop HFD
      have hle : (accS acc).2.2.length ≤ (accS (acc ++ ys)).2.2.length := by omega
      have HN1 : Hid ((accS (acc ++ ys)).2.2.length = (accS acc).2.2.length + LN.length) := hN1
      have HD : Hid ((accS (acc ++ ys)).2.2.drop (accS acc).2.2.length = LN) := hdrop
      have hlN : LN.length ≤ 1048576 := by omega
      obtain ⟨a2, ha2⟩ : ∃ a2, acc ++ ys = a2 := ⟨_, rfl⟩
      have hl2 : a2.length = acc.length + ys.length := by rw [← ha2, List.length_append]
      have hl3 : a2.length ≤ 1048576 := by omega
      rw [ha2] at HF HFD hle HN1 HD HFT hln hrun
      have HFD0 : Hid _ := HFD
      clear HFD hl2 hln
      have HLT : b < w.heap.size := World.block_lt_of_cell? w _ hcu
      have HCU : Hid (w.cell? ⟨b, o + i, none⟩ = some (.slice pu ys.length cu)) := hcu
      clear hN1 hdrop happ hLN hcu hgrow hat HT2 hT2 hown hk1 hr1 hby hft hacc hys hcell ha2
      go_wp2_with (first
        | (at_builtin; refine Lib.wpList_append_run_sl _ rfl _ _ 22 rfl _ _ rfl rfl hrun ?_)
        | (go_at_call 17; refine HF.mono ?_; clear HF; rintro e w2 ⟨vL, rfl, hL, hb2⟩; obtain ⟨wa, wc, hvL, hwn, hwm, _⟩ := row_form hL; subst hvL; have HFD2 := HFD0.out w2 _ hb2 hL; have hci2 := ((hb1.trans (hb2.mono hb1.size)).cell (p := ⟨b, o + i, none⟩) HLT).trans HCU.out))
      by_cases hwn2 : wc = (accS acc).2.2.length
      · subst hwn2
        have hnil : LN = [] := List.length_eq_zero_iff.1 (by have := HN1.out; omega)
        subst hnil
        go_region_with (first
          | (go_at_call 19; refine HFD2.mono ?_; clear HFD2; rintro e w3 ⟨fa, fc, rfl, hF1, hF2, hT3⟩; obtain ⟨kv3, hk3, hr3⟩ := hT3.buf)
          | (go_at_call 18; refine (same_any _ _ [] w3 hF1 ⟨wa, 0, rfl, Nat.le_refl _, by decide, fun h => absurd h (by simp)⟩).mono ?_; clear hF1; rintro e w4 ⟨rfl, q, rfl⟩)
          | (go_at_call 20; refine (len_any w.heap.size kv3 _ _ _ (show Keeps (w3.drewN q) w.heap.size kv3 _ _ from hk3)).mono ?_; rintro e w5 ⟨rfl, hw5⟩; have hw6 := hw5.symm; subst hw6))
        go_wp2
        go_roundw
        case rel => exact ⟨i + 1, by go_num, by rw [HFT.out], by omega, by rw [HFT.out]; exact hT3.drewN q⟩
        case measure => simp [intOf]; omega
      · go_region_with (first
          | (go_at_call 19; refine HFD2.mono ?_; clear HFD2; rintro e w3 ⟨fa, fc, rfl, hF1, hF2, hT3⟩; obtain ⟨kv3, hk3, hr3⟩ := hT3.buf)
          | (go_at_call 18; refine (same_any _ _ LN w3 hF1 (by rw [← HD.out]; exact lines_tail hF2 _ hle _ (fun _ => rfl))).mono ?_; clear hF1; rintro e w4 ⟨rfl, q, rfl⟩)
          | (go_at_call 20; refine (len_any w.heap.size kv3 _ _ _ (show Keeps (w3.drewN q) w.heap.size kv3 _ _ from hk3)).mono ?_; rintro e w5 ⟨rfl, hw5⟩; have hw6 := hw5.symm; subst hw6))
        go_wp2
        go_roundw
        case rel => exact ⟨i + 1, by go_num, by rw [HFT.out], by omega, by rw [HFT.out]; exact hT3.drewN q⟩
        case measure => simp [intOf]; omega
    · go_wp2
      go_ret
      exact ⟨rfl, hT2.below⟩

end Go.Proofs.YtdbfmjfbiokfdaaDoor
