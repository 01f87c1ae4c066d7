/-
  The walk of TextParts.
-/
import Derived.Test.YtdbfmjfbiokfdaaDoorP
import Derived.Test.YtdbfmjfbiokfdaaDoorI
import Derived.Lib.SlFresh
import Derived.Lib.SmallJoins
import Derived.Deep.QuietTactic
import Derived.BigQuiet
namespace Go.Proofs.YtdbfmjfbiokfdaaDoor
open Go.RowKit

/-- What the walk is told of a slice of ints that came in. -/
def Ints (w : World) (v : Value) (cs : List Int) : Prop :=
  ∃ p c, v = .slice p cs.length c ∧ cs.length ≤ c ∧ c ≤ 9223372036854775807 ∧ (0 < cs.length → ∃ b o, p = some ⟨b, o, none⟩ ∧ ∀ i, i < cs.length → w.cell? ⟨b, o + i, none⟩ = some (.int .i64 (cs.getD i 0)))

/-- Between two parts. M: the heap's size when the lines that are wanted stood. -/
structure PI (w : World) (M : Nat) (kvA vW : Value) (xs : List Int) (f : Nat) (vG : Value) (W : World) : Prop where
  size : M ≤ W.heap.size
  below : Below w.heap.size w W
  wantA : Keeps W w.heap.size kvA (accS xs).1 (accS xs).2.1
  want : W.ownsRow w.heap.size 44 2 vW (accS xs).2.2.length (flat (accS xs).2.2)
  got : W.ownsRow w.heap.size 44 2 vG (accS (xs.take f)).2.2.length (flat (accS (xs.take f)).2.2)
  newG : ∀ g, vG.ownBlock = some g → M ≤ g
  oldW : ∀ g, vW.ownBlock = some g → g < M
  oldA : ∀ g, kvA.ownBlock = some g → w.heap.size + 1 < g ∧ g < M
  keepB : ∃ kvB, Keeps W (w.heap.size + 1) kvB (accS (xs.take f)).1 (accS (xs.take f)).2.1 ∧ ∀ g, kvB.ownBlock = some g → M ≤ g

theorem take_app (xs : List Int) {f t : Nat} (h : f ≤ t) : xs.take t = xs.take f ++ (xs.drop f).take (t - f) := by
  have := List.take_add (l := xs) (i := f) (j := t - f)
  rw [show f + (t - f) = t by omega] at this
  exact this

/-- The row that an append grows, apart from the rest. -/
theorem PI.step {w W W2 W3 : World} {M : Nat} {kvA vW vG vG' kvB kvB' : Value} {xs : List Int} {f t : Nat} (h : PI w M kvA vW xs f vG W) (hft : f ≤ t) (hM : w.heap.size + 1 < M)
    (hkB : Keeps W (w.heap.size + 1) kvB (accS (xs.take f)).1 (accS (xs.take f)).2.1) (hrB : ∀ g, kvB.ownBlock = some g → M ≤ g)
    (hk2 : Keeps W2 (w.heap.size + 1) kvB' (feedS (accS (xs.take f)).1 (accS (xs.take f)).2.1 ((xs.drop f).take (t - f))).1 (feedS (accS (xs.take f)).1 (accS (xs.take f)).2.1 ((xs.drop f).take (t - f))).2.1)
    (ht : Touch (w.heap.size + 1) kvB kvB' W W2)
    (hg : W2.grownBy W3 vG.ownBlock) (hat : vG'.ownBlock = vG.ownBlock ∨ vG'.ownBlock = some W2.heap.size)
    (hown : W3.ownsRow w.heap.size 44 2 vG' ((accS (xs.take f)).2.2.length + (feedS (accS (xs.take f)).1 (accS (xs.take f)).2.1 ((xs.drop f).take (t - f))).2.2.length) (flat (accS (xs.take f)).2.2 ++ flat (feedS (accS (xs.take f)).1 (accS (xs.take f)).2.1 ((xs.drop f).take (t - f))).2.2)) :
    PI w M kvA vW xs t vG' W3 := by
  have hacc := accS_app (xs.take f) ((xs.drop f).take (t - f))
  rw [← take_app xs hft] at hacc
  have hs2 := ht.size
  have hs1 := h.size
  have gotW2 := ht.row44 hkB h.got
  have tagG : ∀ g, vG.ownBlock = some g → ∃ cur, W2.heap[g]? = some (.cells cur 44 (0, 0)) := fun g hg' => row_tag gotW2 hg'
  have keepA2 : Keeps W2 w.heap.size kvA (accS xs).1 (accS xs).2.1 := ht.keeps h.wantA (by omega) (fun e => by have := hrB _ e.symm; omega) (fun g hg' => by
    have h1 := h.oldA g hg'
    exact ⟨by omega, fun e => by have := hrB g e.symm; omega⟩)
  have wantW2 := ht.row44 hkB h.want
  have not5 : ∀ {Ba : Nat} {ka : Value} {ks : List Int} {lg : Bool}, Keeps W2 Ba ka ks lg → some Ba ≠ vG.ownBlock ∧ (ka.ownBlock = none ∨ ka.ownBlock ≠ vG.ownBlock) := by
    intro Ba ka ks lg hk
    refine ⟨fun e => ?_, ?_⟩
    · obtain ⟨cur, hc⟩ := tagG Ba e.symm
      have := hc.symm.trans hk.1
      simp at this
    · cases hq : ka.ownBlock with
      | none => exact .inl rfl
      | some g =>
        refine .inr fun e => ?_
        obtain ⟨cur, hc⟩ := tagG g e.symm
        obtain ⟨cur', hc'⟩ := row_tag hk.2.1 hq
        have := hc.symm.trans hc'
        simp at this
  refine ⟨?_, ?_, keepA2.kept hg (not5 keepA2).1 (not5 keepA2).2, wantW2.kept hg ?_, ?_, fun g hg' => ?_, h.oldW, h.oldA, kvB', ?_, fun g hg' => ?_⟩
  · have := hg.size; omega
  · have hb2 : Below w.heap.size w W2 := h.below.trans ⟨ht.os, ht.tape, ht.output, ht.size, fun k hk => ht.block k (by have := h.below.size; omega) (by omega) (fun e => by have := hrB k e.symm; omega)⟩
    exact hb2.grown hg hb2.size (fun k e => by have := h.newG k e; omega)
  · cases hq : vW.ownBlock with
    | none => exact .inl rfl
    | some g => exact .inr fun e => by have h1 := h.oldW g hq; have h2 := h.newG g e.symm; omega
  · rw [hacc, flat_app, List.length_append]; exact hown
  · rcases hat with e | e
    · rw [e] at hg'; exact h.newG g hg'
    · rw [e] at hg'; cases hg'; omega
  · rw [hacc]; exact hk2.kept hg (not5 hk2).1 (not5 hk2).2
  · rcases ht.row g hg' with e | e
    · exact hrB g e
    · omega

theorem row_far {W : World} {base e size n : Nat} {v : Value} {xs : List Value} (h : W.ownsRow base e size v n xs) : ∀ g, v.ownBlock = some g → g < W.heap.size := fun g hg => (h.lt g hg).2

/-- append of a row of lines onto another. -/
theorem run_append_lines (ty : TypeId) (w : World) (b1 b2 : Nat) (vG vN : Value) (L1 L2 : List (ByteArray × Int)) (h1 : w.ownsRow b1 44 2 vG L1.length (flat L1)) (h2 : w.ownsRow b2 44 2 vN L2.length (flat L2)) (hb : b1 ≤ w.heap.size) (hn : (L1.length + L2.length) * 24 ≤ 140737488355328) :
    ∃ v' w', (Builtin.append_ #[38, 38] ty #[vG, vN]).run Tryd.prog w = .ok v' w' ∧ w'.ownsRow b1 44 2 v' (L1.length + L2.length) (flat L1 ++ flat L2) ∧ w.grownBy w' vG.ownBlock ∧ (v'.ownBlock = vG.ownBlock ∨ v'.ownBlock = some w.heap.size) := by
  obtain ⟨i0, hi, hz0, hz1, hz2⟩ := info_parts Tryd.info44
  rcases h2.2 with ⟨rfl, h0⟩ | ⟨g, cap, cur, rfl, _, hgg, _, _, _, htk⟩
  · obtain ⟨a, c, rfl, hac, _⟩ := row_form h1
    have hL : L2 = [] := List.length_eq_zero_iff.1 h0
    subst hL
    exact ⟨_, w, run_append_none38 ty a _ c 0 w hac, by simpa [flat] using h1, ⟨rfl, rfl, rfl, Nat.le_refl _, fun _ _ _ => rfl⟩, .inl rfl⟩
  · obtain ⟨v', w', hr, r1, r2, _, r4⟩ := run_append_own_at (P := Tryd.prog) w b1 38 ty 44 i0 _ 2 24 Tryd.underlying38 hi hz0 hz1 hz2 rfl (by decide) vG L1.length (flat L1) h1 ⟨g, 0, none⟩ L2.length cap (flat L2) (flat_length L2) (h2.cells (g := g) rfl) (flat_one L2) (by unfold maxLen; omega) hn hb
    exact ⟨v', w', hr, r1, r2, r4⟩

theorem pstep_len : ∀ (xs : List Int) (s : St), (xs.foldl bstep s).2.2.length ≤ s.2.2.length + xs.length
  | [], s => by simp
  | x :: r, s => by
    have h1 := pstep_len r (bstep s x)
    have h2 : (bstep s x).2.2.length ≤ s.2.2.length + 1 := by
      unfold bstep
      split
      · exact pstep_lines s _
      · simp
    simp only [List.foldl_cons, List.length_cons]
    omega
theorem accS_len (xs : List Int) : (accS xs).2.2.length ≤ xs.length := by have := pstep_len xs ([], false, []); simpa [accS] using this

theorem parts_want (w w1 : World) (xs : List Int) (v0 : Value) (hB : Bts w v0 xs) (hx : xs.length ≤ 1048576) (hA : Keeps w1 w.heap.size (.slice none 0 0) [] false) (hB2 : Keeps w1 (w.heap.size + 1) (.slice none 0 0) [] false) (hb : Below w.heap.size w w1) :
    Calls Tryd.prog 19 #[.pointer (some ⟨w.heap.size, 0, none⟩), v0] w1 fun e w2 => ∃ a c kvA, e = .returned (.slice a (accS xs).2.2.length c) ∧ PI w w2.heap.size kvA (.slice a (accS xs).2.2.length c) xs 0 (.slice none 0 0) w2 ∧ w.heap.size + 1 < w2.heap.size := by
  have hl := hB2.1.lt
  have hB1 : Bts w1 v0 xs := by
    obtain ⟨p, c, rfl, h1, h2, h3, h4⟩ := hB
    refine ⟨p, c, rfl, h1, h2, h3, fun hp => ?_⟩
    obtain ⟨b, o, rfl, hc⟩ := h4 hp
    exact ⟨b, o, rfl, fun i hi => (hb.cell (p := ⟨b, o + i, none⟩) (World.block_lt_of_cell? w _ (hc i hi))).trans (hc i hi)⟩
  have hfar : 0 < xs.length → ∀ b, v0.ownBlock = some b → b ≠ w.heap.size ∧ some b ≠ (Value.slice none 0 0).ownBlock := by
    intro hp b hb'
    obtain ⟨b2, o, _, _, hlt⟩ := hB.chunk'
    obtain ⟨h1, h2⟩ := hlt hp
    rw [h2] at hb'
    cases hb'
    exact ⟨by omega, by simp [Value.ownBlock]⟩
  refine (feed_any w.heap.size (.slice none 0 0) v0 [] false xs w1 hA hB1 hfar (by omega)).mono ?_
  rintro e w2 ⟨v, kv, rfl, hk, ht, hr⟩
  rw [feedS_acc] at hk hr
  have hs := ht.size
  obtain ⟨a, c, hv, _⟩ := row_form hr
  have hrow : ∀ g, kv.ownBlock = some g → w1.heap.size ≤ g := by
    intro g hg
    rcases ht.row g hg with e | e
    · simp [Value.ownBlock] at e
    · exact e
  subst hv
  refine ⟨a, c, kv, rfl, ⟨Nat.le_refl _, ?_, hk, Joins.ownsRow_le hr hb.size, World.ownsRow_nil _ _ _ _, fun g h => by simp [Value.ownBlock] at h, row_far hr, fun g hg => ⟨by have := hrow g hg; omega, row_far hk.2.1 g hg⟩, .slice none 0 0, ?_, fun g h => by simp [Value.ownBlock] at h⟩, by omega⟩
  · exact hb.trans ⟨ht.os, ht.tape, ht.output, ht.size, fun k hk' => ht.block k (by omega) (by omega) (by simp [Value.ownBlock])⟩
  · exact ht.keeps hB2 (by omega) (by simp [Value.ownBlock]) (fun g h => by simp [Value.ownBlock] at h)

/-- One part fed. -/
theorem parts_feed (w W : World) (M : Nat) (kvA vW vG : Value) (xs : List Int) (f t : Nat) (p : Option Addr) (c : Nat) (hB : Bts w (.slice p xs.length c) xs) (hx : xs.length ≤ 1048576) (h : PI w M kvA vW xs f vG W) (hM : w.heap.size + 1 < M) (hft : f ≤ t) (ht : t ≤ xs.length) (q : Option Addr) (hq : f ≠ c → q = p.map (fun x => x.add f)) :
    Calls Tryd.prog 19 #[.pointer (some ⟨w.heap.size + 1, 0, none⟩), .slice q (t - f) (c - f)] W fun e W2 => ∃ na nn nc, e = .returned (.slice na nn nc) ∧
      ∃ vG' W3, (Builtin.append_ #[38, 38] 38 #[vG, .slice na nn nc]).run Tryd.prog W2 = .ok vG' W3 ∧ PI w M kvA vW xs t vG' W3 := by
  obtain ⟨kvB, hkB, hrB⟩ := h.keepB
  have hpart := hB.part hft ht q hq
  have hBW : Bts W (.slice q (t - f) (c - f)) ((xs.drop f).take (t - f)) := by
    obtain ⟨p', c', e, h1, h2, h3, h4⟩ := hpart
    refine ⟨p', c', e, h1, h2, h3, fun hp => ?_⟩
    obtain ⟨b, o, rfl, hc⟩ := h4 hp
    exact ⟨b, o, rfl, fun i hi => (h.below.cell (p := ⟨b, o + i, none⟩) (World.block_lt_of_cell? w _ (hc i hi))).trans (hc i hi)⟩
  have hl : ((xs.drop f).take (t - f)).length ≤ xs.length := by rw [List.length_take, List.length_drop]; omega
  refine (feed_any (w.heap.size + 1) kvB _ _ _ _ W hkB hBW (fun hp b hb' => ?_) (by omega)).mono ?_
  · obtain ⟨b2, o, _, _, hlt⟩ := hpart.chunk'
    obtain ⟨h1, h2⟩ := hlt hp
    rw [h2] at hb'
    cases hb'
    exact ⟨by omega, fun e => by have := hrB _ e.symm; omega⟩
  · rintro e W2 ⟨v, kvB', rfl, hk2, ht2, hr2⟩
    obtain ⟨na, nc, hv, _⟩ := row_form hr2
    have h1 := accS_len (xs.take f)
    have h2 := pstep_len ((xs.drop f).take (t - f)) ((accS (xs.take f)).1, (accS (xs.take f)).2.1, [])
    rw [← feedS_fold _ _ _ (accS_ok (xs.take f))] at h2
    have h3 : (xs.take f).length ≤ xs.length := List.length_take_le' _ _
    simp only [List.length_nil, Nat.zero_add] at h2
    have hs := h.below.size
    have hs2 := ht2.size
    obtain ⟨vG', W3, hrun, r1, r2, r3⟩ := run_append_lines 38 W2 w.heap.size _ vG v _ _ (ht2.row44 hkB h.got) hr2 (by omega) (by omega)
    subst hv
    exact ⟨na, _, nc, rfl, vG', W3, hrun, PI.step h hft hM hkB hrB hk2 ht2 r2 r3 r1⟩

theorem two_bufs {w w1 : World} (hb : Below ((w.alloc (.cells #[.slice none 0 0, .bool false] 54)).alloc (.cells #[.slice none 0 0, .bool false] 54)).heap.size ((w.alloc (.cells #[.slice none 0 0, .bool false] 54)).alloc (.cells #[.slice none 0 0, .bool false] 54)) w1) :
    Keeps w1 w.heap.size (.slice none 0 0) [] false ∧ Keeps w1 (w.heap.size + 1) (.slice none 0 0) [] false ∧ Below w.heap.size w w1 := by
  refine ⟨⟨?_, World.ownsRow_nil _ _ _ _, by simp, by simp⟩, ⟨?_, World.ownsRow_nil _ _ _ _, by simp, by simp⟩, ?_⟩
  · exact (hb.block w.heap.size (by simp; omega)).trans ((Below.heap_alloc _ _ _ (by simp)).trans (World.alloc_heap_new w _))
  · have h1 := hb.block (w.heap.size + 1) (by simp)
    have h2 := World.alloc_heap_new (w.alloc (.cells #[.slice none 0 0, .bool false] 54)) (.cells #[.slice none 0 0, .bool false] 54)
    rw [World.size_alloc] at h2
    exact h1.trans h2
  · exact (((Below.refl _ w).alloc (Nat.le_refl _) _).alloc (by simp) _).trans (hb.mono (by simp; omega))

set_option maxRecDepth 100000 in
set_option maxHeartbeats 1000000 in
theorem textParts_main (v0 v1 : Value) (xs cs : List Int) (w : World) (hB : Bts w v0 xs) (hI : Ints w v1 cs) (hx : xs.length ≤ 1048576) (hcs : cs.length ≤ 1048576) :
    Calls Tryd.prog 7 #[v0, v1] w fun e w' => e = .returned (.bool true) ∧ Below w.heap.size w w' := by
  have hB0 := hB
  obtain ⟨p, c, rfl, hpc, hcm, _⟩ := hB
  obtain ⟨ip, ic, rfl, hic, him, hicell⟩ := hI
  have HI : Hid (0 < cs.length → ∃ b o, ip = some ⟨b, o, none⟩ ∧ ∀ i, i < cs.length → w.cell? ⟨b, o + i, none⟩ = some (.int .i64 (cs.getD i 0))) := hicell
  have HB : Hid (Bts w (.slice p xs.length c) xs) := hB0
  clear hicell hB0
  go_enter Tryd.func7, Tryd.ntmps7
  go_wp2_with (first
    | (go_at_call 16; refine (new_any _).mono ?_; rintro e w' ⟨rfl, rfl⟩)
    | (go_at_call 10; refine (alive_any _).mono ?_; rintro e w1 ⟨rfl, hb1⟩; have hT := two_bufs hb1; clear hb1)
    | (go_at_call 19; refine (parts_want w w1 xs _ HB.out hx hT.1 hT.2.1 hT.2.2).mono ?_; rintro e w2 ⟨wa, wc, kvA, rfl, hPI, hM⟩))
  obtain ⟨M, hMM⟩ : ∃ M, w2.heap.size = M := ⟨_, rfl⟩
  rw [hMM] at hPI hM
  obtain ⟨nW, hnW⟩ : ∃ nW, (accS xs).2.2.length = nW := ⟨_, rfl⟩
  rw [hnW] at hPI ⊢
  clear hT hMM
  have HnW : Hid ((accS xs).2.2.length = nW) := hnW
  clear hnW
  go_loopw [8, 9, 10] (fun g fr ii wr => ∃ (i f : Nat), ii = .int .i64 i ∧ fr = .int .i64 f ∧ i ≤ cs.length + 1 ∧ f ≤ xs.length ∧ (i = cs.length + 1 → f = xs.length) ∧ PI w M kvA (.slice wa nW wc) xs f g wr) (fun _ _ ii _ => cs.length + 1 - (intOf ii).toNat)
  case atStart => exact ⟨0, 0, rfl, rfl, by omega, by omega, fun h => by omega, hPI⟩
  case round =>
    obtain ⟨i, f, rfl, rfl, hi, hf, hend, hP⟩ := hrel
    obtain ⟨ga, gc, hg, hgn⟩ := row_form hP.got
    subst hg
    have HE : Hid (i = cs.length + 1 → f = xs.length) := hend
    have HP : Hid (PI w M kvA (.slice wa nW wc) xs f (.slice ga (accS (List.take f xs)).2.2.length gc) wr) := hP
    clear hend hP hPI
    by_cases hle : i ≤ cs.length
    · by_cases hlt : i < cs.length
      · obtain ⟨b, o, hb, hcell⟩ := HI.out (by omega)
        subst hb
        have hci : wr.cell? ⟨b, o + i, none⟩ = some (.int .i64 (cs.getD i 0)) := (HP.out.below.cell (p := ⟨b, o + i, none⟩) (World.block_lt_of_cell? w _ (hcell i hlt))).trans (hcell i hlt)
        obtain ⟨ci, hcc⟩ : ∃ ci, cs.getD i 0 = ci := ⟨_, rfl⟩
        rw [hcc] at hci
        clear hcc hcell
        by_cases hA : (f : Int) ≤ ci ∧ ci < xs.length
        · obtain ⟨t, rfl⟩ := Int.eq_ofNat_of_zero_le (show 0 ≤ ci by omega)
          have hft : f ≤ t := by omega
          have htx : t ≤ xs.length := by omega
          have htt : t < xs.length := by omega
          clear hA
          go_wp2_with (first
            | (go_at_call 19; refine (parts_feed w wr M kvA _ _ xs f t p c HB.out hx HP.out hM hft htx _ (fun _ => rfl)).mono ?_; rintro e W2 ⟨na, nn, nc, rfl, vG', W3, hrun, hP3⟩)
            | (at_builtin; refine Lib.wpList_append_run_sl _ rfl _ _ 38 rfl _ _ rfl rfl hrun ?_; obtain ⟨ga', gc', hg', _⟩ := row_form hP3.got; subst hg'; obtain ⟨kvB3, hkB3, hrB3⟩ := hP3.keepB; have hle3 := hkB3.2.2.2)
            | (go_at_call 20; refine (len_any (w.heap.size + 1) kvB3 _ _ W3 hkB3).mono ?_; rintro e w' ⟨rfl, hw'⟩; have hw2 := hw'.symm; subst hw2))
          go_roundw
          case rel => exact ⟨i + 1, t, by go_num, rfl, by omega, htx, fun h => by omega, hP3⟩
          case measure => simp [intOf]; omega
        · have hft : f ≤ xs.length := hf
          by_cases hB1 : (f : Int) ≤ ci
          · have hB2 : ¬ (ci < xs.length) := fun h => hA ⟨hB1, h⟩
            clear hA
            go_wp2_with (first
              | (go_at_call 19; refine (parts_feed w wr M kvA _ _ xs f xs.length p c HB.out hx HP.out hM hft (Nat.le_refl _) _ ?q1).mono ?_; (case q1 => exact fun h => if_neg (fun e => h e.symm)); rintro e W2 ⟨na, nn, nc, rfl, vG', W3, hrun, hP3⟩)
              | (at_builtin; refine Lib.wpList_append_run_sl _ rfl _ _ 38 rfl _ _ rfl rfl hrun ?_; have hgot := hP3.got; rw [List.take_length] at hgot; obtain ⟨ga', gc', hg', _⟩ := row_form hgot; clear hgot; subst hg'; obtain ⟨kvB3, hkB3, hrB3⟩ := hP3.keepB; rw [List.take_length] at hkB3; have hle3 := hkB3.2.2.2)
              | (go_at_call 20; refine (len_any (w.heap.size + 1) kvB3 _ _ W3 hkB3).mono ?_; rintro e w' ⟨rfl, hw'⟩; have hw2 := hw'.symm; subst hw2))
            go_roundw
            case rel => exact ⟨i + 1, xs.length, by go_num, rfl, by omega, (Nat.le_refl _), fun _ => rfl, hP3⟩
            case measure => simp [intOf]; omega
          · clear hA
            go_wp2_with (first
              | (go_at_call 19; refine (parts_feed w wr M kvA _ _ xs f xs.length p c HB.out hx HP.out hM hft (Nat.le_refl _) _ ?q1).mono ?_; (case q1 => exact fun h => if_neg (fun e => h e.symm)); rintro e W2 ⟨na, nn, nc, rfl, vG', W3, hrun, hP3⟩)
              | (at_builtin; refine Lib.wpList_append_run_sl _ rfl _ _ 38 rfl _ _ rfl rfl hrun ?_; have hgot := hP3.got; rw [List.take_length] at hgot; obtain ⟨ga', gc', hg', _⟩ := row_form hgot; clear hgot; subst hg'; obtain ⟨kvB3, hkB3, hrB3⟩ := hP3.keepB; rw [List.take_length] at hkB3; have hle3 := hkB3.2.2.2)
              | (go_at_call 20; refine (len_any (w.heap.size + 1) kvB3 _ _ W3 hkB3).mono ?_; rintro e w' ⟨rfl, hw'⟩; have hw2 := hw'.symm; subst hw2))
            go_roundw
            case rel => exact ⟨i + 1, xs.length, by go_num, rfl, by omega, (Nat.le_refl _), fun _ => rfl, hP3⟩
            case measure => simp [intOf]; omega
      · have hft : f ≤ xs.length := hf
        have hic2 : i = cs.length := by omega
        subst hic2
        go_wp2_with (first
          | (go_at_call 19; refine (parts_feed w wr M kvA _ _ xs f xs.length p c HB.out hx HP.out hM hft (Nat.le_refl _) _ ?q1).mono ?_; (case q1 => exact fun h => if_neg (fun e => h e.symm)); rintro e W2 ⟨na, nn, nc, rfl, vG', W3, hrun, hP3⟩)
          | (at_builtin; refine Lib.wpList_append_run_sl _ rfl _ _ 38 rfl _ _ rfl rfl hrun ?_; have hgot := hP3.got; rw [List.take_length] at hgot; obtain ⟨ga', gc', hg', _⟩ := row_form hgot; clear hgot; subst hg'; obtain ⟨kvB3, hkB3, hrB3⟩ := hP3.keepB; rw [List.take_length] at hkB3; have hle3 := hkB3.2.2.2)
          | (go_at_call 20; refine (len_any (w.heap.size + 1) kvB3 _ _ W3 hkB3).mono ?_; rintro e w' ⟨rfl, hw'⟩; have hw2 := hw'.symm; subst hw2))
        go_roundw
        case rel => exact ⟨cs.length + 1, xs.length, by go_num, rfl, by omega, (Nat.le_refl _), fun _ => rfl, hP3⟩
        case measure => simp [intOf]
    · have hfx := HE.out (by omega)
      subst hfx
      have hgot := HP.out.got
      have hkb := HP.out.keepB
      have hwant := HP.out.want
      have hkA := HP.out.wantA
      have hbel := HP.out.below
      clear HP HE HI
      rw [List.take_length] at hgot hkb ⊢
      rw [HnW.out] at hgot hwant ⊢
      obtain ⟨kvB, hkB, _⟩ := hkb
      have HG : Hid (wr.ownsRow w.heap.size 44 2 (.slice ga nW gc) nW (flat (accS xs).2.2) ∧ wr.ownsRow w.heap.size 44 2 (.slice wa nW wc) nW (flat (accS xs).2.2)) := ⟨hgot, hwant⟩
      clear hgot hwant hgn
      go_wp2_with (first
        | (go_at_call 20; refine (len_any w.heap.size kvA _ _ wr hkA).mono ?_; clear hkA; rintro e w' ⟨rfl, hw'⟩; have hw2 := hw'.symm; subst hw2)
        | (go_at_call 20; refine (len_any (w.heap.size + 1) kvB _ _ wr hkB).mono ?_; clear hkB; rintro e w' ⟨rfl, hw'⟩; have hw2 := hw'.symm; subst hw2))
      have hnb := accS_len xs
      rw [HnW.out] at hnb
      go_loopw [12] (fun j wr' => ∃ (k q : Nat), j = .int .i64 k ∧ k ≤ nW ∧ wr' = wr.drewN q) (fun j _ => nW - (intOf j).toNat)
      case atStart => exact ⟨0, 0, rfl, Nat.zero_le _, rfl⟩
      case round =>
        obtain ⟨k, q, rfl, hk, hwr⟩ := hrel
        subst hwr
        by_cases hlt : k < nW
        · have hlk : k < (accS xs).2.2.length := by rw [HnW.out]; exact hlt
          have G1 := HG.out.1
          have G2 := HG.out.2
          rw [← HnW.out] at G1 G2
          obtain ⟨g1, d1, e1, x1, y1⟩ := line_cells G1 k hlk
          obtain ⟨g2, d2, e2, x2, y2⟩ := line_cells G2 k hlk
          simp only [Value.slice.injEq, true_and] at e1 e2
          obtain ⟨rfl, rfl⟩ := e1
          obtain ⟨rfl, rfl⟩ := e2
          obtain ⟨X, hX⟩ : ∃ X, (accS xs).2.2[k].1 = X := ⟨_, rfl⟩
          obtain ⟨Y, hY⟩ : ∃ Y, (accS xs).2.2[k].2 = Y := ⟨_, rfl⟩
          rw [hX] at x1 x2
          rw [hY] at y1 y2
          clear hX hY G1 G2 hlk
          go_wp2
          go_quiet (fail)
          go_wp2
          go_roundw
          case rel => exact ⟨k + 1, _, by go_num, by omega, rfl⟩
          case measure => simp [intOf]; omega
        · go_wp2_with (first
            | (go_at_call 19; refine (feed_nil _ _ ⟨_, _, _, rfl⟩).mono ?_; rintro e w' ⟨rfl, rfl⟩)
            | (go_at_call 20; refine (len_nil _).mono ?_; rintro e w' ⟨rfl, hw'⟩; have hw2 := hw'.symm; subst hw2))
          go_ret
          have hb2 := hbel.alloc hbel.size (.cells #[.pointer none] 32)
          exact ⟨rfl, hb2.os, hb2.tape, hb2.output, hb2.size, hb2.block⟩

end Go.Proofs.YtdbfmjfbiokfdaaDoor
