/-
  QuotaPlays: the walk of the law where there is an account.
-/
import Derived.Test.YtiaebahmbgmajaaPlays
import Derived.Deep.CutBlock
import Derived.Deep.RegionHeld3
namespace Go.Proofs.Ytiaebahmbgmajaa
open Go.RowKit

theorem map_first (xs : List Int) : (xs.map fun l => ((l, 0, 0) : Cnt)).map (·.1) = xs := by simp [Function.comp_def]

theorem plays_start {w w1 w2 w3 : World} {xs : List Int} {n : Nat} {r : RL} (hn : xs.length = n) (h1 : Acc w1 (w.heap.size + 1) w.heap.size (xs.map fun l => (l, 0, 0)) ∧ Below w.heap.size w w1)
    (h2 : Ref w2 r (xs.map fun l => (l, 0, 0)) ∧ Below w1.heap.size w1 w2 ∧ w1.heap.size ≤ r.Br ∧ w1.heap.size ≤ r.gl ∧ w1.heap.size ≤ r.gu ∧ w1.heap.size ≤ r.gp) (h3 : Below w2.heap.size w2 w3) :
    St w (w.heap.size + 1) r.Br (xs.map fun l => (l, 0, 0)) (xs.map fun l => (l, 0, 0)) (.slice (some ⟨w3.heap.size, 0, none⟩) n n) (List.replicate n 0) 0 none (w3.alloc (.cells (Array.replicate n (Value.int .i64 0)) 3)) := by
  obtain ⟨ha, hb1⟩ := h1
  obtain ⟨hr, hb2, r1, r2, r3, r4⟩ := h2
  have hb3 := one_below w3 (.cells (Array.replicate n (Value.int .i64 0)) 3)
  have k13 : Below w1.heap.size w1 (w3.alloc (.cells (Array.replicate n (Value.int .i64 0)) 3)) := (hb2.trans (h3.mono hb2.size)).trans (hb3.mono (by have := hb2.size; have := h3.size; omega))
  have k23 : Below w2.heap.size w2 (w3.alloc (.cells (Array.replicate n (Value.int .i64 0)) 3)) := h3.trans (hb3.mono h3.size)
  have s1 := hb1.size
  have s2 := hb2.size
  have s3 := h3.size
  have l16 := ha.good.len
  rw [List.length_map] at l16
  have hI : IntRow (w3.alloc (.cells (Array.replicate n (Value.int .i64 0)) 3)) w3.heap.size n (List.replicate n 0) := ⟨_, heap_alloc_new w3 _, by simp, by omega, by simp, by simp⟩
  refine ⟨⟨_, ha.same (k13.block _ ha.acc.lt) (k13.block _ ha.cnt.lt)⟩, ⟨r, rfl, hr.below k23, by omega, by omega, w3.heap.size, n, by simp, hI, ?_, ?_, by omega⟩, hb1.trans (k13.mono s1), by omega, by omega, fun a h => by cases h⟩
  · have := hr.ru.lt; omega
  · have := hr.rp.lt; omega

theorem St.obj {w0 : World} {Ba Br : Nat} {ca cr : List Cnt} {mv : Value} {ms : List Int} {W : World} (h : St w0 Ba Br ca cr mv ms 0 none W) (a : Array Value) : St w0 Ba Br ca cr mv ms W.heap.size (some a) (W.alloc (.cells a 34)) := by
  have h' := h.alloc (.cells a 34)
  exact ⟨h'.acc, h'.rf, h'.below, h'.fa, h'.fb, fun a' e => by cases e; exact heap_alloc_new W _⟩
theorem St.drop {w0 : World} {Ba Br : Nat} {ca cr : List Cnt} {mv : Value} {ms : List Int} {Bo : Nat} {ov : Option (Array Value)} {W : World} (h : St w0 Ba Br ca cr mv ms Bo ov W) : St w0 Ba Br ca cr mv ms 0 none W :=
  ⟨h.acc, h.rf, h.below, h.fa, h.fb, fun a e => by cases e⟩

theorem St.oc {w0 : World} {Ba Br : Nat} {ca cr : List Cnt} {mv : Value} {ms : List Int} {Bo : Nat} {a0 a1 a2 a3 : Value} {W : World} (h : St w0 Ba Br ca cr mv ms Bo (some #[a0, a1, a2, a3]) W) : W.cell? ⟨Bo, 0, none⟩ = some a0 ∧ W.cell? ⟨Bo, 1, none⟩ = some a1 ∧ W.cell? ⟨Bo, 2, none⟩ = some a2 ∧ W.cell? ⟨Bo, 3, none⟩ = some a3 := by
  have := h.ob _ rfl
  refine ⟨?_, ?_, ?_, ?_⟩ <;> rw [cell_of_row _ _ _ _ 34 (0, 0) this] <;> rfl

theorem takeC_map (cs : List Cnt) (k n : Int) : (takeC cs k n).map (·.1) = cs.map (·.1) := by
  unfold takeC
  split
  · split
    · rfl
    · exact map_set_same cs _ _ _ _ rfl
  · rfl
theorem giveC_map (cs : List Cnt) (k n : Int) : (giveC cs k n).map (·.1) = cs.map (·.1) := by
  unfold giveC
  split
  · exact map_set_same cs _ _ _ _ rfl
  · rfl
theorem backR_map {cs cs' : List Cnt} {ms : List Int} {E : Int} (h : BackR cs ms E cs') : cs'.map (·.1) = cs.map (·.1) := by
  rcases h with ⟨_, hl, _, rfl⟩ | ⟨_, _, rfl⟩
  · exact (bk_map hl).1
  · rfl
theorem Ints.below {w W : World} {v : Value} {xs : List Int} (h : Ints w v xs) (hb : Below w.heap.size w W) : Ints W v xs := by
  obtain ⟨p, c, rfl, ha, hc, hx⟩ := h
  refine ⟨p, c, rfl, ha, hc, fun hp => ?_⟩
  obtain ⟨b, o, rfl, hcell⟩ := hx hp
  exact ⟨b, o, rfl, fun i hi => (hb.cell (p := ⟨b, o + i, none⟩) (World.block_lt_of_cell? w _ (hcell i hi))).trans (hcell i hi)⟩

theorem st_mark2 {w0 : World} {Ba Br : Nat} {ca cr : List Cnt} {mv : Value} {ms : List Int} {Bo : Nat} {ov : Option (Array Value)} {W0 : World} (W : World) (n : Nat) (hn : ca.length = n) (h : St w0 Ba Br ca cr mv ms Bo ov W0) (ha : Alk W0 W) :
    Calls Try.prog 21 #[.pointer (some ⟨Ba, 0, none⟩)] W fun e W' => ∃ gm, e = .returned (.slice (some ⟨gm, 0, none⟩) n n) ∧ Ints W' (.slice (some ⟨gm, 0, none⟩) n n) (ca.map (·.2.1)) ∧ St w0 Ba Br ca cr mv ms Bo ov W' ∧ Below W0.heap.size W0 W' := by
  subst hn
  have hb0 : Below W0.heap.size W0 W := ⟨ha.2.1, ha.2.2.1, ha.2.2.2, by rw [ha.1]; exact Nat.le_refl _, fun k _ => by rw [ha.1]⟩
  have h := h.alk ha
  obtain ⟨g, hacc⟩ := h.acc
  refine (mark_any Ba g ca W hacc).mono ?_
  rintro e W' ⟨rfl, hI, hb⟩
  have hi := hI.ints
  rw [List.length_map] at hi
  exact ⟨_, rfl, hi, h.of_below hb, hb0.trans (hb.mono hb0.size)⟩
theorem st_used {w0 : World} {Ba Br : Nat} {ca cr : List Cnt} {mv : Value} {ms : List Int} {Bo : Nat} {ov : Option (Array Value)} {W0 : World} (W : World) (j : Nat) (hj : j < ca.length) (U : Int) (hU : ca[j].2.1 = U) (h : St w0 Ba Br ca cr mv ms Bo ov W0) (ha : Alk W0 W) :
    Calls Try.prog 25 #[.pointer (some ⟨Ba, 0, none⟩), .int .i64 j] W fun e W' => e = .returned (.int .i64 U) ∧ ∃ o, W' = W.alloc o ∧ St w0 Ba Br ca cr mv ms Bo ov (W.alloc o) := by
  have h := h.alk ha
  obtain ⟨g, hacc⟩ := h.acc
  refine (used_in Ba g j ca W hacc.acc hacc.cnt hj).mono ?_
  rintro e W' ⟨rfl, o, rfl⟩
  exact ⟨by rw [hU], o, rfl, h.alloc o⟩
theorem st_peak {w0 : World} {Ba Br : Nat} {ca cr : List Cnt} {mv : Value} {ms : List Int} {Bo : Nat} {ov : Option (Array Value)} {W0 : World} (W : World) (j : Nat) (hj : j < ca.length) (U : Int) (hU : ca[j].2.2 = U) (h : St w0 Ba Br ca cr mv ms Bo ov W0) (ha : Alk W0 W) :
    Calls Try.prog 26 #[.pointer (some ⟨Ba, 0, none⟩), .int .i64 j] W fun e W' => e = .returned (.int .i64 U) ∧ ∃ o, W' = W.alloc o ∧ St w0 Ba Br ca cr mv ms Bo ov (W.alloc o) := by
  have h := h.alk ha
  obtain ⟨g, hacc⟩ := h.acc
  refine (peak_in Ba g j ca W hacc.acc hacc.cnt hj).mono ?_
  rintro e W' ⟨rfl, o, rfl⟩
  exact ⟨by rw [hU], o, rfl, h.alloc o⟩
theorem st_limit {w0 : World} {Ba Br : Nat} {ca cr : List Cnt} {mv : Value} {ms : List Int} {Bo : Nat} {ov : Option (Array Value)} {W0 : World} (W : World) (j : Nat) (hj : j < ca.length) (U : Int) (hU : ca[j].1 = U) (h : St w0 Ba Br ca cr mv ms Bo ov W0) (ha : Alk W0 W) :
    Calls Try.prog 27 #[.pointer (some ⟨Ba, 0, none⟩), .int .i64 j] W fun e W' => e = .returned (.int .i64 U) ∧ ∃ o, W' = W.alloc o ∧ St w0 Ba Br ca cr mv ms Bo ov (W.alloc o) := by
  have h := h.alk ha
  obtain ⟨g, hacc⟩ := h.acc
  refine (limit_in Ba g j ca W hacc.acc hacc.cnt hj).mono ?_
  rintro e W' ⟨rfl, o, rfl⟩
  exact ⟨by rw [hU], o, rfl, h.alloc o⟩

theorem below1 (w : World) (o1 : Obj) : Below w.heap.size w (w.alloc o1).drew := (one_below w o1).drew
theorem below2 (w : World) (o1 o2 : Obj) : Below w.heap.size w ((w.alloc o1).alloc o2).drew := ((one_below w o1).alloc (by simp) o2).drew
theorem below3 (w : World) (o1 o2 o3 : Obj) : Below w.heap.size w (((w.alloc o1).alloc o2).alloc o3).drew := (((one_below w o1).alloc (by simp) o2).alloc (by simp; omega) o3).drew
theorem held5 {W W' : World} {a1 a2 a3 a4 a5 : Addr} {v1 v2 v3 v4 v5 : Value} (h1 : W.cell? a1 = some v1) (h2 : W.cell? a2 = some v2) (h3 : W.cell? a3 = some v3) (h4 : W.cell? a4 = some v4) (h5 : W.cell? a5 = some v5) (hb : Below W.heap.size W W') :
    W'.cell? a1 = some v1 ∧ W'.cell? a2 = some v2 ∧ W'.cell? a3 = some v3 ∧ W'.cell? a4 = some v4 ∧ W'.cell? a5 = some v5 :=
  ⟨(hb.cell (World.block_lt_of_cell? W _ h1)).trans h1, (hb.cell (World.block_lt_of_cell? W _ h2)).trans h2, (hb.cell (World.block_lt_of_cell? W _ h3)).trans h3, (hb.cell (World.block_lt_of_cell? W _ h4)).trans h4, (hb.cell (World.block_lt_of_cell? W _ h5)).trans h5⟩

theorem st_used0 {w0 : World} {Ba Br : Nat} {ca cr : List Cnt} {mv : Value} {ms : List Int} {Bo : Nat} {ov : Option (Array Value)} {W0 : World} (W : World) (k : Int) (hk : k < 0 ∨ ca.length ≤ k) (h : St w0 Ba Br ca cr mv ms Bo ov W0) (ha : Alk W0 W) :
    Calls Try.prog 25 #[.pointer (some ⟨Ba, 0, none⟩), .int .i64 k] W fun e W' => e = .returned (.int .i64 0) ∧ ∃ o, W' = W.alloc o ∧ St w0 Ba Br ca cr mv ms Bo ov (W.alloc o) := by
  have h := h.alk ha
  obtain ⟨g, hacc⟩ := h.acc
  refine (used_out Ba g ca.length k W hacc.acc hk).mono ?_
  rintro e W' ⟨rfl, o, rfl⟩
  exact ⟨rfl, o, rfl, h.alloc o⟩
theorem st_peak0 {w0 : World} {Ba Br : Nat} {ca cr : List Cnt} {mv : Value} {ms : List Int} {Bo : Nat} {ov : Option (Array Value)} {W0 : World} (W : World) (k : Int) (hk : k < 0 ∨ ca.length ≤ k) (h : St w0 Ba Br ca cr mv ms Bo ov W0) (ha : Alk W0 W) :
    Calls Try.prog 26 #[.pointer (some ⟨Ba, 0, none⟩), .int .i64 k] W fun e W' => e = .returned (.int .i64 0) ∧ ∃ o, W' = W.alloc o ∧ St w0 Ba Br ca cr mv ms Bo ov (W.alloc o) := by
  have h := h.alk ha
  obtain ⟨g, hacc⟩ := h.acc
  refine (peak_out Ba g ca.length k W hacc.acc hk).mono ?_
  rintro e W' ⟨rfl, o, rfl⟩
  exact ⟨rfl, o, rfl, h.alloc o⟩
theorem st_limit0 {w0 : World} {Ba Br : Nat} {ca cr : List Cnt} {mv : Value} {ms : List Int} {Bo : Nat} {ov : Option (Array Value)} {W0 : World} (W : World) (k : Int) (hk : k < 0 ∨ ca.length ≤ k) (h : St w0 Ba Br ca cr mv ms Bo ov W0) (ha : Alk W0 W) :
    Calls Try.prog 27 #[.pointer (some ⟨Ba, 0, none⟩), .int .i64 k] W fun e W' => e = .returned (.int .i64 0) ∧ ∃ o, W' = W.alloc o ∧ St w0 Ba Br ca cr mv ms Bo ov (W.alloc o) := by
  have h := h.alk ha
  obtain ⟨g, hacc⟩ := h.acc
  refine (limit_out Ba g ca.length k W hacc.acc hk).mono ?_
  rintro e W' ⟨rfl, o, rfl⟩
  exact ⟨rfl, o, rfl, h.alloc o⟩

set_option maxRecDepth 100000 in
set_option maxHeartbeats 4000000 in
theorem plays_main (v1 v2 : Value) (kind : Int) (xs : List Int) (ops : List OpV) (w : World) (h1 : Ints w v1 xs) (hfit : ∀ x ∈ xs, x ≤ 9223372036854775807) (hok : newOk xs) (h2 : Script w v2 ops) :
    Calls Try.prog 4 #[v1, v2, .int .i64 kind] w fun e w' => e = .returned (.bool true) ∧ Below w.heap.size w w' := by
  have h1' : ∀ w', Below w.heap.size w w' → Ints w' v1 xs := by
    intro w' hb
    obtain ⟨p, c, rfl, ha, hc, hx⟩ := h1
    refine ⟨p, c, rfl, ha, hc, fun hp => ?_⟩
    obtain ⟨b, o, rfl, hcell⟩ := hx hp
    exact ⟨b, o, rfl, fun i hi => (hb.cell (p := ⟨b, o + i, none⟩) (World.block_lt_of_cell? w _ (hcell i hi))).trans (hcell i hi)⟩
  have H : Hid (Ints w v1 xs ∧ (∀ x ∈ xs, x ≤ 9223372036854775807) ∧ newOk xs ∧ ∀ w', Below w.heap.size w w' → Ints w' v1 xs) := ⟨h1, hfit, hok, h1'⟩
  obtain ⟨p, c, rfl, hpc, hcm, hx⟩ := h1
  obtain ⟨b, o, rfl, hcell⟩ := hx hok.1
  have HX : Hid (∀ i, i < xs.length → w.cell? ⟨b, o + i, none⟩ = some (.int .i64 (xs.getD i 0))) := hcell
  obtain ⟨p2, c2, rfl, hpc2, hcm2, hx2⟩ := h2
  have HS : Hid (0 < ops.length → ∃ b o, p2 = some ⟨b, o, none⟩ ∧ ∀ i (h : i < ops.length), w.cell? ⟨b, o + i * 4, none⟩ = some (.int .i64 ops[i].kd) ∧ w.cell? ⟨b, o + i * 4 + 1, none⟩ = some (.int .i64 ops[i].k) ∧ w.cell? ⟨b, o + i * 4 + 2, none⟩ = some (.int .i64 ops[i].n) ∧ w.cell? ⟨b, o + i * 4 + 3, none⟩ = some ops[i].lv ∧ Ints w ops[i].lv ops[i].ls ∧ Fit ops[i].n) := hx2
  have hmk := make_ints xs.length hok.2.1
  clear hfit hok h1' hx hcell hx2
  obtain ⟨n, hn⟩ : ∃ n, xs.length = n := ⟨_, rfl⟩
  obtain ⟨m, hm⟩ : ∃ m, ops.length = m := ⟨_, rfl⟩
  rw [hn] at hpc hmk ⊢
  rw [hm] at hpc2 ⊢
  have HN : Hid (xs.length = n ∧ ops.length = m) := ⟨hn, hm⟩
  clear hn hm
  go_enter Try.func4, Try.ntmps4
  go_wp2_with (first
    | (go_at_call 15; refine (new_good _ xs w (by have := H.out.1; rw [HN.out.1] at this; exact this) H.out.2.1 H.out.2.2.1).mono ?_; rintro e w1 ⟨rfl, ha1, hb1⟩; have HB1 : Hid (Acc w1 (w.heap.size + 1) w.heap.size (xs.map fun l => (l, 0, 0)) ∧ Below w.heap.size w w1) := ⟨ha1, hb1⟩; clear ha1 hb1)
    | (go_at_call 16; refine (rnew_good _ xs w1 (by have := H.out.2.2.2 w1 HB1.out.2; rw [HN.out.1] at this; exact this) H.out.2.1 H.out.2.2.1).mono ?_; rintro e w2 ⟨r, rfl, hr2, hb2, hr⟩; have HB2 : Hid (Ref w2 r (xs.map fun l => (l, 0, 0)) ∧ Below w1.heap.size w1 w2 ∧ w1.heap.size ≤ r.Br ∧ w1.heap.size ≤ r.gl ∧ w1.heap.size ≤ r.gu ∧ w1.heap.size ≤ r.gp) := ⟨hr2, hb2, hr⟩; clear hr2 hb2 hr)
    | (go_at_call 14; refine (alive_any _).mono ?_; rintro e w3 ⟨rfl, hb3⟩; have HB3 : Hid (Below w2.heap.size w2 w3) := hb3; clear hb3))
  have HS0 : Hid (St w (w.heap.size + 1) r.Br (xs.map fun l => (l, 0, 0)) (xs.map fun l => (l, 0, 0)) (.slice (some ⟨w3.heap.size, 0, none⟩) n n) (List.replicate n 0) 0 none (w3.alloc (.cells (Array.replicate n (Value.int .i64 0)) 3))) := plays_start HN.out.1 HB1.out HB2.out HB3.out
  obtain ⟨Br, hBr⟩ : ∃ Br, r.Br = Br := ⟨_, rfl⟩
  rw [hBr] at HS0 ⊢
  obtain ⟨Ba, hBa⟩ : ∃ Ba, w.heap.size + 1 = Ba := ⟨_, rfl⟩
  rw [hBa] at HS0 ⊢
  clear HB1 HB2 HB3 hBr hmk hBa H
  go_loopg [10, 11, 12, 13, 14, 15] m (fun k mv ii _ _ _ _ wr => ∃ (i : Nat) (cs : List Cnt) (ms : List Int), ii = .int .i64 i ∧ i ≤ m ∧ k = m - i ∧ cs.map (·.1) = xs ∧ St w Ba Br cs cs mv ms 0 none wr)
  case atStart => exact ⟨0, _, _, rfl, Nat.zero_le _, by omega, map_first xs, HS0.out⟩
  case round =>
    obtain ⟨i, cs, ms, rfl, hi, hk, hcs, hSt⟩ := hrel
    clear HS0
    by_cases hlt : i < m
    · obtain ⟨sb, so, hsb, hop⟩ := HS.out (by have := HN.out.2; omega)
      subst hsb
      have hop := hop i (by have := HN.out.2; omega)
      obtain ⟨op, hope⟩ : ∃ op, ops[i]'(by have := HN.out.2; omega) = op := ⟨_, rfl⟩
      rw [hope] at hop
      obtain ⟨kd, k, q, lv, ls⟩ := op
      obtain ⟨o0, o1, o2, o3, o4, o5⟩ := hop
      simp only at o0 o1 o2 o3 o4 o5
      have hsl : sb < w.heap.size := World.block_lt_of_cell? w _ o0
      have s0 := (hSt.below.cell (p := ⟨sb, so + i * 4, none⟩) hsl).trans o0
      have s1 := (hSt.below.cell (p := ⟨sb, so + i * 4 + 1, none⟩) hsl).trans o1
      have s2 := (hSt.below.cell (p := ⟨sb, so + i * 4 + 2, none⟩) hsl).trans o2
      have s3 := (hSt.below.cell (p := ⟨sb, so + i * 4 + 3, none⟩) hsl).trans o3
      have HL : Hid (Ints w lv ls ∧ Fit q) := ⟨o4, o5⟩
      obtain ⟨lp, lc, hlv, _⟩ := o4
      obtain ⟨nl, hnl⟩ : ∃ nl, ls.length = nl := ⟨_, rfl⟩
      rw [hnl] at hlv
      subst hlv
      clear o0 o1 o2 o3 o5 hope hnl
      go_upto_block 2 with fail
      have hS1 := hSt.obj #[.int .i64 kd, .int .i64 k, .int .i64 q, .slice lp nl lc]
      obtain ⟨z0, z1, z2, z3⟩ := hS1.oc
      have hg := hSt.good
      clear hSt
      go_cut [10, 13, 14] from 46 to 167 (fun mv x y wx => ∃ (cs' : List Cnt) (ms' : List Int) (E : Int), x = .int .i64 E ∧ y = .int .i64 E ∧ cs'.map (·.1) = xs ∧ St w Ba Br cs' cs' mv ms' 0 none wx)
      case first =>
        by_cases k1 : kd = 1
        · subst k1
          go_wp2
          go_region_held3 (fun w' => w'.cell? ⟨wr.heap.size, 1, none⟩ = some (.int .i64 k) ∧ w'.cell? ⟨wr.heap.size, 2, none⟩ = some (.int .i64 q)) (first | exact ⟨z1, z2⟩ | exact ⟨t1, t2⟩ | exact ⟨y1, y2⟩) (first
            | (go_at_call 17; first
                | (refine (st_take _ k q hR (by exact ⟨rfl, rfl, rfl, rfl⟩)).mono ?_; rintro e W2 ⟨rfl, hTR⟩; obtain ⟨y0, y1, y2, y3⟩ := hTR.oc)
                | (refine (st_take _ k q hS1 (by exact ⟨rfl, rfl, rfl, rfl⟩)).mono ?_; rintro e W1 ⟨rfl, hT⟩; obtain ⟨t0, t1, t2, t3⟩ := hT.oc))
            | (go_at_call 18; first
                | (refine (st_rtake _ k q hT (by exact ⟨rfl, rfl, rfl, rfl⟩)).mono ?_; rintro e W2 ⟨rfl, hTR⟩; obtain ⟨y0, y1, y2, y3⟩ := hTR.oc)
                | (refine (st_rtake _ k q hS1 (by exact ⟨rfl, rfl, rfl, rfl⟩)).mono ?_; rintro e W1 ⟨rfl, hR⟩; obtain ⟨t0, t1, t2, t3⟩ := hR.oc)))
          go_wp2
          go_meet
          exact ⟨_, ms, takeE cs k q, rfl, rfl, (takeC_map cs k q).trans hcs, hTR.drop⟩
        · by_cases k2 : kd = 2
          · subst k2
            have HQ := HL.out.2
            go_wp2_with (first
              | (go_at_call 19; refine (st_give _ k q HQ hS1 (by exact ⟨rfl, rfl, rfl, rfl⟩)).mono ?_; rintro e W1 ⟨rfl, hT⟩; obtain ⟨t0, t1, t2, t3⟩ := hT.oc)
              | (go_at_call 20; refine (st_rgive _ k q HQ hT (by exact ⟨rfl, rfl, rfl, rfl⟩)).mono ?_; rintro e W2 ⟨rfl, hTR⟩))
            go_meet
            exact ⟨_, ms, 0, rfl, rfl, (giveC_map cs k q).trans hcs, hTR.drop⟩
          · by_cases k3 : kd = 3
            · subst k3
              go_wp2_with (first
                | (go_at_call 21; refine (st_mark _ hS1 (by exact ⟨rfl, rfl, rfl, rfl⟩)).mono ?_; rintro e W1 ⟨gm, rfl, hI1, _, hM⟩; obtain ⟨gu, cu, gp, cp, u1, _, hI2, _⟩ := hM.used; clear hI1)
                | (go_at_call 22; refine (ints_any _ _ _ W1 hM.ints hI2 (by have := hg.len; simp; omega)).mono ?_; rintro e W2 ⟨rfl, qq, rfl⟩))
              go_meet
              exact ⟨cs, _, 0, rfl, rfl, hcs, (hM.alk (W' := W1.drewN qq) ⟨rfl, rfl, rfl, rfl⟩).drop⟩
            · by_cases k4 : kd = 4
              · subst k4
                obtain ⟨E, cs', hE⟩ := backR_any cs ms
                go_wp2_with (first
                  | (go_at_call 23; refine (st_back _ _ ms E hS1.ints hE hS1 (by exact ⟨rfl, rfl, rfl, rfl⟩)).mono ?_; rintro e W1 ⟨rfl, hT⟩)
                  | (go_at_call 24; refine (st_rback _ _ ms E hT.ints hE hT (by exact ⟨rfl, rfl, rfl, rfl⟩)).mono ?_; rintro e W2 ⟨rfl, hTR⟩))
                go_meet
                exact ⟨cs', ms, E, rfl, rfl, (backR_map hE).trans hcs, hTR.drop⟩
              · by_cases k5 : kd = 5
                · subst k5
                  obtain ⟨E, cs', hE⟩ := backR_any cs ls
                  go_wp2
                  go_region_held3 (fun w' => w'.cell? ⟨wr.heap.size, 3, none⟩ = some (.slice lp nl lc)) (first | exact z3 | exact t3 | exact y3) (first
                    | (go_at_call 23; refine (st_back _ _ ls E (HL.out.1.below hS1.below) hE hS1 (by exact ⟨rfl, rfl, rfl, rfl⟩)).mono ?_; rintro e W1 ⟨rfl, hT⟩; obtain ⟨t0, t1, t2, t3⟩ := hT.oc)
                    | (go_at_call 24; refine (st_rback _ _ ls E (HL.out.1.below hT.below) hE hT (by exact ⟨rfl, rfl, rfl, rfl⟩)).mono ?_; rintro e W2 ⟨rfl, hTR⟩; obtain ⟨y0, y1, y2, y3⟩ := hTR.oc))
                  go_wp2
                  go_meet
                  exact ⟨cs', ms, E, rfl, rfl, (backR_map hE).trans hcs, hTR.drop⟩
                · have n1 : (kd == 1) = false := beq_false_of_ne k1
                  have n2 : (kd == 2) = false := beq_false_of_ne k2
                  have n3 : (kd == 3) = false := beq_false_of_ne k3
                  have n4 : (kd == 4) = false := beq_false_of_ne k4
                  have n5 : (kd == 5) = false := beq_false_of_ne k5
                  go_wp2
                  go_meet
                  exact ⟨cs, ms, 0, rfl, rfl, hcs, hS1.drop⟩
      case rest =>
        clear z0 z1 z2 z3 hS1 s0 s1 s2 s3 hcs hg
        obtain ⟨cs', ms', E, rfl, rfl, hcs, hSt⟩ := hcut
        have hlen : cs'.length = n := by rw [← HN.out.1, ← hcs, List.length_map]
        have hg := hSt.good
        obtain ⟨gu, cu, gp, cp, u1, u2, hI2, _⟩ := hSt.used
        rw [hlen] at u1 u2
        have HI2 : Hid (Ints wc (.slice (some ⟨gu, 0, none⟩) n cu) (cs'.map (·.2.1)) ∧ Br < wc.heap.size) := ⟨by rw [hlen] at hI2; exact hI2, World.block_lt_of_cell? wc _ u1⟩
        clear hI2 u2
        go_wp2
        go_region_held3 (fun w' => w'.cell? ⟨Br, 1, none⟩ = some (.slice (some ⟨gu, 0, none⟩) n cu)) (first | exact u1 | exact u1') (first
          | (go_at_call 21; refine (st_mark2 _ n hlen hSt (by exact ⟨rfl, rfl, rfl, rfl⟩)).mono ?_; rintro e W1 ⟨gm, rfl, hI1, hM, hbm⟩; have u1' := (hbm.cell (p := ⟨Br, 1, none⟩) HI2.out.2).trans u1; have HM : Hid (Ints W1 (.slice (some ⟨gm, 0, none⟩) n n) (cs'.map (·.2.1)) ∧ St w Ba Br cs' cs' u10 ms' 0 none W1 ∧ Below wc.heap.size wc W1) := ⟨hI1, hM, hbm⟩; clear hI1 hM hbm)
          | (go_at_call 22; refine (ints_any _ _ _ _ HM.out.1 (HI2.out.1.below HM.out.2.2) (by have := hg.len; simp; omega)).mono ?_; rintro e W2 ⟨rfl, qq, rfl⟩))
        go_wp2
        have HS2 : Hid (St w Ba Br cs' cs' u10 ms' 0 none (W1.drewN qq)) := HM.out.2.1.alk ⟨rfl, rfl, rfl, rfl⟩
        clear HM u1 u1' HI2 hSt
        go_loopg [15] n (fun kk jj wj => ∃ j : Nat, jj = .int .i64 j ∧ j ≤ n ∧ kk = n - j ∧ St w Ba Br cs' cs' u10 ms' 0 none wj)
        case atStart => exact ⟨0, rfl, Nat.zero_le _, by omega, HS2.out⟩
        case round =>
          obtain ⟨j, rfl, hj, hkk, hSj⟩ := hrel
          clear HS2
          by_cases hjn : j < n
          · obtain ⟨gu, cu, gp, cp, u1, u2, _, hce⟩ := hSj.used
            obtain ⟨ce1, ce2⟩ := hce j (by omega)
            rw [hlen] at u1 u2
            have cl := (hSj.below.cell (p := ⟨b, o + j, none⟩) (World.block_lt_of_cell? w _ (HX.out j (by have := HN.out.1; omega)))).trans (HX.out j (by have := HN.out.1; omega))
            have hLj : (cs'[j]'(by omega)).1 = xs.getD j 0 := by
              have : xs.getD j 0 = (cs'.map (·.1)).getD j 0 := by rw [hcs]
              rw [this, List.getD_eq_getElem?_getD, List.getElem?_eq_getElem (by simp; omega)]
              simp
            obtain ⟨L, hL⟩ : ∃ L, xs.getD j 0 = L := ⟨_, rfl⟩
            obtain ⟨U, hU⟩ : ∃ U, (cs'[j]'(by omega)).2.1 = U := ⟨_, rfl⟩
            obtain ⟨P, hP⟩ : ∃ P, (cs'[j]'(by omega)).2.2 = P := ⟨_, rfl⟩
            rw [hL] at cl hLj
            rw [hU] at ce1
            rw [hP] at ce2
            have HF : Hid ((cs'[j]'(by omega)).1 = L ∧ (cs'[j]'(by omega)).2.1 = U ∧ (cs'[j]'(by omega)).2.2 = P) := ⟨hLj, hU, hP⟩
            clear hL hU hP hLj hce
            go_wp2
            go_region_held3 (fun w' => w'.cell? ⟨Br, 1, none⟩ = some (.slice (some ⟨gu, 0, none⟩) n cu) ∧ w'.cell? ⟨Br, 2, none⟩ = some (.slice (some ⟨gp, 0, none⟩) n cp) ∧ w'.cell? ⟨gu, j, none⟩ = some (.int .i64 U) ∧ w'.cell? ⟨gp, j, none⟩ = some (.int .i64 P) ∧ w'.cell? ⟨b, o + j, none⟩ = some (.int .i64 L)) (first | exact ⟨u1, u2, ce1, ce2, cl⟩ | exact held5 u1 u2 ce1 ce2 cl (below1 wr _) | exact held5 u1 u2 ce1 ce2 cl (below2 wr _ _) | exact held5 u1 u2 ce1 ce2 cl (below3 wr _ _ _)) (first
              | (go_at_call 25; refine (st_used _ j (by omega) U HF.out.2.1 hSj (by exact ⟨rfl, rfl, rfl, rfl⟩)).mono ?_; rintro e W5 ⟨rfl, o5, rfl, h5⟩)
              | (go_at_call 26; refine (st_peak _ j (by omega) P HF.out.2.2 h5 (by exact ⟨rfl, rfl, rfl, rfl⟩)).mono ?_; rintro e W6 ⟨rfl, o6, rfl, h6⟩)
              | (go_at_call 27; refine (st_limit _ j (by omega) L HF.out.1 h6 (by exact ⟨rfl, rfl, rfl, rfl⟩)).mono ?_; rintro e W7 ⟨rfl, o7, rfl, h7⟩))
            go_wp2
            go_roundg (n - (j + 1))
            case measure => omega
            case rel => exact ⟨j + 1, by go_num, by omega, rfl, (((hSj.alloc o5).alloc o6).alloc o7).alk ⟨rfl, rfl, rfl, rfl⟩⟩
          · go_wp2
            go_roundg (m - (i + 1))
            case measure => omega
            case rel => exact ⟨i + 1, cs', ms', by go_num, by omega, rfl, hcs, hSj⟩
    · have hlen : cs.length = n := by rw [← HN.out.1, ← hcs, List.length_map]
      clear HS HX
      by_cases hin : 0 ≤ kind ∧ kind < n
      · have hb1 : (decide (0 ≤ kind) && decide (kind < cs.length)) = true := by rw [hlen]; simp; omega
        go_wp2_with (go_at_call 28; refine (st_is _ kind hSt (by exact ⟨rfl, rfl, rfl, rfl⟩)).mono ?_; rw [hb1]; rintro e W5 ⟨rfl, hw5⟩; have hw6 := hw5.symm; subst hw6)
        go_ret
        exact ⟨rfl, hSt.below⟩
      · have hb1 : (decide (0 ≤ kind) && decide (kind < cs.length)) = false := by rw [hlen]; simp; omega
        have ho : kind < 0 ∨ cs.length ≤ kind := by omega
        go_wp2_with (first
          | (go_at_call 28; refine (st_is _ kind hSt (by exact ⟨rfl, rfl, rfl, rfl⟩)).mono ?_; rw [hb1]; rintro e W5 ⟨rfl, hw5⟩; have hw6 := hw5.symm; subst hw6)
          | (go_at_call 25; refine (st_used0 _ kind ho hSt (by exact ⟨rfl, rfl, rfl, rfl⟩)).mono ?_; rintro e W5 ⟨rfl, o5, rfl, h5⟩)
          | (go_at_call 27; refine (st_limit0 _ kind ho h5 (by exact ⟨rfl, rfl, rfl, rfl⟩)).mono ?_; rintro e W6 ⟨rfl, o6, rfl, h6⟩)
          | (go_at_call 26; refine (st_peak0 _ kind ho h6 (by exact ⟨rfl, rfl, rfl, rfl⟩)).mono ?_; rintro e W7 ⟨rfl, o7, rfl, h7⟩))
        go_ret
        exact ⟨rfl, h7.below⟩

end Go.Proofs.Ytiaebahmbgmajaa
