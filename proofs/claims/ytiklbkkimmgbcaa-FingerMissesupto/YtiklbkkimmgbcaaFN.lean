/-
  The laws' alive.
-/
import Derived.Test.YtiklbkkimmgbcaaFM
namespace Go.Proofs.Ytiklbkkimmgbcaa
open Go.RowKit Go.Maps

theorem args_two (w : World) : ArgsAt (w.alloc (.cells #[.int .i64 0, .string ⟨#[97]⟩, .slice none 0 0, .int .i64 0, .string ⟨#[]⟩, .slice none 0 0] 24)) (.slice (some ⟨w.heap.size, 0, none⟩) 2 2) [ta, tv] := by
  have h := (MapKept.heap_alloc w (.cells #[.int .i64 0, .string ⟨#[97]⟩, .slice none 0 0, .int .i64 0, .string ⟨#[]⟩, .slice none 0 0] 24)).1
  have hc := fun i (v : Value) (q : [Value.int .i64 0, .string ⟨#[97]⟩, .slice none 0 0, .int .i64 0, .string ⟨#[]⟩, .slice none 0 0][i]? = some v) => cell_store (vs := [Value.int .i64 0, .string ⟨#[97]⟩, .slice none 0 0, .int .i64 0, .string ⟨#[]⟩, .slice none 0 0]) h q
  refine ArgsAt.mk (some ⟨w.heap.size, 0, none⟩) 2 [ta, tv] (fun _ => .slice none 0 0) (Nat.le_refl _) (by omega) (fun _ => ⟨w.heap.size, 0, by simp, rfl, fun i hi => ?_⟩) (fun i hi => ?_)
  · have : i = 0 ∨ i = 1 := by simp at hi; omega
    rcases this with rfl | rfl
    · exact ⟨hc 0 _ rfl, hc 1 _ rfl, hc 2 _ rfl⟩
    · exact ⟨hc 3 _ rfl, hc 4 _ rfl, hc 5 _ rfl⟩
  · have : i = 0 ∨ i = 1 := by simp at hi; omega
    rcases this with rfl | rfl <;> exact args_nil _

set_option maxRecDepth 100000 in
set_option maxHeartbeats 8000000 in
theorem alive_any (w : World) : Calls Try.prog 11 #[] w fun e w' => e = .returned (.bool true) ∧ Below w.heap.size w w' := by
  obtain ⟨W1, h1⟩ : ∃ X, w.alloc (.cells #[.int .i64 0, .string ⟨#[97]⟩, .slice none 0 0, .int .i64 0, .string ⟨#[]⟩, .slice none 0 0] 24) = X := ⟨_, rfl⟩
  have b1 : Below w.heap.size w W1 := by rw [← h1]; exact below_box _ _
  have ha1 := args_two w
  rw [h1] at ha1
  have hc9 := fof_any tf (.slice (some ⟨w.heap.size, 0, none⟩) 2 2) W1 ha1
  have HB1 : Hid (Below w.heap.size w W1) := b1
  obtain ⟨kl, hkl⟩ := key_a
  have HKL : Hid (keyOf Try.prog 66 (.agg (fpr ta).toArray) = some kl) := hkl
  clear b1 ha1 hkl
  go_enter Try.func11, Try.ntmps11
  go_wp2_with fail
  try rw [h1]
  refine hc9.mono ?_
  rintro e W2 ⟨v2, rfl, hF2, b2⟩
  have HB2 : Hid (Below w.heap.size w W2) := HB1.out.trans (b2.mono HB1.out.size)
  have HF2 : Hid (FtAt W2 v2 (feats tf)) := hF2
  obtain ⟨va, vc, rfl, _, _⟩ := hF2.slice
  have hc17 := new_any W2
  rw [show (feats tf).length = 4 from rfl] at HF2 ⊢
  clear hF2 b2 hc9
  go_wp2_with fail
  refine hc17.mono ?_
  rintro e W3 ⟨bx, m1, m2, rfl, hI3⟩
  have hc18 := insert_new W2 bx m1 m2 7 (by unfold Fit64; omega) ta (.slice none 0 0) kl HKL.out (by decide) ra sa_ W3 hI3 (args_nil _)
  clear hI3 hc17
  go_wp2_with fail
  refine hc18.mono ?_
  rintro e W4 ⟨g, m3, rfl, hI4⟩
  have HI4 : Hid (Ix2 W2 bx m1 m2 g m3 7 (feat ta []) (feat ta [0]) (feat ta [1]) (feat ta [0, 0]) W4) := hI4
  have hc26 := generals_one W2 bx m1 m2 g m3 7 (feat ta []) (feat ta [0]) (feat ta [1]) (feat ta [0, 0]) ta (.slice none 0 0) ra sa_ W4 hI4 (args_nil _)
  rw [show [feat ta [], feat ta [0], feat ta [1], feat ta [0, 0]] = feats ta from rfl, maa, if_pos rfl] at hc26
  clear hI4 hc18
  go_wp2_with fail
  refine hc26.mono ?_
  rintro e W5 ⟨v5, rfl, hR5, b5⟩
  have HI5 := HI4.out.keep b5
  obtain ⟨va5, vc5, rfl, _, _⟩ := hR5.slice
  obtain ⟨bg, og, rfl, hbg, hcg⟩ := hR5.nth (i := 0) (by simp)
  have hF5 : FtAt W5 (.slice va 4 vc) (feats tf) := HF2.out.keep HI5.bel (Nat.le_refl _)
  obtain ⟨bl, ol, rfl, hbl, p0, p1, p2⟩ := hF5.nth (i := 0) (by simp)
  obtain ⟨bl1, ol1, e1, _, q0, q1, q2⟩ := hF5.nth (i := 1) (by simp)
  obtain ⟨rfl, rfl⟩ : bl = bl1 ∧ ol = ol1 := by injection e1 with e; injection e with e1 e2; exact ⟨e1, e2⟩
  obtain ⟨bl1, ol1, e2, _, r0, r1, r2⟩ := hF5.nth (i := 2) (by simp)
  obtain ⟨rfl, rfl⟩ : bl = bl1 ∧ ol = ol1 := by injection e2 with e; injection e with e1 e2; exact ⟨e1, e2⟩
  obtain ⟨bl1, ol1, e3, _, t0, t1, t2⟩ := hF5.nth (i := 3) (by simp)
  obtain ⟨rfl, rfl⟩ : bl = bl1 ∧ ol = ol1 := by injection e3 with e; injection e with e1 e2; exact ⟨e1, e2⟩
  simp only [ff_, List.getElem_cons_zero, List.getElem_cons_succ, Nat.zero_mul, Nat.add_zero, Nat.one_mul, Nat.reduceMul] at p0 p1 p2 q0 q1 q2 r0 r1 r2 t0 t1 t2 hcg
  have hc26b := generals_one W2 bx m1 m2 g m3 7 (feat ta []) (feat ta [0]) (feat ta [1]) (feat ta [0, 0]) tb (.slice none 0 0) rb sb_ W5 HI5 (args_nil _)
  rw [show [feat ta [], feat ta [0], feat ta [1], feat ta [0, 0]] = feats ta from rfl, mab, if_neg (by simp)] at hc26b
  have HI5' : Hid (Ix2 W2 bx m1 m2 g m3 7 (feat ta []) (feat ta [0]) (feat ta [1]) (feat ta [0, 0]) W5 ∧ FtAt W5 (.slice (some ⟨bl, ol, none⟩) 4 vc) (feats tf)) := ⟨HI5, hF5⟩
  clear hR5 b5 HI5 hF5 hbg hbl hc26 e1 e2 e3 HF2
  go_wp2_with fail
  refine hc26b.mono ?_
  rintro e W6 ⟨v6, rfl, hR6, b6⟩
  obtain ⟨va6, vc6, rfl, _, _⟩ := hR6.slice
  have hc12 := Unifies_any (feats tf) (feats tf) _ _ W6 (HI5'.out.2.keep b6 (Nat.le_refl _)) (HI5'.out.2.keep b6 (Nat.le_refl _))
  rw [uff] at hc12
  have HB6 : Hid (Below w.heap.size w W6) := HB2.out.trans ((HI5'.out.1.bel.mono (Nat.le_refl _)).trans (b6.mono (by have := HI5'.out.1.bel.size; omega)) |>.mono HB2.out.size)
  clear hR6 b6 hc26b
  go_wp2_with fail
  refine hc12.mono ?_
  rintro e W7 ⟨rfl, b7⟩
  go_wp2
  go_ret
  exact ⟨rfl, HB6.out.trans (b7.mono HB6.out.size)⟩

end Go.Proofs.Ytiklbkkimmgbcaa
