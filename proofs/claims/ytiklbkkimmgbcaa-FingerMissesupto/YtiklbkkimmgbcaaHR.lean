/-
  The document's Own: it returns.
-/
import Derived.Test.YtiklbkkimmgbcaaHQ
namespace Go.Proofs.Ytiklbkkimmgbcaa
open Go.RowKit Go.Maps

set_option maxRecDepth 100000 in
set_option maxHeartbeats 8000000 in
theorem own_any' (l : List Bd) (v : Value) (w : World) (hl : BindsAt w v l) (hlen : l.length ≤ 1048576) :
    Calls Try.prog 56 #[v] w fun e W' => ∃ v', e = .returned v' ∧ Below w.heap.size w W' := by
  obtain ⟨la, lc, rfl⟩ := hl.slice
  have HL : Hid (∀ Z, Below w.heap.size w Z → BindsAt Z (.slice la l.length lc) l) := fun Z hZ => hl.keep hZ
  obtain ⟨i0, hi0, hz0, hz1, hz2⟩ := info_parts Try.info105
  clear hl
  go_enter Try.func56, Try.ntmps56
  go_wp2
  go_loopw [3, 4] (fun vo vi wr => ∃ (i n : Nat) (oa : Option Addr) (oc : Nat), vi = .int .i64 i ∧ vo = .slice oa n oc ∧ i ≤ l.length ∧ n ≤ i ∧ Hid (Below w.heap.size w wr ∧ ∃ xs, wr.ownsRow w.heap.size 105 4 (.slice oa n oc) n xs)) (fun _ vi _ => l.length - (intOf vi).toNat)
  case atStart => exact ⟨0, 0, none, 0, rfl, rfl, Nat.zero_le _, Nat.le_refl _, Below.refl _ _, [], World.ownsRow_nil _ _ _ _⟩
  case round =>
    obtain ⟨i, n, oa, oc, rfl, rfl, hi, hni, HI⟩ := hrel
    by_cases hlt : i < l.length
    · have hiI : (i : Int) < (l.length : Int) := by omega
      have hi00 : (0 : Int) ≤ (i : Int) := by omega
      obtain ⟨b, o, s, e1, hB⟩ := (HL.out wr HI.out.1).nth hlt
      subst e1
      obtain ⟨x, hx⟩ : ∃ x, l[i] = x := ⟨_, rfl⟩
      rw [hx] at hB
      obtain ⟨bl, y0, y1, y2, y3, hsub⟩ := hB
      obtain ⟨sa, sc, rfl, _, _⟩ := hsub.slice
      have HLt : Hid (i < l.length) := hlt
      obtain ⟨xs, hrow⟩ := HI.out.2
      have HRow : Hid (wr.ownsRow w.heap.size 105 4 (.slice oa n oc) n xs) := hrow
      have HB : Hid (Below w.heap.size w wr) := HI.out.1
      clear hx bl hsub hrow HI
      have yes : ∀ nq, Hid (∀ (V : World), V = wr.drewN nq → Below w.heap.size w V ∧ V.ownsRow w.heap.size 105 4 (.slice oa n oc) n xs) := fun nq V hV => by
        subst hV
        exact ⟨HB.out.trans ((below_dn wr nq).mono HB.out.size), row_keep HRow.out (fun g _ => rfl)⟩
      by_cases hf : x.2.fn.size = 0
      · have hf0 : x.2.fn.toList.isEmpty = true := by rw [ba_isEmpty, hf]; rfl
        clear hf
        by_cases hv : x.2.v = x.1
        · rw [hv] at y1
          go_wp2
          go_quiet (fail)
          go_wp2
          go_roundw
          case rel => exact ⟨i + 1, n, oa, oc, by go_num, rfl, HLt.out, by omega, ((yes _).out _ rfl).1, _, ((yes _).out _ rfl).2⟩
          case measure => have := HLt.out; simp [intOf]; omega
        · have hvi : (x.2.v != x.1) = true := by rw [bne_iff_ne]; exact hv
          go_wp2
          go_quiet (fail)
          obtain ⟨Wq, hWq⟩ : ∃ X, wr.drewN nq = X := ⟨_, rfl⟩
          obtain ⟨hbq, hrq⟩ := (yes nq).out Wq hWq.symm
          have z0 : Wq.cell? ⟨b, o + i * 4, none⟩ = some (.int .i64 x.1) := by rw [← hWq]; exact y0
          have z1 : Wq.cell? ⟨b, o + i * 4 + 1, none⟩ = some (.int .i64 x.2.v) := by rw [← hWq]; exact y1
          have z2 : Wq.cell? ⟨b, o + i * 4 + 2, none⟩ = some (.string x.2.fn) := by rw [← hWq]; exact y2
          have z3 : Wq.cell? ⟨b, o + i * 4 + 3, none⟩ = some (.slice sa x.2.args.length sc) := by rw [← hWq]; exact y3
          rw [hWq]
          clear hWq y0 y1 y2 y3 yes
          have hrow7 := row_keep hrq (W' := Wq.alloc (.cells #[.int .i64 x.1, .int .i64 x.2.v, .string x.2.fn, .slice sa x.2.args.length sc] 105)) (fun g hg => by
            obtain ⟨_, cq, hcq⟩ := row_block hrq hg
            exact (below_box Wq _).block g (Array.getElem?_eq_some_iff.1 hcq).1)
          have hbs : w.heap.size ≤ (Wq.alloc (.cells #[.int .i64 x.1, .int .i64 x.2.v, .string x.2.fn, .slice sa x.2.args.length sc] 105)).heap.size := by have := hbq.size; simp; omega
          have HBq : Hid (Below w.heap.size w Wq ∧ Wq.ownsRow w.heap.size 105 4 (.slice oa n oc) n xs) := ⟨hbq, hrq⟩
          clear hbq hrq
          go_wp2_with (first | (at_builtin; refine wpList_append_own_at _ rfl _ _ 57 rfl w.heap.size 105 i0 _ 4 56 Try.underlying57 hi0 hz0 hz1 hz2 rfl (by decide) (.slice oa n oc) n _ rfl hrow7 ⟨Wq.heap.size, 0, none⟩ 1 1 [.int .i64 x.1, .int .i64 x.2.v, .string x.2.fn, .slice sa x.2.args.length sc] rfl rfl (lit4 Wq _ _ _ _ 105) (by simp [Value.oneCell']) (by unfold maxLen; omega) (by omega) hbs ?_; intro v8 w8 hown8 hg8 hnil8 hat8))
          have HN : Hid (∃ a8 c8, v8 = .slice a8 (n + 1) c8 ∧ Below w.heap.size w w8 ∧ ∃ xs, w8.ownsRow w.heap.size 105 4 v8 (n + 1) xs) := by
            obtain ⟨a8, c8, e8⟩ := row_slice hown8
            have b0 : Below w.heap.size w (Wq.alloc (.cells #[.int .i64 x.1, .int .i64 x.2.v, .string x.2.fn, .slice sa x.2.args.length sc] 105)) := HBq.out.1.trans ((below_box Wq _).mono HBq.out.1.size)
            exact ⟨a8, c8, e8, b0.trans (below_of_grown hg8 b0.size (fun g e => (row_block HBq.out.2 e).1)), _, hown8⟩
          go_roundw
          case rel => obtain ⟨a8, c8, rfl, hr⟩ := HN.out; exact ⟨i + 1, n + 1, a8, c8, by go_num, rfl, HLt.out, by omega, hr⟩
          case measure => have := HLt.out; simp [intOf]; omega
      · have hf0 : x.2.fn.toList.isEmpty = false := by rw [ba_isEmpty]; exact decide_eq_false hf
        clear hf
        go_wp2
        go_quiet (fail)
        obtain ⟨Wq, hWq⟩ : ∃ X, wr.drewN nq = X := ⟨_, rfl⟩
        obtain ⟨hbq, hrq⟩ := (yes nq).out Wq hWq.symm
        have z0 : Wq.cell? ⟨b, o + i * 4, none⟩ = some (.int .i64 x.1) := by rw [← hWq]; exact y0
        have z1 : Wq.cell? ⟨b, o + i * 4 + 1, none⟩ = some (.int .i64 x.2.v) := by rw [← hWq]; exact y1
        have z2 : Wq.cell? ⟨b, o + i * 4 + 2, none⟩ = some (.string x.2.fn) := by rw [← hWq]; exact y2
        have z3 : Wq.cell? ⟨b, o + i * 4 + 3, none⟩ = some (.slice sa x.2.args.length sc) := by rw [← hWq]; exact y3
        rw [hWq]
        clear hWq y0 y1 y2 y3 yes
        have hrow7 := row_keep hrq (W' := Wq.alloc (.cells #[.int .i64 x.1, .int .i64 x.2.v, .string x.2.fn, .slice sa x.2.args.length sc] 105)) (fun g hg => by
          obtain ⟨_, cq, hcq⟩ := row_block hrq hg
          exact (below_box Wq _).block g (Array.getElem?_eq_some_iff.1 hcq).1)
        have hbs : w.heap.size ≤ (Wq.alloc (.cells #[.int .i64 x.1, .int .i64 x.2.v, .string x.2.fn, .slice sa x.2.args.length sc] 105)).heap.size := by have := hbq.size; simp; omega
        have HBq : Hid (Below w.heap.size w Wq ∧ Wq.ownsRow w.heap.size 105 4 (.slice oa n oc) n xs) := ⟨hbq, hrq⟩
        clear hbq hrq
        go_wp2_with (first | (at_builtin; refine wpList_append_own_at _ rfl _ _ 57 rfl w.heap.size 105 i0 _ 4 56 Try.underlying57 hi0 hz0 hz1 hz2 rfl (by decide) (.slice oa n oc) n _ rfl hrow7 ⟨Wq.heap.size, 0, none⟩ 1 1 [.int .i64 x.1, .int .i64 x.2.v, .string x.2.fn, .slice sa x.2.args.length sc] rfl rfl (lit4 Wq _ _ _ _ 105) (by simp [Value.oneCell']) (by unfold maxLen; omega) (by omega) hbs ?_; intro v8 w8 hown8 hg8 hnil8 hat8))
        have HN : Hid (∃ a8 c8, v8 = .slice a8 (n + 1) c8 ∧ Below w.heap.size w w8 ∧ ∃ xs, w8.ownsRow w.heap.size 105 4 v8 (n + 1) xs) := by
          obtain ⟨a8, c8, e8⟩ := row_slice hown8
          have b0 : Below w.heap.size w (Wq.alloc (.cells #[.int .i64 x.1, .int .i64 x.2.v, .string x.2.fn, .slice sa x.2.args.length sc] 105)) := HBq.out.1.trans ((below_box Wq _).mono HBq.out.1.size)
          exact ⟨a8, c8, e8, b0.trans (below_of_grown hg8 b0.size (fun g e => (row_block HBq.out.2 e).1)), _, hown8⟩
        go_roundw
        case rel => obtain ⟨a8, c8, rfl, hr⟩ := HN.out; exact ⟨i + 1, n + 1, a8, c8, by go_num, rfl, HLt.out, by omega, hr⟩
        case measure => have := HLt.out; simp [intOf]; omega
    · have hiI : ¬ (i : Int) < (l.length : Int) := by omega
      have HB : Hid (Below w.heap.size w wr) := HI.out.1
      clear HI
      go_wp2
      go_ret
      exact ⟨⟨_, rfl⟩, HB.out⟩

end Go.Proofs.Ytiklbkkimmgbcaa
