/-
  The document's Lex.
-/
import Derived.Test.YtkfbjkopmgeklaaQ
namespace Go.Proofs.Ytkfbjkopmgeklaa
open Go.RowKit Go.Shelf

theorem Try.info39 : (Try.prog.info? 39).map (fun i => (i.zero, i.size, i.bytes)) = some (some (.agg #[.int .i64 0, .int .i64 0, .string ⟨#[]⟩]), 3, 32) := by kernel_rfl
theorem Try.info34 : (Try.prog.info? 34).map (fun i => (i.zero, i.size, i.bytes)) = some (some (.agg #[.int .i64 0, .int .i64 0, .string ⟨#[]⟩]), 3, 32) := by kernel_rfl

theorem lit3 (X : World) (n : Nat) (u v r : Value) (ty : TypeId) (hn : n = X.heap.size) : ∀ j x, [u, v, r][j]? = some x → (X.alloc (.cells #[u, v, r] ty)).cell? ((⟨n, 0, none⟩ : Addr).add j) = some x := by
  intro j x hj
  subst hn
  have ea : (⟨X.heap.size, 0, none⟩ : Addr).add j = ⟨X.heap.size, j, none⟩ := by unfold Addr.add; split <;> simp_all
  rw [ea, World.cell?_alloc_new]
  simpa using hj
theorem one3 {a b : Int} {t : ByteArray} : ∀ u ∈ [Value.int .i64 a, Value.int .i64 b, Value.string t], u.oneCell' = true := by
  intro u hu
  simp only [List.mem_cons, List.not_mem_nil, or_false] at hu
  rcases hu with rfl | rfl | rfl <;> rfl

/-- What Lex answers. -/
def LexP (q : List Tk × Nat × Int) (w : World) (e : Ending) (w' : World) : Prop :=
  ∃ v, e = .returned (.tuple #[v, .int .i64 (q.2.1 : Nat), .int .i64 q.2.2]) ∧ KsAt w' v (if q.2.2 = 0 then q.1 else []) ∧ Below w.heap.size w w'

/-- While the document's Lex goes on. -/
structure LxI (w : World) (l : List UInt8) (i : Nat) (v : Value) (done : List Tk) (W : World) : Prop where
  row : W.ownsRow w.heap.size 39 3 v done.length (flK done)
  bel : Below w.heap.size w W
  eq : addD done (lexL i (l.drop i)) = lexL 0 l
  len : done.length ≤ i

set_option maxRecDepth 100000 in
set_option maxHeartbeats 8000000 in
theorem rlex_any (s : ByteArray) (w : World) (hs : s.size ≤ 2097154) : Calls Try.prog 8 #[.string s] w (LexP (lexL 0 s.data.toList) w) := by
  obtain ⟨i0, hi0, hz0, hz1, hz2⟩ := info_parts Try.info39
  go_enter Try.func8, Try.ntmps8
  go_wp2
  go_loopw [5, 6] (fun vo vi wr => ∃ (i n : Nat) (oa : Option Addr) (oc : Nat), vi = .int .i64 i ∧ vo = .slice oa n oc ∧ i ≤ s.size ∧ Hid (∃ done : List Tk, done.length = n ∧ LxI w s.data.toList i (.slice oa n oc) done wr)) (fun _ vi _ => s.size - (intOf vi).toNat)
  case atStart => exact ⟨0, 0, none, 0, rfl, rfl, Nat.zero_le _, [], rfl, World.ownsRow_nil _ _ _ _, Below.refl _ _, by simp [addD], Nat.le_refl _⟩
  case round =>
    obtain ⟨i, n, oa, oc, rfl, rfl, hi, done, hdn, hI⟩ := hrel
    subst hdn
    have HI : Hid (LxI w s.data.toList i (.slice oa done.length oc) done wr) := hI
    have hdl := hI.len
    clear hI
    by_cases hlt : i < s.size
    · have HD : Hid (s.data.toList.drop i = s[i] :: s.data.toList.drop (i + 1)) := drop_cons s i hlt
      by_cases hb : s[i] = 32 ∨ s[i] = 9 ∨ s[i] = 13
      · have HN : Hid (∃ d : List Tk, d.length = done.length ∧ LxI w s.data.toList (i + 1) (.slice oa done.length oc) d wr) := ⟨done, rfl, HI.out.row, HI.out.bel, by rw [← HI.out.eq, HD.out, lexL_blank hb], by have := HI.out.len; omega⟩
        by_cases h1 : s[i] = 32
        · have g1 : ((s[i].toNat : Int) == 32) = true := u8_eq (k := 32) rfl h1
          clear hb h1
          go_wp2
          go_roundw
          case rel => exact ⟨i + 1, done.length, oa, oc, by go_num, rfl, by omega, HN.out⟩
          case measure => simp [intOf]; omega
        · have g1 : ((s[i].toNat : Int) == 32) = false := u8_ne (k := 32) rfl h1
          by_cases h2 : s[i] = 9
          · have g2 : ((s[i].toNat : Int) == 9) = true := u8_eq (k := 9) rfl h2
            clear hb h1 h2
            go_wp2
            go_roundw
            case rel => exact ⟨i + 1, done.length, oa, oc, by go_num, rfl, by omega, HN.out⟩
            case measure => simp [intOf]; omega
          · have g2 : ((s[i].toNat : Int) == 9) = false := u8_ne (k := 9) rfl h2
            have g3 : ((s[i].toNat : Int) == 13) = true := u8_eq (k := 13) rfl (by simpa [h1, h2] using hb)
            clear hb h1 h2
            go_wp2
            go_roundw
            case rel => exact ⟨i + 1, done.length, oa, oc, by go_num, rfl, by omega, HN.out⟩
            case measure => simp [intOf]; omega
      · have h1 : ((s[i].toNat : Int) == 32) = false := u8_ne (k := 32) rfl (fun e => hb (.inl e))
        have h2 : ((s[i].toNat : Int) == 9) = false := u8_ne (k := 9) rfl (fun e => hb (.inr (.inl e)))
        have h3 : ((s[i].toNat : Int) == 13) = false := u8_ne (k := 13) rfl (fun e => hb (.inr (.inr e)))
        by_cases h4 : s[i] = 37
        · have g4 : ((s[i].toNat : Int) == 37) = true := u8_eq (k := 37) rfl h4
          have HF : Hid (lexL 0 s.data.toList = (done, 0, 0)) := by show _ = _; rw [← HI.out.eq, HD.out, h4, lexL_rem]; simp [addD]
          clear hb h4
          go_wp2
          refine bodyPost_ret (v := .tuple #[.slice oa done.length oc, .int .i64 0, .int .i64 0]) (by simp [results, Try.results8, go_sem]) rfl ?_
          exact ⟨_, by rw [HF.out]; rfl, by rw [HF.out]; simpa using ksAt_of_row HI.out.row, HI.out.bel⟩
        · have g4 : ((s[i].toNat : Int) == 37) = false := u8_ne (k := 37) rfl h4
          have ho := one_any s i wr hlt hs
          have hnn : s.data.toList.drop i ≠ [] := by rw [HD.out]; simp
          have hnl : (s.data.toList.drop i).length = s.size - i := by rw [List.length_drop, size_len]
          have HT : Hid ((rd (s.data.toList.drop i)).e = 0 → addD done (lexL i (s.data.toList.drop i)) = addD (done ++ [⟨(rd (s.data.toList.drop i)).k, i, (rd (s.data.toList.drop i)).t⟩]) (lexL (i + (rd (s.data.toList.drop i)).n) (s.data.toList.drop (i + (rd (s.data.toList.drop i)).n)))) := fun h0 => by
            have e := @lexL_tok i s[i] (s.data.toList.drop (i + 1)) hb h4 (by rw [← HD.out]; exact h0) done
            rw [← HD.out, List.drop_drop] at e
            exact e
          have HX : Hid ((rd (s.data.toList.drop i)).e ≠ 0 → lexL i (s.data.toList.drop i) = ([], i, (rd (s.data.toList.drop i)).e)) := fun h0 => by
            have e := @lexL_err i s[i] (s.data.toList.drop (i + 1)) hb h4 (by rw [← HD.out]; exact h0)
            rw [← HD.out] at e
            exact e
          have HRn : Hid ((rd (s.data.toList.drop i)).e = 0 → 1 ≤ (rd (s.data.toList.drop i)).n ∧ (rd (s.data.toList.drop i)).n ≤ s.size - i) := fun h0 => by
            have := rd_n h0 hnn
            rwa [hnl] at this
          obtain ⟨x, hx⟩ : ∃ x, rd (s.data.toList.drop i) = x := ⟨_, rfl⟩
          rw [hx] at ho HT HX HRn
          clear hnn hnl hx hb h4
          by_cases he : x.e = 0
          · have HT' := HT.out he
            obtain ⟨hn1, hn2⟩ := HRn.out he
            have ha : atI i x = (i : Nat) := by unfold atI; rw [if_pos he]
            have hen : endI i x = ((i + x.n : Nat) : Nat) := by unfold endI; rw [if_pos he]
            rw [ha, hen, he] at ho
            obtain ⟨xk, xt, xn, xe⟩ := x
            simp only at ho HT' hn1 hn2 he
            have HTT : Hid (addD done (lexL i (s.data.toList.drop i)) = addD (done ++ [⟨xk, i, xt⟩]) (lexL (i + xn) (s.data.toList.drop (i + xn)))) := HT'
            obtain ⟨T, hT⟩ : ∃ T, ofL xt = T := ⟨_, rfl⟩
            rw [hT] at ho
            clear HT HX HRn HT' ha hen he
            go_wp2_with fail
            refine ho.mono ?_
            rintro e W3 ⟨rfl, b3⟩
            have B3 : Below w.heap.size w W3 := HI.out.bel.trans (b3.mono HI.out.bel.size)
            have R3 := row_below HI.out.row b3
            have HW : Hid (Below w.heap.size w W3 ∧ W3.ownsRow w.heap.size 39 3 (.slice oa done.length oc) done.length (flK done)) := ⟨B3, R3⟩
            clear ho b3 B3 R3
            go_wp2_with (at_builtin; refine wpList_append_own _ rfl _ _ 26 rfl w.heap.size 39 i0 _ 3 32 Try.underlying26 hi0 hz0 hz1 hz2 rfl (by decide) _ _ _ rfl ((HW.out.2.alloc _).alloc _) ⟨W3.heap.size + 1, 0, none⟩ 1 1 [.int .i64 xk, .int .i64 (i : Nat), .string T] rfl rfl (lit3 _ _ _ _ _ _ (by simp)) one3 (by unfold maxLen; omega) (by omega) (by have := HW.out.1.size; simp; omega) ?_; intro v' w1 hown' hgrow _; obtain ⟨a', cap', hv'⟩ := row_slice hown'; subst hv')
            have HN : Hid (∃ d : List Tk, d.length = done.length + 1 ∧ LxI w s.data.toList (i + xn) (.slice a' (done.length + 1) cap') d w1) := by
              refine ⟨done ++ [⟨xk, i, xt⟩], by simp, ?_, ?_, by rw [← HTT.out]; exact HI.out.eq, by simp; omega⟩
              · rw [flK_snoc, List.length_append, hT]; exact hown'
              · have b1 := (HW.out.1.alloc HW.out.1.size (.cells #[.int .i64 xk, .int .i64 (i : Nat), .string T] 39))
                have b2 := b1.alloc b1.size (.cells #[.int .i64 xk, .int .i64 (i : Nat), .string T] 39)
                exact b2.grown hgrow b2.size (fun k e => (HW.out.2.lt k e).1)
            clear hown' hgrow
            go_roundw
            case rel => exact ⟨i + xn, done.length + 1, a', cap', by go_num, rfl, by omega, HN.out⟩
            case measure => simp [intOf]; omega
          · have HX' := HX.out he
            have HF : Hid (lexL 0 s.data.toList = (done, i, x.e)) := by show _ = _; rw [← HI.out.eq, HX']; simp [addD]
            have ha : atI i x = 0 := by unfold atI; rw [if_neg he]
            have hen : endI i x = 0 := by unfold endI; rw [if_neg he]
            rw [ha, hen] at ho
            obtain ⟨T, hT⟩ : ∃ T, ofL x.t = T := ⟨_, rfl⟩
            rw [hT] at ho
            have he' : (x.e != 0) = true := by simpa using he
            have HE : Hid (x.e ≠ 0) := he
            clear HT HX HRn HX' ha hen hT
            go_wp2_with fail
            refine ho.mono ?_
            rintro e W3 ⟨rfl, b3⟩
            have B3 : Below w.heap.size w W3 := HI.out.bel.trans (b3.mono HI.out.bel.size)
            have B4 : Hid (Below w.heap.size w (W3.alloc (.cells #[.int .i64 x.k, .int .i64 0, .string T] 39))) := B3.alloc B3.size _
            clear ho b3 B3
            go_wp2
            refine bodyPost_ret (v := .tuple #[.slice none 0 0, .int .i64 (i : Nat), .int .i64 x.e]) (by simp [results, Try.results8, go_sem]) rfl ?_
            exact ⟨_, by rw [HF.out], by rw [HF.out, if_neg HE.out]; exact KsAt.nil _, B4.out⟩
    · have HF : Hid (lexL 0 s.data.toList = (done, 0, 0)) := by show _ = _; rw [← HI.out.eq, drop_end s i (by omega), lexL_nil]; simp [addD]
      go_wp2
      refine bodyPost_ret (v := .tuple #[.slice oa done.length oc, .int .i64 0, .int .i64 0]) (by simp [results, Try.results8, go_sem]) rfl ?_
      exact ⟨_, by rw [HF.out]; rfl, by rw [HF.out]; simpa using ksAt_of_row HI.out.row, HI.out.bel⟩

end Go.Proofs.Ytkfbjkopmgeklaa
