/-
  The document's one.
-/
import Derived.Test.YtkfbjkopmgeklaaO
namespace Go.Proofs.Ytkfbjkopmgeklaa
open Go.RowKit Go.Shelf

abbrev oneV (k a : Int) (t : ByteArray) (n e : Int) : Value := .tuple #[.agg #[.int .i64 k, .int .i64 a, .string t], .int .i64 n, .int .i64 e]
def atI (i : Nat) (r : Rd) : Int := if r.e = 0 then (i : Nat) else 0
def endI (i : Nat) (r : Rd) : Int := if r.e = 0 then ((i + r.n : Nat) : Nat) else 0

/-- The box of an answer. -/
def Ob (w W : World) : Prop := Below w.heap.size w W ∧ W.heap[w.heap.size]? = some (.cells #[.int .i64 0, .int .i64 0, .string ⟨#[]⟩] 39 (0, 0))
theorem Ob.new (w : World) : Ob w (w.alloc (.cells #[.int .i64 0, .int .i64 0, .string ⟨#[]⟩] 39)) := ⟨below_box _ _, (MapKept.heap_alloc w _).1⟩
theorem Ob.keep {w W W' : World} (h : Ob w W) (hb : Below W.heap.size W W') : Ob w W' := ⟨h.1.trans (hb.mono h.1.size), (hb.block _ (Array.getElem?_eq_some_iff.1 h.2).1).trans h.2⟩
theorem Try.info39z : (Try.prog.info? 39).map (·.size) = some 3 := by kernel_rfl
theorem Ob.told {w W : World} (h : Ob w W) (k a : Int) (s : ByteArray) :
    ∃ W', (Instr.storeAt 39 (.pointer (some ⟨w.heap.size, 0, none⟩)) (.agg #[.int .i64 k, .int .i64 a, .string s])).run Try.prog W = .ok () W' ∧ (W'.cell? ⟨w.heap.size, 0, none⟩ = some (.int .i64 k) ∧ W'.cell? ⟨w.heap.size, 1, none⟩ = some (.int .i64 a) ∧ W'.cell? ⟨w.heap.size, 2, none⟩ = some (.string s)) ∧ Below w.heap.size w W' := by
  obtain ⟨W', h1, h2, h3⟩ := agg_store 39 W w.heap.size _ [.int .i64 k, .int .i64 a, .string s] h.2 rfl Try.info39z (by intro z hz; simp only [List.mem_cons, List.not_mem_nil, or_false] at hz; rcases hz with rfl | rfl | rfl <;> rfl)
  refine ⟨W', h1, ⟨?_, ?_, ?_⟩, h.1.trans (h3.below h.1.size (by simp))⟩ <;> simp [World.cell?, h2]

theorem hd_drop (s : ByteArray) (i : Nat) (h : i < s.size) : hd (s.data.toList.drop i) = s[i].toNat := by rw [drop_cons s i h]; rfl
theorem rdV_bad {i : Nat} {e : Int} (he : e ≠ 0) : oneV (badR e).k (atI i (badR e)) (ofL (badR e).t) (endI i (badR e)) (badR e).e = oneV 0 0 ⟨#[]⟩ 0 e := by
  unfold badR atI endI
  simp [he]
  rfl

set_option maxHeartbeats 16000000 in
set_option maxRecDepth 100000 in
theorem one_any (s : ByteArray) (i : Nat) (w : World) (hi : i < s.size) (hs : s.size ≤ 2097154) : Calls Try.prog 20 #[.string s, .int .i64 (i : Nat)] w fun e w' =>
    e = .returned (oneV (rd (s.data.toList.drop i)).k (atI i (rd (s.data.toList.drop i))) (ofL (rd (s.data.toList.drop i)).t) (endI i (rd (s.data.toList.drop i))) (rd (s.data.toList.drop i)).e) ∧ Below w.heap.size w w' := by
  have HR : Hid (Ob w (w.alloc (.cells #[.int .i64 0, .int .i64 0, .string ⟨#[]⟩] 39))) := Ob.new w
  obtain ⟨W1, h1⟩ : ∃ X, w.alloc (.cells #[.int .i64 0, .int .i64 0, .string ⟨#[]⟩] 39) = X := ⟨_, rfl⟩
  rw [h1] at HR
  have HE : Hid (w.alloc (.cells #[.int .i64 0, .int .i64 0, .string ⟨#[]⟩] 39) = W1) := h1
  clear h1
  have hh := hd_drop s i hi
  obtain ⟨l, hl⟩ : ∃ l, s.data.toList.drop i = l := ⟨_, rfl⟩
  have hll : l.length = s.size - i := by rw [← hl, List.length_drop, size_len]
  have hex : ∀ n, s.extract i (i + n) = ofL (l.take n) := fun n => by rw [extract_mid, hl, show i + n - i = n by omega]
  have H24 := fun W => run_any s i W (by omega) hs
  have H24b := fun W => run_any s (i + 1) W (by omega) hs
  have H35 := fun W => quoted_any s i W hi hs
  have H36 := fun W => mark_any s i W (by omega) hs
  rw [← List.drop_drop] at H24b H35
  rw [hl] at hh H24 H24b H35 H36
  rw [hl]
  cases h1 : smB s[i].toNat
  · cases h2 : caB s[i].toNat
    · by_cases h3 : (s[i].toNat : Int) = 39
      · have HD : Hid (rd l = rdQ (l.drop 1)) := by show _ = _; unfold rd; rw [hh, h1, h2, if_neg (by simp), if_neg (by simp), if_pos h3]
        have g3 : ((s[i].toNat : Int) == 39) = true := by rw [h3]; rfl
        clear H24 H24b H36 hex hh
        cases hq : qs (l.drop 1) with
        | none =>
          have HF : Hid (oneV (rd l).k (atI i (rd l)) (ofL (rd l).t) (endI i (rd l)) (rd l).e = oneV 0 0 ⟨#[]⟩ 0 20) := by show _ = _; rw [HD.out]; unfold rdQ; rw [hq, rdV_bad (by decide)]
          have hq2 : ∀ W, Calls Try.prog 35 #[.string s, .int .i64 (i : Nat)] W fun e w' => e = .returned (.tuple #[.string ⟨#[]⟩, .int .i64 0, .bool false]) ∧ Below W.heap.size W w' := fun W => by have := H35 W; rwa [hq] at this
          clear hq hl hll h3 H35
          go_enter Try.func20, Try.ntmps20
          go_wp2_with (first | (go_at_call 23; refine (lower_any _ _).mono ?_; rintro e wq ⟨rfl, rfl⟩) | (go_at_call 27; refine (upper_any _ _).mono ?_; rintro e wq ⟨rfl, rfl⟩))
          try rw [HE.out]
          refine (hq2 _).mono ?_
          rintro e W3 ⟨rfl, b3⟩
          have HR3 : Hid (Ob w W3) := HR.out.keep b3
          clear b3 hq2
          obtain ⟨W2, hrun, ⟨k0, k1, k2⟩, hb2⟩ := HR3.out.told 0 0 ⟨#[]⟩
          go_wp2_with (first | (go_at_call 27; refine (upper_any _ _).mono ?_; rintro e wq ⟨rfl, rfl⟩) | (refine wpList_store_run rfl 39 _ _ rfl (.pointer (some ⟨w.heap.size, 0, none⟩)) (.agg #[.int .i64 0, .int .i64 0, .string ⟨#[]⟩]) rfl rfl hrun ?_))
          refine bodyPost_ret (v := oneV 0 0 ⟨#[]⟩ 0 20) (by simp [results, Try.results20, go_sem, *]) rfl ⟨by rw [HF.out], hb2⟩
        | some p =>
          obtain ⟨n, k⟩ := p
          obtain ⟨u1, u2, u3⟩ := qs_uq _ _ (Nat.le_refl _) n k hq
          have hnl : n.length ≤ 2097154 := by
            have := uq_len _ _ u3
            rw [List.length_take, List.length_drop] at this
            omega
          have hkl : i + 1 + k ≤ s.size := by rw [List.length_drop] at u2; omega
          obtain ⟨N, hN⟩ : ∃ N, ofL n = N := ⟨_, rfl⟩
          have hNl : N.data.toList = n := by rw [← hN]; rfl
          have hNs : N.size = n.length := by rw [← hN]; rfl
          have hq2 : ∀ W, Calls Try.prog 35 #[.string s, .int .i64 (i : Nat)] W fun e w' => e = .returned (.tuple #[.string N, .int .i64 ((i + 1 + k : Nat) : Nat), .bool true]) ∧ Below W.heap.size W w' := fun W => by
            have := H35 W
            rw [hq] at this
            have e : quV (qo [] (i + 1) (some (n, k))) = .tuple #[.string N, .int .i64 ((i + 1 + k : Nat) : Nat), .bool true] := by simp [quV, qo, hN]
            rwa [e] at this
          cases hb : bnB n with
          | false =>
            have HF : Hid (oneV (rd l).k (atI i (rd l)) (ofL (rd l).t) (endI i (rd l)) (rd l).e = oneV 0 0 ⟨#[]⟩ 0 20) := by show _ = _; rw [HD.out]; unfold rdQ; rw [hq]; simp only [hb]; rw [if_neg (by simp), rdV_bad (by decide)]
            by_cases hp : 0 < N.size
            · have hE : N.toList.isEmpty = false := by rw [is_empty]; exact decide_eq_false (by omega)
              have hb' : (!caB N[0].toNat && ((N[0].toNat : Int) != 64) && ((N[0].toNat : Int) != 36)) = false := by
                have := hb
                unfold bnB at this
                rw [← hNl, ne_of_pos hp, hd_of N hp] at this
                simpa using this
              clear hq hl hll h3 H35 u1 u2 u3 hb hN hNl
              cases c1 : caB N[0].toNat
              · by_cases c2 : (N[0].toNat : Int) = 64
                · have c2' : ((N[0].toNat : Int) == 64) = true := by rw [c2]; rfl
                  clear hb' c2
                  go_enter Try.func20, Try.ntmps20
                  go_wp2_with (first | (go_at_call 23; refine (lower_any _ _).mono ?_; rintro e wq ⟨rfl, rfl⟩) | (go_at_call 27; refine (upper_any _ _).mono ?_; rintro e wq ⟨rfl, rfl⟩))
                  try rw [HE.out]
                  refine (hq2 _).mono ?_
                  rintro e W3 ⟨rfl, b3⟩
                  have HR3 : Hid (Ob w W3) := HR.out.keep b3
                  clear b3 hq2
                  obtain ⟨W2, hrun, ⟨k0, k1, k2⟩, hb2⟩ := HR3.out.told 0 0 ⟨#[]⟩
                  go_wp2_with (first | (go_at_call 27; refine (upper_any _ _).mono ?_; rintro e wq ⟨rfl, rfl⟩) | (refine wpList_store_run rfl 39 _ _ rfl (.pointer (some ⟨w.heap.size, 0, none⟩)) (.agg #[.int .i64 0, .int .i64 0, .string ⟨#[]⟩]) rfl rfl hrun ?_))
                  refine bodyPost_ret (v := oneV 0 0 ⟨#[]⟩ 0 20) (by simp [results, Try.results20, go_sem, *]) rfl ⟨by rw [HF.out], hb2⟩
                · have c2' : ((N[0].toNat : Int) == 64) = false := by simpa using c2
                  have c3' : ((N[0].toNat : Int) == 36) = true := by simp [c1, c2] at hb'; simpa using hb'
                  clear hb' c2
                  go_enter Try.func20, Try.ntmps20
                  go_wp2_with (first | (go_at_call 23; refine (lower_any _ _).mono ?_; rintro e wq ⟨rfl, rfl⟩) | (go_at_call 27; refine (upper_any _ _).mono ?_; rintro e wq ⟨rfl, rfl⟩))
                  try rw [HE.out]
                  refine (hq2 _).mono ?_
                  rintro e W3 ⟨rfl, b3⟩
                  have HR3 : Hid (Ob w W3) := HR.out.keep b3
                  clear b3 hq2
                  obtain ⟨W2, hrun, ⟨k0, k1, k2⟩, hb2⟩ := HR3.out.told 0 0 ⟨#[]⟩
                  go_wp2_with (first | (go_at_call 27; refine (upper_any _ _).mono ?_; rintro e wq ⟨rfl, rfl⟩) | (refine wpList_store_run rfl 39 _ _ rfl (.pointer (some ⟨w.heap.size, 0, none⟩)) (.agg #[.int .i64 0, .int .i64 0, .string ⟨#[]⟩]) rfl rfl hrun ?_))
                  refine bodyPost_ret (v := oneV 0 0 ⟨#[]⟩ 0 20) (by simp [results, Try.results20, go_sem, *]) rfl ⟨by rw [HF.out], hb2⟩
              · clear hb'
                go_enter Try.func20, Try.ntmps20
                go_wp2_with (first | (go_at_call 23; refine (lower_any _ _).mono ?_; rintro e wq ⟨rfl, rfl⟩) | (go_at_call 27; refine (upper_any _ _).mono ?_; rintro e wq ⟨rfl, rfl⟩))
                try rw [HE.out]
                refine (hq2 _).mono ?_
                rintro e W3 ⟨rfl, b3⟩
                have HR3 : Hid (Ob w W3) := HR.out.keep b3
                clear b3 hq2
                obtain ⟨W2, hrun, ⟨k0, k1, k2⟩, hb2⟩ := HR3.out.told 0 0 ⟨#[]⟩
                go_wp2_with (first | (go_at_call 27; refine (upper_any _ _).mono ?_; rintro e wq ⟨rfl, rfl⟩) | (refine wpList_store_run rfl 39 _ _ rfl (.pointer (some ⟨w.heap.size, 0, none⟩)) (.agg #[.int .i64 0, .int .i64 0, .string ⟨#[]⟩]) rfl rfl hrun ?_))
                refine bodyPost_ret (v := oneV 0 0 ⟨#[]⟩ 0 20) (by simp [results, Try.results20, go_sem, *]) rfl ⟨by rw [HF.out], hb2⟩
            · have hE : N.toList.isEmpty = true := by rw [is_empty]; exact decide_eq_true (by omega)
              clear hq hl hll h3 H35 u1 u2 u3 hb hN hNl
              go_enter Try.func20, Try.ntmps20
              go_wp2_with (first | (go_at_call 23; refine (lower_any _ _).mono ?_; rintro e wq ⟨rfl, rfl⟩) | (go_at_call 27; refine (upper_any _ _).mono ?_; rintro e wq ⟨rfl, rfl⟩))
              try rw [HE.out]
              refine (hq2 _).mono ?_
              rintro e W3 ⟨rfl, b3⟩
              have HR3 : Hid (Ob w W3) := HR.out.keep b3
              clear b3 hq2
              obtain ⟨W2, hrun, ⟨k0, k1, k2⟩, hb2⟩ := HR3.out.told 0 0 ⟨#[]⟩
              go_wp2_with (first | (go_at_call 27; refine (upper_any _ _).mono ?_; rintro e wq ⟨rfl, rfl⟩) | (refine wpList_store_run rfl 39 _ _ rfl (.pointer (some ⟨w.heap.size, 0, none⟩)) (.agg #[.int .i64 0, .int .i64 0, .string ⟨#[]⟩]) rfl rfl hrun ?_))
              refine bodyPost_ret (v := oneV 0 0 ⟨#[]⟩ 0 20) (by simp [results, Try.results20, go_sem, *]) rfl ⟨by rw [HF.out], hb2⟩
          | true =>
            have hp : 0 < N.size := by
              rcases Nat.eq_zero_or_pos N.size with h0 | h0
              · rw [hNs] at h0
                have : n = [] := List.length_eq_zero_iff.1 h0
                rw [this] at hb
                exact absurd hb (by decide)
              · exact h0
            have hE : N.toList.isEmpty = false := by rw [is_empty]; exact decide_eq_false (by omega)
            have hb' : (!caB N[0].toNat && ((N[0].toNat : Int) != 64) && ((N[0].toNat : Int) != 36)) = true := by
              have := hb
              unfold bnB at this
              rw [← hNl, ne_of_pos hp, hd_of N hp] at this
              simpa using this
            have c1 : caB N[0].toNat = false := by simp at hb'; exact hb'.1.1
            have c2 : ((N[0].toNat : Int) == 64) = false := by simp at hb'; simpa using hb'.1.2
            have c3 : ((N[0].toNat : Int) == 36) = false := by simp at hb'; simpa using hb'.2
            by_cases h6 : 63 < n.length
            · have HF : Hid (oneV (rd l).k (atI i (rd l)) (ofL (rd l).t) (endI i (rd l)) (rd l).e = oneV 0 0 ⟨#[]⟩ 0 3) := by show _ = _; rw [HD.out]; unfold rdQ; rw [hq]; simp only [hb]; rw [if_pos trivial, if_pos h6, rdV_bad (by decide)]
              have hg : (64 : Int) ≤ (N.size : Int) := by omega
              have hg2 : 64 ≤ N.size := by omega
              clear hq hl hll h3 H35 u1 u2 u3 hb hN hNl hb' h6 hNs
              go_enter Try.func20, Try.ntmps20
              go_wp2_with (first | (go_at_call 23; refine (lower_any _ _).mono ?_; rintro e wq ⟨rfl, rfl⟩) | (go_at_call 27; refine (upper_any _ _).mono ?_; rintro e wq ⟨rfl, rfl⟩))
              try rw [HE.out]
              refine (hq2 _).mono ?_
              rintro e W3 ⟨rfl, b3⟩
              have HR3 : Hid (Ob w W3) := HR.out.keep b3
              clear b3 hq2
              obtain ⟨W2, hrun, ⟨k0, k1, k2⟩, hb2⟩ := HR3.out.told 0 0 ⟨#[]⟩
              go_wp2_with (first | (go_at_call 27; refine (upper_any _ _).mono ?_; rintro e wq ⟨rfl, rfl⟩) | (refine wpList_store_run rfl 39 _ _ rfl (.pointer (some ⟨w.heap.size, 0, none⟩)) (.agg #[.int .i64 0, .int .i64 0, .string ⟨#[]⟩]) rfl rfl hrun ?_))
              refine bodyPost_ret (v := oneV 0 0 ⟨#[]⟩ 0 3) (by simp [results, Try.results20, go_sem, *]) rfl ⟨by rw [HF.out], hb2⟩
            · have HF : Hid (oneV (rd l).k (atI i (rd l)) (ofL (rd l).t) (endI i (rd l)) (rd l).e = oneV 1 (i : Nat) N ((i + 1 + k : Nat) : Nat) 0) := by show _ = _; rw [HD.out]; unfold rdQ; rw [hq]; simp only [hb]; rw [if_pos trivial, if_neg h6, hN]; unfold atI endI; simp; omega
              have hg : ¬ (64 : Int) ≤ (N.size : Int) := by omega
              have hg2 : ¬ 64 ≤ N.size := by omega
              clear hq hl hll h3 H35 u1 u2 u3 hb hN hNl hb' h6 hNs
              go_enter Try.func20, Try.ntmps20
              go_wp2_with (first | (go_at_call 23; refine (lower_any _ _).mono ?_; rintro e wq ⟨rfl, rfl⟩) | (go_at_call 27; refine (upper_any _ _).mono ?_; rintro e wq ⟨rfl, rfl⟩))
              try rw [HE.out]
              refine (hq2 _).mono ?_
              rintro e W3 ⟨rfl, b3⟩
              have HR3 : Hid (Ob w W3) := HR.out.keep b3
              clear b3 hq2
              obtain ⟨W2, hrun, ⟨k0, k1, k2⟩, hb2⟩ := HR3.out.told 1 (i : Nat) N
              go_wp2_with (first | (go_at_call 27; refine (upper_any _ _).mono ?_; rintro e wq ⟨rfl, rfl⟩) | (refine wpList_store_run rfl 39 _ _ rfl (.pointer (some ⟨w.heap.size, 0, none⟩)) (.agg #[.int .i64 1, .int .i64 (i : Nat), .string N]) rfl rfl hrun ?_))
              refine bodyPost_ret (v := oneV 1 (i : Nat) N ((i + 1 + k : Nat) : Nat) 0) (by simp [results, Try.results20, go_sem, *]) rfl ⟨by rw [HF.out], hb2⟩
      · have g3 : ((s[i].toNat : Int) == 39) = false := by simpa using h3
        by_cases h4 : (s[i].toNat : Int) = 36
        · have g4 : ((s[i].toNat : Int) == 36) = true := by rw [h4]; rfl
          have HD : Hid (rd l = rdD l) := by show _ = _; unfold rd; rw [hh, h1, h2, if_neg (by simp), if_neg (by simp), if_neg h3, if_pos h4]
          have hwl : 1 + wlen (l.drop 1) ≤ s.size - i := by have := wlen_le (l.drop 1); rw [List.length_drop] at this; omega
          have hX := hex (1 + wlen (l.drop 1))
          obtain ⟨n, hn⟩ : ∃ n, wlen (l.drop 1) = n := ⟨_, rfl⟩
          have HD2 : Hid (rd l = if l.take (1 + n) = dTrue then ⟨3, dTrue, 1 + n, 0⟩ else if l.take (1 + n) = dFalse then ⟨3, dFalse, 1 + n, 0⟩ else badR 20) := by show _ = _; rw [HD.out]; unfold rdD; rw [hn]
          rw [hn] at hwl H24b hX
          have hX' : s.extract i (i + 1 + n) = ofL (l.take (1 + n)) := by rw [show i + 1 + n = i + (1 + n) by omega]; exact hX
          have hg3 : (i : Int) + 1 + (n : Int) ≤ (s.size : Int) := by omega
          clear H24 H35 H36 hex hh hX hn
          by_cases d1 : l.take (1 + n) = dTrue
          · have HF : Hid (oneV (rd l).k (atI i (rd l)) (ofL (rd l).t) (endI i (rd l)) (rd l).e = oneV 3 (i : Nat) ⟨#[36, 116, 114, 117, 101]⟩ ((i + 1 + n : Nat) : Nat) 0) := by show _ = _; rw [HD2.out, if_pos d1]; unfold atI endI; simp [dTrue, ofL]; omega
            have hx : s.extract i (i + 1 + n) = ⟨#[36, 116, 114, 117, 101]⟩ := by rw [hX', d1]; rfl
            clear hl hll h3 h4 hX' d1
            go_enter Try.func20, Try.ntmps20
            go_wp2_with (first | (go_at_call 23; refine (lower_any _ _).mono ?_; rintro e wq ⟨rfl, rfl⟩) | (go_at_call 27; refine (upper_any _ _).mono ?_; rintro e wq ⟨rfl, rfl⟩))
            try rw [HE.out]
            refine (H24b _).mono ?_
            rintro e W3 ⟨rfl, rfl⟩
            obtain ⟨W2, hrun, ⟨k0, k1, k2⟩, hb2⟩ := HR.out.told 3 (i : Nat) ⟨#[36, 116, 114, 117, 101]⟩
            go_wp2_with (first | (go_at_call 27; refine (upper_any _ _).mono ?_; rintro e wq ⟨rfl, rfl⟩) | (refine wpList_store_run rfl 39 _ _ rfl (.pointer (some ⟨w.heap.size, 0, none⟩)) (.agg #[.int .i64 3, .int .i64 (i : Nat), .string ⟨#[36, 116, 114, 117, 101]⟩]) rfl rfl hrun ?_))
            refine bodyPost_ret (v := oneV 3 (i : Nat) ⟨#[36, 116, 114, 117, 101]⟩ ((i + 1 + n : Nat) : Nat) 0) (by simp [results, Try.results20, go_sem, *]) rfl ⟨by rw [HF.out], hb2⟩
          · by_cases d2 : l.take (1 + n) = dFalse
            · have HF : Hid (oneV (rd l).k (atI i (rd l)) (ofL (rd l).t) (endI i (rd l)) (rd l).e = oneV 3 (i : Nat) ⟨#[36, 102, 97, 108, 115, 101]⟩ ((i + 1 + n : Nat) : Nat) 0) := by show _ = _; rw [HD2.out, if_neg d1, if_pos d2]; unfold atI endI; simp [dFalse, ofL]; omega
              have hx : s.extract i (i + 1 + n) = ⟨#[36, 102, 97, 108, 115, 101]⟩ := by rw [hX', d2]; rfl
              clear hl hll h3 h4 hX' d1 d2
              go_enter Try.func20, Try.ntmps20
              go_wp2_with (first | (go_at_call 23; refine (lower_any _ _).mono ?_; rintro e wq ⟨rfl, rfl⟩) | (go_at_call 27; refine (upper_any _ _).mono ?_; rintro e wq ⟨rfl, rfl⟩))
              try rw [HE.out]
              refine (H24b _).mono ?_
              rintro e W3 ⟨rfl, rfl⟩
              obtain ⟨W2, hrun, ⟨k0, k1, k2⟩, hb2⟩ := HR.out.told 3 (i : Nat) ⟨#[36, 102, 97, 108, 115, 101]⟩
              go_wp2_with (first | (go_at_call 27; refine (upper_any _ _).mono ?_; rintro e wq ⟨rfl, rfl⟩) | (refine wpList_store_run rfl 39 _ _ rfl (.pointer (some ⟨w.heap.size, 0, none⟩)) (.agg #[.int .i64 3, .int .i64 (i : Nat), .string ⟨#[36, 102, 97, 108, 115, 101]⟩]) rfl rfl hrun ?_))
              refine bodyPost_ret (v := oneV 3 (i : Nat) ⟨#[36, 102, 97, 108, 115, 101]⟩ ((i + 1 + n : Nat) : Nat) 0) (by simp [results, Try.results20, go_sem, *]) rfl ⟨by rw [HF.out], hb2⟩
            · have HF : Hid (oneV (rd l).k (atI i (rd l)) (ofL (rd l).t) (endI i (rd l)) (rd l).e = oneV 0 0 ⟨#[]⟩ 0 20) := by show _ = _; rw [HD2.out, if_neg d1, if_neg d2, rdV_bad (by decide)]
              obtain ⟨T, hT⟩ : ∃ T, ofL (l.take (1 + n)) = T := ⟨_, rfl⟩
              have hx : s.extract i (i + 1 + n) = T := by rw [hX', hT]
              have y1 : (T.toList == [36, 116, 114, 117, 101]) = false := by rw [← hT, Lib.toList_data, ofL_data, beq_eq_false_iff_ne]; exact d1
              have y2 : (T.toList == [36, 102, 97, 108, 115, 101]) = false := by rw [← hT, Lib.toList_data, ofL_data, beq_eq_false_iff_ne]; exact d2
              clear hl hll h3 h4 hX' d1 d2 hT
              go_enter Try.func20, Try.ntmps20
              go_wp2_with (first | (go_at_call 23; refine (lower_any _ _).mono ?_; rintro e wq ⟨rfl, rfl⟩) | (go_at_call 27; refine (upper_any _ _).mono ?_; rintro e wq ⟨rfl, rfl⟩))
              try rw [HE.out]
              refine (H24b _).mono ?_
              rintro e W3 ⟨rfl, rfl⟩
              obtain ⟨W2, hrun, ⟨k0, k1, k2⟩, hb2⟩ := HR.out.told 0 0 ⟨#[]⟩
              go_wp2_with (first | (go_at_call 27; refine (upper_any _ _).mono ?_; rintro e wq ⟨rfl, rfl⟩) | (refine wpList_store_run rfl 39 _ _ rfl (.pointer (some ⟨w.heap.size, 0, none⟩)) (.agg #[.int .i64 0, .int .i64 0, .string ⟨#[]⟩]) rfl rfl hrun ?_))
              refine bodyPost_ret (v := oneV 0 0 ⟨#[]⟩ 0 20) (by simp [results, Try.results20, go_sem, *]) rfl ⟨by rw [HF.out], hb2⟩
        · have g4 : ((s[i].toNat : Int) == 36) = false := by simpa using h4
          have HD : Hid (rd l = rdM l) := by show _ = _; unfold rd; rw [hh, h1, h2, if_neg (by simp), if_neg (by simp), if_neg h3, if_neg h4]
          have hml := mkL_len l
          have HM : Hid (rd l = if mkL l = [] then badR 20 else ⟨4, mkL l, (mkL l).length, 0⟩) := by show _ = _; rw [HD.out, rdM_mk]
          obtain ⟨m, hm⟩ : ∃ m, mkL l = m := ⟨_, rfl⟩
          rw [hm] at hml HM H36
          obtain ⟨T, hT⟩ : ∃ T, ofL m = T := ⟨_, rfl⟩
          rw [hT] at H36
          have hTs : T.size = m.length := by rw [← hT]; rfl
          clear H24 H24b H35 hex hh hm
          by_cases hmz : m = []
          · have HF : Hid (oneV (rd l).k (atI i (rd l)) (ofL (rd l).t) (endI i (rd l)) (rd l).e = oneV 0 0 ⟨#[]⟩ 0 20) := by show _ = _; rw [HM.out, if_pos hmz, rdV_bad (by decide)]
            have hE : T.toList.isEmpty = true := by rw [is_empty]; exact decide_eq_true (by rw [hTs, hmz]; rfl)
            clear hl hll h3 h4 hmz hT hTs hml
            go_enter Try.func20, Try.ntmps20
            go_wp2_with (first | (go_at_call 23; refine (lower_any _ _).mono ?_; rintro e wq ⟨rfl, rfl⟩) | (go_at_call 27; refine (upper_any _ _).mono ?_; rintro e wq ⟨rfl, rfl⟩))
            try rw [HE.out]
            refine (H36 _).mono ?_
            rintro e W3 ⟨rfl, b3⟩
            have HR3 : Hid (Ob w W3) := HR.out.keep b3
            clear b3 H36
            obtain ⟨W2, hrun, ⟨k0, k1, k2⟩, hb2⟩ := HR3.out.told 0 0 ⟨#[]⟩
            go_wp2_with (first | (go_at_call 27; refine (upper_any _ _).mono ?_; rintro e wq ⟨rfl, rfl⟩) | (refine wpList_store_run rfl 39 _ _ rfl (.pointer (some ⟨w.heap.size, 0, none⟩)) (.agg #[.int .i64 0, .int .i64 0, .string ⟨#[]⟩]) rfl rfl hrun ?_))
            refine bodyPost_ret (v := oneV 0 0 ⟨#[]⟩ 0 20) (by simp [results, Try.results20, go_sem, *]) rfl ⟨by rw [HF.out], hb2⟩
          · have hE : T.toList.isEmpty = false := by rw [is_empty]; exact decide_eq_false (fun e => hmz (List.length_eq_zero_iff.1 (by omega)))
            have HF : Hid (oneV (rd l).k (atI i (rd l)) (ofL (rd l).t) (endI i (rd l)) (rd l).e = oneV 4 (i : Nat) T ((i + T.size : Nat) : Nat) 0) := by show _ = _; rw [HM.out, if_neg hmz, hTs]; unfold atI endI; simp [hT]
            have hT16 : T.size ≤ 16 := by omega
            clear hl hll h3 h4 hmz hT hTs hml
            go_enter Try.func20, Try.ntmps20
            go_wp2_with (first | (go_at_call 23; refine (lower_any _ _).mono ?_; rintro e wq ⟨rfl, rfl⟩) | (go_at_call 27; refine (upper_any _ _).mono ?_; rintro e wq ⟨rfl, rfl⟩))
            try rw [HE.out]
            refine (H36 _).mono ?_
            rintro e W3 ⟨rfl, b3⟩
            have HR3 : Hid (Ob w W3) := HR.out.keep b3
            clear b3 H36
            obtain ⟨W2, hrun, ⟨k0, k1, k2⟩, hb2⟩ := HR3.out.told 4 (i : Nat) T
            go_wp2_with (first | (go_at_call 27; refine (upper_any _ _).mono ?_; rintro e wq ⟨rfl, rfl⟩) | (refine wpList_store_run rfl 39 _ _ rfl (.pointer (some ⟨w.heap.size, 0, none⟩)) (.agg #[.int .i64 4, .int .i64 (i : Nat), .string T]) rfl rfl hrun ?_))
            refine bodyPost_ret (v := oneV 4 (i : Nat) T ((i + T.size : Nat) : Nat) 0) (by simp [results, Try.results20, go_sem, *]) rfl ⟨by rw [HF.out], hb2⟩
    · skip
      have HD : Hid (rd l = rdW 2 l) := by show _ = _; unfold rd; rw [hh, h1, h2, if_neg (by simp), if_pos rfl]
      have hwl : wlen l ≤ s.size - i := by have := wlen_le l; omega
      obtain ⟨n, hn⟩ : ∃ n, wlen l = n := ⟨_, rfl⟩
      have HX : Hid (s.extract i (i + n) = ofL (l.take n)) := hex n
      rw [hn] at H24 hwl
      clear H24b H35 H36 hex hh
      by_cases h6 : 63 < n
      · have HF : Hid (oneV (rd l).k (atI i (rd l)) (ofL (rd l).t) (endI i (rd l)) (rd l).e = oneV 0 0 ⟨#[]⟩ 0 3) := by show _ = _; rw [HD.out]; unfold rdW; rw [hn, if_pos h6, rdV_bad (by decide)]
        have hg : (64 : Int) ≤ (n : Int) := by omega
        have hg2 : (64 : Nat) ≤ n := by omega
        clear hn hl hll
        go_enter Try.func20, Try.ntmps20
        go_wp2_with (first | (go_at_call 23; refine (lower_any _ _).mono ?_; rintro e wq ⟨rfl, rfl⟩) | (go_at_call 27; refine (upper_any _ _).mono ?_; rintro e wq ⟨rfl, rfl⟩))
        try rw [HE.out]
        refine (H24 _).mono ?_
        rintro e W3 ⟨rfl, rfl⟩
        obtain ⟨W2, hrun, ⟨k0, k1, k2⟩, hb2⟩ := HR.out.told 0 0 ⟨#[]⟩
        go_wp2_with (first | (go_at_call 27; refine (upper_any _ _).mono ?_; rintro e wq ⟨rfl, rfl⟩) | (refine wpList_store_run rfl 39 _ _ rfl (.pointer (some ⟨w.heap.size, 0, none⟩)) (.agg #[.int .i64 0, .int .i64 0, .string ⟨#[]⟩]) rfl rfl hrun ?_))
        refine bodyPost_ret (v := oneV 0 0 ⟨#[]⟩ 0 3) (by simp [results, Try.results20, go_sem, *]) rfl ⟨by rw [HF.out], hb2⟩
      · have HF : Hid (oneV (rd l).k (atI i (rd l)) (ofL (rd l).t) (endI i (rd l)) (rd l).e = oneV 2 (i : Nat) (ofL (l.take n)) ((i + n : Nat) : Nat) 0) := by show _ = _; rw [HD.out]; unfold rdW; rw [hn, if_neg h6]; rfl
        have hg : ¬ (64 : Int) ≤ (n : Int) := by omega
        have hg2 : ¬ (64 : Nat) ≤ n := by omega
        have hg3 : (i : Int) + (n : Int) ≤ (s.size : Int) := by omega
        obtain ⟨T, hT⟩ : ∃ T, ofL (l.take n) = T := ⟨_, rfl⟩
        have hX : s.extract i (i + n) = T := by rw [HX.out, hT]
        rw [hT] at HF
        clear hn hl hll hT HX
        go_enter Try.func20, Try.ntmps20
        go_wp2_with (first | (go_at_call 23; refine (lower_any _ _).mono ?_; rintro e wq ⟨rfl, rfl⟩) | (go_at_call 27; refine (upper_any _ _).mono ?_; rintro e wq ⟨rfl, rfl⟩))
        try rw [HE.out]
        refine (H24 _).mono ?_
        rintro e W3 ⟨rfl, rfl⟩
        obtain ⟨W2, hrun, ⟨k0, k1, k2⟩, hb2⟩ := HR.out.told 2 (i : Nat) T
        go_wp2_with (first | (go_at_call 27; refine (upper_any _ _).mono ?_; rintro e wq ⟨rfl, rfl⟩) | (refine wpList_store_run rfl 39 _ _ rfl (.pointer (some ⟨w.heap.size, 0, none⟩)) (.agg #[.int .i64 2, .int .i64 (i : Nat), .string T]) rfl rfl hrun ?_))
        refine bodyPost_ret (v := oneV 2 (i : Nat) T ((i + n : Nat) : Nat) 0) (by simp [results, Try.results20, go_sem, *]) rfl ⟨by rw [HF.out], hb2⟩
  · have hca : caB s[i].toNat = false := by unfold smB at h1; unfold caB; simp at h1 ⊢; omega
    have HD : Hid (rd l = rdW 1 l) := by show _ = _; unfold rd; rw [hh, h1, if_pos rfl]
    have hwl : wlen l ≤ s.size - i := by have := wlen_le l; omega
    obtain ⟨n, hn⟩ : ∃ n, wlen l = n := ⟨_, rfl⟩
    have HX : Hid (s.extract i (i + n) = ofL (l.take n)) := hex n
    rw [hn] at H24 hwl
    clear H24b H35 H36 hex hh
    by_cases h6 : 63 < n
    · have HF : Hid (oneV (rd l).k (atI i (rd l)) (ofL (rd l).t) (endI i (rd l)) (rd l).e = oneV 0 0 ⟨#[]⟩ 0 3) := by show _ = _; rw [HD.out]; unfold rdW; rw [hn, if_pos h6, rdV_bad (by decide)]
      have hg : (64 : Int) ≤ (n : Int) := by omega
      have hg2 : (64 : Nat) ≤ n := by omega
      clear hn hl hll
      go_enter Try.func20, Try.ntmps20
      go_wp2_with (first | (go_at_call 23; refine (lower_any _ _).mono ?_; rintro e wq ⟨rfl, rfl⟩) | (go_at_call 27; refine (upper_any _ _).mono ?_; rintro e wq ⟨rfl, rfl⟩))
      try rw [HE.out]
      refine (H24 _).mono ?_
      rintro e W3 ⟨rfl, rfl⟩
      obtain ⟨W2, hrun, ⟨k0, k1, k2⟩, hb2⟩ := HR.out.told 0 0 ⟨#[]⟩
      go_wp2_with (first | (go_at_call 27; refine (upper_any _ _).mono ?_; rintro e wq ⟨rfl, rfl⟩) | (refine wpList_store_run rfl 39 _ _ rfl (.pointer (some ⟨w.heap.size, 0, none⟩)) (.agg #[.int .i64 0, .int .i64 0, .string ⟨#[]⟩]) rfl rfl hrun ?_))
      refine bodyPost_ret (v := oneV 0 0 ⟨#[]⟩ 0 3) (by simp [results, Try.results20, go_sem, *]) rfl ⟨by rw [HF.out], hb2⟩
    · have HF : Hid (oneV (rd l).k (atI i (rd l)) (ofL (rd l).t) (endI i (rd l)) (rd l).e = oneV 1 (i : Nat) (ofL (l.take n)) ((i + n : Nat) : Nat) 0) := by show _ = _; rw [HD.out]; unfold rdW; rw [hn, if_neg h6]; rfl
      have hg : ¬ (64 : Int) ≤ (n : Int) := by omega
      have hg2 : ¬ (64 : Nat) ≤ n := by omega
      have hg3 : (i : Int) + (n : Int) ≤ (s.size : Int) := by omega
      obtain ⟨T, hT⟩ : ∃ T, ofL (l.take n) = T := ⟨_, rfl⟩
      have hX : s.extract i (i + n) = T := by rw [HX.out, hT]
      rw [hT] at HF
      clear hn hl hll hT HX
      go_enter Try.func20, Try.ntmps20
      go_wp2_with (first | (go_at_call 23; refine (lower_any _ _).mono ?_; rintro e wq ⟨rfl, rfl⟩) | (go_at_call 27; refine (upper_any _ _).mono ?_; rintro e wq ⟨rfl, rfl⟩))
      try rw [HE.out]
      refine (H24 _).mono ?_
      rintro e W3 ⟨rfl, rfl⟩
      obtain ⟨W2, hrun, ⟨k0, k1, k2⟩, hb2⟩ := HR.out.told 1 (i : Nat) T
      go_wp2_with (first | (go_at_call 27; refine (upper_any _ _).mono ?_; rintro e wq ⟨rfl, rfl⟩) | (refine wpList_store_run rfl 39 _ _ rfl (.pointer (some ⟨w.heap.size, 0, none⟩)) (.agg #[.int .i64 1, .int .i64 (i : Nat), .string T]) rfl rfl hrun ?_))
      refine bodyPost_ret (v := oneV 1 (i : Nat) T ((i + n : Nat) : Nat) 0) (by simp [results, Try.results20, go_sem, *]) rfl ⟨by rw [HF.out], hb2⟩

end Go.Proofs.Ytkfbjkopmgeklaa
