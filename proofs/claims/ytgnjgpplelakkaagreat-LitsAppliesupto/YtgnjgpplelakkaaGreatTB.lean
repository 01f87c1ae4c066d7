import Derived.Test.YtgnjgpplelakkaaGreatSL
import Derived.Test.YtgnjgpplelakkaaGreatQRB
import Derived.Test.YtgnjgpplelakkaaGreatSA

/-
  subst.Apply, where it says no.
-/
namespace Go.Proofs.YtgnjgpplelakkaaGreat
open Go.RowKit

set_option maxRecDepth 100000 in
set_option maxHeartbeats 4000000 in
theorem apply_big (l : List Bd) (hl : Sb l) (t : T) (ht : Rt t) (ht0 : t.rightW = 0) (hfit : fitsW (t.app (img l)) ≠ 0) (v sl : Value) (w : World) (hb : BindsAt w v l) (ha : ArgsAt w sl t.args) :
    Calls Tryz.prog 22 #[v, tval t sl] w fun e W' => e = .returned (.tuple #[tval zt (.slice none 0 0), .int .i64 (fitsW (t.app (img l)))]) ∧ Below w.heap.size w W' := by
  obtain ⟨a, c, rfl⟩ := hb.slice
  obtain ⟨sa, sc, rfl, _, _⟩ := ha.slice
  have hA0 := ApI.start w l (.slice a l.length c) t (.slice sa t.args.length sc) hb ha
  have h13 : ∀ X, ApI w l (.slice a l.length c) t (.slice sa t.args.length sc) X → Calls Tryz.prog 18 #[.slice a l.length c] X fun e X' => e = .returned (.int .i64 0) ∧ ApI w l (.slice a l.length c) t (.slice sa t.args.length sc) X' := fun X hX => (sright_any l _ X hX.binds (fun x hx => (hl.rt x hx).short)).mono fun e X' ⟨he, hb⟩ => ⟨by rw [he, subW_t (isSub_iff.2 hl.sub)], hX.keep hb⟩
  have h28 : ∀ X, ApI w l (.slice a l.length c) t (.slice sa t.args.length sc) X → Calls Tryz.prog 41 #[tval t (.slice sa t.args.length sc)] X fun e X' => e = .returned (.int .i64 0) ∧ ApI w l (.slice a l.length c) t (.slice sa t.args.length sc) X' := fun X hX => (tright_any t _ X hX.args ht.short).mono fun e X' ⟨he, hb⟩ => ⟨by rw [he, ht0], hX.keep hb⟩
  have h30 : ∀ X, ApI w l (.slice a l.length c) t (.slice sa t.args.length sc) X → Calls Tryz.prog 45 #[.slice a l.length c] X fun e X' => (∃ B1 B2 g, e = .returned (.func (.func 69) #[] #[.pointer (some ⟨B1, 0, none⟩), .pointer (some ⟨B2, 0, none⟩)]) ∧ ExtAt X' l (.slice a l.length c) B1 B2 g) ∧ ApI w l (.slice a l.length c) t (.slice sa t.args.length sc) X' := fun X hX => (extents_any l _ X hX.binds hl.rt hl.sub.1).mono fun e X' ⟨he, hb⟩ => ⟨he, hX.keep hb⟩
  have h29 : ∀ X B1 B2 g, ApI w l (.slice a l.length c) t (.slice sa t.args.length sc) X → ExtAt X l (.slice a l.length c) B1 B2 g → Calls Tryz.prog 44 #[tval t (.slice sa t.args.length sc), .func (.func 69) #[] #[.pointer (some ⟨B1, 0, none⟩), .pointer (some ⟨B2, 0, none⟩)]] X fun e X' => e = .returned (.int .i64 (fitsW (t.app (img l)))) ∧ ApI w l (.slice a l.length c) t (.slice sa t.args.length sc) X' := fun X B1 B2 g hX hE => (fits_any X 69 _ (img l) eg57 (extents_of l hl.sub _ B1 B2 g X hE) (img_size l hl.rt) t _ X (Below.refl _ _) hX.args ht.size).mono fun e X' ⟨he, hb⟩ => ⟨he, hX.keep hb⟩
  have hdr : ∀ X, ApI w l (.slice a l.length c) t (.slice sa t.args.length sc) X → ApI w l (.slice a l.length c) t (.slice sa t.args.length sc) X.drew := fun X h => h.keep (Below.refl _ X).drew
  have hC : ∀ X, ApI w l (.slice a l.length c) t (.slice sa t.args.length sc) X → X.cell? ⟨w.heap.size, 0, none⟩ = some (.int .i64 t.v) ∧ X.cell? ⟨w.heap.size, 1, none⟩ = some (.string t.fn) ∧ X.cell? ⟨w.heap.size, 2, none⟩ = some (.slice sa t.args.length sc) := fun X h => (box_facts h.tb).1
  have hRb : ∀ X, ApI w l (.slice a l.length c) t (.slice sa t.args.length sc) X → (X.cell? ⟨w.heap.size + 1, 0, none⟩ = some (.int .i64 0) ∧ X.cell? ⟨w.heap.size + 1, 1, none⟩ = some (.string ⟨#[]⟩) ∧ X.cell? ⟨w.heap.size + 1, 2, none⟩ = some (.slice none 0 0)) ∧ (X.frozen? ⟨w.heap.size + 1, 0, none⟩ = false ∧ X.frozen? ⟨w.heap.size + 1, 1, none⟩ = false ∧ X.frozen? ⟨w.heap.size + 1, 2, none⟩ = false) := fun X h => box_facts h.rb
  have hbl : Hid (∀ X, ApI w l (.slice a l.length c) t (.slice sa t.args.length sc) X → Below w.heap.size w X) := fun X h => h.bel
  obtain ⟨f, hf⟩ : ∃ f, fitsW (t.app (img l)) = f := ⟨_, rfl⟩
  rw [hf] at h29 hfit ⊢
  have hd : (f != 0) = true := by rw [bne_iff_ne]; exact hfit
  obtain ⟨S, hS⟩ : ∃ S, ApI w l (.slice a l.length c) t (.slice sa t.args.length sc) = S := ⟨_, rfl⟩
  rw [hS] at hA0 h13 h28 h30 h29 hdr hC hRb hbl
  clear hS hf hb ha hfit ht ht0 hl
  obtain ⟨k0, k1, k2⟩ := hC _ hA0
  go_enter Tryz.func22, Tryz.ntmps22
  go_wp2_with (first
    | (go_at_call 41; refine (h28 _ HW2).mono ?_; rintro e W3 ⟨rfl, HW3⟩)
    | (go_at_call 18; refine (h13 _ hA0).mono ?_; rintro e W2 ⟨rfl, HW2⟩; obtain ⟨j0, j1, j2⟩ := hC _ HW2))
  have hSd := hdr _ HW3
  obtain ⟨n0, n1, n2⟩ := hC _ hSd
  clear k0 k1 k2 j0 j1 j2 h13 h28 hA0
  go_region_held3 (fun X => X.cell? ⟨w.heap.size, 0, none⟩ = some (.int .i64 t.v) ∧ X.cell? ⟨w.heap.size, 1, none⟩ = some (.string t.fn) ∧ X.cell? ⟨w.heap.size, 2, none⟩ = some (.slice sa t.args.length sc)) (first | exact ⟨n0, n1, n2⟩ | exact K4 | exact K5) (first
    | (go_at_call 45; refine (h30 _ hSd).mono ?_; rintro e W4 ⟨⟨B1, B2, g, rfl, hE⟩, HW4⟩; have K4 := hC _ HW4)
    | (go_at_call 44; refine (h29 _ B1 B2 g HW4 hE).mono ?_; rintro e W5 ⟨rfl, HW5⟩; have K5 := hC _ HW5; obtain ⟨⟨z0, z1, z2⟩, y0, y1, y2⟩ := hRb _ HW5))
  clear n0 n1 n2 K4 K5 hE
  go_wp2
  refine bodyPost_ret (v := .tuple #[tval zt (.slice none 0 0), .int .i64 f]) (by simp [results, Tryz.results22, go_sem, *, zt, T.v, T.fn]) rfl ⟨rfl, ?_⟩
  exact set3_below (hbl.out _ HW5) _ 0 _ _ _ (Nat.le_succ _)

end Go.Proofs.YtgnjgpplelakkaaGreat

/-
  Binds that came in as arguments: how they lie in memory, and how great they are.
-/
namespace Go.Proofs.YtgnjgpplelakkaaGreat
open Go.ChangeShapes Go.WideShapes Go.ChangeAt Go.RowKit

theorem Tryz.cells30 : Tryz.prog.cellsOf 30 = 4 := by kernel_rfl

theorem list4 {cs : List Value} (h : cs.length = 4) : ∃ c0 c1 c2 c3, cs = [c0, c1, c2, c3] := by
  match cs, h with
  | [c0, c1, c2, c3], _ => exact ⟨c0, c1, c2, c3, rfl⟩

theorem struct35 {H : Type} {enc : TypeId × Value → H} {W : World} {fuel : Nat} {cs : List Value} {x : DataW H × List MemPlace}
    (h : DataW.trod enc Tryz.prog W 0 (fun _ => true) true fuel 30 cs = some x) : ∃ (b : Bd) (sl : Value), cs = [.int .i64 b.1, .int .i64 b.2.v, .string b.2.fn, sl] ∧ ArgsAt W sl b.2.args ∧ b.2.size ≤ (Rows.uptoBulk x.1 : Int) := by
  obtain ⟨xs, n, rfl, hx, hlen, hxs, hf⟩ := DataW.trod_struct Tryz.underlying30 h
  rw [Tryz.cells30] at hlen
  obtain ⟨c0, c1, c2, c3, rfl⟩ := list4 hlen
  match xs, hxs, hx, hf with
  | [y0, y1], _, hx, hf =>
    have t0 : DataW.trod enc Tryz.prog W 0 (fun _ => true) true n 3 (List.take (Tryz.prog.cellsOf 3) (List.drop 0 [c0, c1, c2, c3])) = some y0 := hf 0 _ rfl
    have t1 : DataW.trod enc Tryz.prog W 0 (fun _ => true) true n 28 (List.take (Tryz.prog.cellsOf 28) (List.drop 1 [c0, c1, c2, c3])) = some y1 := hf 1 _ rfl
    rw [Tryz.cells3] at t0
    rw [Tryz.cells28] at t1
    have t0' : DataW.trod enc Tryz.prog W 0 (fun _ => true) true n 3 [c0] = some y0 := t0
    have t1' : DataW.trod enc Tryz.prog W 0 (fun _ => true) true n 28 [c1, c2, c3] = some y1 := t1
    obtain ⟨k, e0, z0, w0⟩ := DataW.trod_int Tryz.underlying3 t0'
    obtain ⟨v, fn, sl, m, q0, q1, q2, rfl, e1, _, _, t2, ex, _⟩ := struct24 t1'
    obtain ⟨l, hA, hS⟩ := args_trodB m sl _ t2
    simp only [List.cons.injEq, and_true] at e0 e1
    obtain ⟨rfl, rfl, rfl⟩ := e1
    subst e0
    refine ⟨(k, .mk v fn l), c3, rfl, hA, ?_⟩
    rw [hx]
    simp only [List.map_cons, List.map_nil, Rows.uptoBulk, Rows.uptoBulkAll]
    rw [ex, T.size_eq]
    simp only [Rows.uptoBulk, Rows.uptoBulkAll]
    have hS' : ((T.mk v fn l).args.map T.size).sum ≤ (Rows.uptoBulk q2.1 : Int) := hS
    omega

theorem bulk_mem {H : Type} : ∀ (es : List (DataW H)) (d : DataW H), d ∈ es → Rows.uptoBulk d ≤ Rows.uptoBulkAll es
  | [], _, h => by cases h
  | e :: r, d, h => by
    rw [Rows.uptoBulkAll]
    rcases List.mem_cons.1 h with rfl | h
    · omega
    · have := bulk_mem r d h
      omega

/-- What is read of a slice of binds that came in. -/
theorem binds_in {H : Type} {enc : TypeId × Value → H} {W : World} {a : Option Addr} {n c : Nat} {d : DataW H} {p : List MemPlace}
    (h : DataW.Trod enc Tryz.prog W 0 (fun _ => true) true 22 (.slice a n c) d p) : ∃ l, BindsAt W (.slice a n c) l ∧ ∀ x ∈ l, x.2.size ≤ (Rows.uptoBulk d : Int) := by
  obtain ⟨fuel, hf⟩ := h
  rcases DataW.trod_slice Tryz.underlying22 hf with ⟨hcs, hx⟩ | ⟨ad, len, cap, elems, rest, m, _, hcs, hx, _, hl, hm, hel, hat, _⟩
  · simp [Value.cells] at hcs
    obtain ⟨rfl, rfl, rfl⟩ := hcs
    exact ⟨[], ⟨none, 0, rfl, Nat.le_refl _, by decide, fun h => absurd h (by simp)⟩, by simp⟩
  · simp [Value.cells] at hcs
    obtain ⟨rfl, rfl, rfl⟩ := hcs
    rw [Tryz.cells30] at hat
    have each : ∀ i, i < n → ∃ q : Bd × Value, (W.cell? ((ad.add (i * 4)).add 0) = some (.int .i64 q.1.1) ∧ W.cell? ((ad.add (i * 4)).add 1) = some (.int .i64 q.1.2.v) ∧ W.cell? ((ad.add (i * 4)).add 2) = some (.string q.1.2.fn) ∧ W.cell? ((ad.add (i * 4)).add 3) = some q.2 ∧ ArgsAt W q.2 q.1.2.args) ∧ q.1.2.size ≤ (Rows.uptoBulk d : Int) := by
      intro i hi
      have hi' := hat i hi
      have hie : i < elems.length := by omega
      rw [List.getElem?_eq_getElem hie] at hi'
      obtain ⟨cs, hc, ht⟩ := Option.bind_eq_some_iff.1 hi'
      obtain ⟨_, hlen, hcell⟩ := World.cells?_some hc
      obtain ⟨b, sl, rfl, hA, hS⟩ := struct35 ht
      refine ⟨(b, sl), ⟨by simpa using hcell 0 (by simp), by simpa using hcell 1 (by simp), by simpa using hcell 2 (by simp), by simpa using hcell 3 (by simp), hA⟩, ?_⟩
      have e : d = .slice (elems.map fun x => x.1) (rest.map fun x => x.1) := congrArg Prod.fst hx
      rw [e, Rows.uptoBulk]
      have h1 := bulk_mem (elems.map fun x => x.1) elems[i].1 (List.mem_map.2 ⟨elems[i], List.getElem_mem hie, rfl⟩)
      show b.2.size ≤ _
      omega
    by_cases h0 : n = 0
    · subst h0
      exact ⟨[], ⟨some ad, c, rfl, Nat.zero_le _, by unfold maxLen at hm; omega, fun h => absurd h (by simp)⟩, by simp⟩
    · obtain ⟨q0, ⟨hc0, _⟩, _⟩ := each 0 (by omega)
      have hxb : ∃ b o, ad = ⟨b, o, none⟩ := by
        obtain ⟨b, o, spot⟩ := ad
        have hspot : spot = none := by simpa [Addr.add] using World.cell?_spot hc0
        exact ⟨b, o, by rw [hspot]⟩
      obtain ⟨b, o, rfl⟩ := hxb
      haveI : Inhabited (Bd × Value) := ⟨((0, .mk 0 ⟨#[]⟩ []), undef)⟩
      obtain ⟨f, hfq⟩ := Deep.choose_lt each
      have hlt : b < W.heap.size := by have := lt_of_cell hc0; simpa [Addr.add] using this
      refine ⟨(List.range n).map (fun i => (f i).1), ⟨some ⟨b, o, none⟩, c, by simp, by simpa using hl, by unfold maxLen at hm; omega, fun _ => ⟨b, o, rfl, fun i hi => ?_⟩⟩, fun x hx => ?_⟩
      · have hi' : i < n := by simpa using hi
        obtain ⟨⟨k0, k1, k2, k3, hA⟩, _⟩ := hfq i hi'
        simp only [addr_add, Nat.add_zero] at k0 k1 k2 k3
        simp only [List.getElem_map, List.getElem_range]
        exact ⟨(f i).2, hlt, k0, k1, k2, k3, hA⟩
      · obtain ⟨i, hi, rfl⟩ := List.mem_map.1 hx
        exact (hfq i (List.mem_range.1 hi)).2

end Go.Proofs.YtgnjgpplelakkaaGreat

/-
  What is put is right where it fits; Apply and the document's Apply.
-/
namespace Go.Proofs.YtgnjgpplelakkaaGreat
open Go.RowKit

theorem app_shape (σ : Int → T) (hσ : ∀ n, 0 ≤ n → n < 1000000 → (σ n).shape = true) (t : T) : t.shape = true → (t.app σ).shape = true := by
  induction t using T.ind with
  | _ t ih =>
    intro hs
    rw [T.app_eq]
    rw [T.shape_eq] at hs
    by_cases h0 : t.fn.size = 0
    · rw [if_pos h0] at hs ⊢
      simp only [Bool.and_eq_true, decide_eq_true_eq] at hs
      exact hσ _ hs.1.1 hs.1.2
    · rw [if_neg h0] at hs ⊢
      simp only [Bool.and_eq_true, decide_eq_true_eq, List.all_eq_true] at hs
      rw [T.shape_eq, if_neg (show ¬ (T.mk 0 t.fn (t.args.map (T.app σ))).fn.size = 0 from h0)]
      simp only [Bool.and_eq_true, decide_eq_true_eq, List.all_eq_true]
      refine ⟨⟨⟨rfl, hs.1.1.2⟩, by simpa [T.args] using hs.1.2⟩, fun x hx => ?_⟩
      obtain ⟨y, hy, rfl⟩ := List.mem_map.1 hx
      exact ih y hy (hs.2 y hy)

theorem wrap_small {n : Int} (h0 : 0 ≤ n) (h1 : n ≤ 1000000000) : wrap64 n = n := by
  unfold wrap64
  omega

theorem right_fits {u : T} (hs : u.shape = true) (hz : u.size ≤ 16000000) : u.rightW = fitsW u := by
  have h1 := size_pos u
  have h2 := depth_le_size u
  unfold T.rightW fitsW
  rw [if_neg (by rw [hs]; decide), depthW_small u (by omega), wrap_small (by omega) (by omega)]

theorem rt_of {t : T} (h : t.rightW = 0) (hz : t.size ≤ 1048576) : Rt t := by
  have h1 := size_pos t
  have h2 := depth_le_size t
  have hs := right_shape h
  have hf := right_fits hs (by omega)
  rw [h] at hf
  unfold fitsW at hf
  refine ⟨hs, ?_, ?_, (short_of t hz).1⟩
  · by_cases hd : 60 < t.depth
    · rw [if_pos hd] at hf; omega
    · rw [if_neg hd] at hf
      by_cases hx : 4000 < t.size
      · rw [if_pos hx] at hf; omega
      · omega
  · by_cases hd : 60 < t.depth
    · rw [if_pos hd] at hf; omega
    · omega

theorem img_shape {l : List Bd} (h : IsSub l) (n : Int) (h0 : 0 ≤ n) (h1 : n < 1000000) : (img l n).shape = true := by
  rcases img_mem l n with e | ⟨x, hx, e⟩
  · rw [e]; exact var_shape n h0 h1
  · rw [e]; exact right_shape (h.right x hx)

end Go.Proofs.YtgnjgpplelakkaaGreat
