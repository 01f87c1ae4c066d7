/-
  Features that came in; FingerFits' walk.
-/
import Derived.Test.YtiklbkkimmgbcaaFS
import Derived.Test.YtiklbkkimmgbcaaFQ
import Derived.Test.YtiklbkkimmgbcaaFN
import Derived.Test.YtiklbkkimmgbcaaRB
namespace Go.Proofs.Ytiklbkkimmgbcaa
open Go.ChangeShapes Go.WideShapes Go.ChangeAt Go.RowKit Go.Maps

theorem bulk_pos {H : Type} (d : DataW H) : 1 ≤ Rows.uptoBulk d := by
  cases d with
  | lit l => cases l <;> simp [Rows.uptoBulk]
  | _ => simp [Rows.uptoBulk]
theorem bulk_len {H : Type} : ∀ es : List (DataW H), es.length ≤ Rows.uptoBulkAll es
  | [] => by simp
  | d :: r => by
    have h1 := bulk_pos d
    have h2 := bulk_len r
    simp only [Rows.uptoBulkAll, List.length_cons]
    omega
theorem Try.cells64 : Try.prog.cellsOf 64 = 3 := by kernel_rfl
theorem struct64 {H : Type} {enc : TypeId × Value → H} {W : World} {fuel : Nat} {cs : List Value} {x : DataW H × List MemPlace}
    (h : DataW.trod enc Try.prog W 0 (fun _ => true) true fuel 64 cs = some x) : ∃ f : Ft, cs = [.int .i64 f.kind, .int .i64 f.ar, .string f.fn] := by
  obtain ⟨xs, n, rfl, hx, hlen, hxs, hf⟩ := DataW.trod_struct Try.underlying64 h
  rw [Try.cells64] at hlen
  obtain ⟨c0, c1, c2, rfl⟩ := list3 hlen
  match xs, hxs, hx, hf with
  | [y0, y1, y2], _, hx, hf =>
    have t0 : DataW.trod enc Try.prog W 0 (fun _ => true) true n 3 (List.take (Try.prog.cellsOf 3) (List.drop 0 [c0, c1, c2])) = some y0 := hf 0 _ rfl
    have t1 : DataW.trod enc Try.prog W 0 (fun _ => true) true n 3 (List.take (Try.prog.cellsOf 3) (List.drop 1 [c0, c1, c2])) = some y1 := hf 1 _ rfl
    have t2 : DataW.trod enc Try.prog W 0 (fun _ => true) true n 9 (List.take (Try.prog.cellsOf 9) (List.drop 2 [c0, c1, c2])) = some y2 := hf 2 _ rfl
    rw [Try.cells3] at t0 t1
    rw [Try.cells9] at t2
    have t0' : DataW.trod enc Try.prog W 0 (fun _ => true) true n 3 [c0] = some y0 := t0
    have t1' : DataW.trod enc Try.prog W 0 (fun _ => true) true n 3 [c1] = some y1 := t1
    have t2' : DataW.trod enc Try.prog W 0 (fun _ => true) true n 9 [c2] = some y2 := t2
    obtain ⟨k, e0, _, _⟩ := DataW.trod_int Try.underlying3 t0'
    obtain ⟨r, e1, _, _⟩ := DataW.trod_int Try.underlying3 t1'
    obtain ⟨s, e2, _, _⟩ := DataW.trod_string Try.underlying9 t2'
    simp at e0 e1 e2
    subst e0 e1 e2
    exact ⟨⟨k, r, s⟩, rfl⟩
/-- What is read of features that came in. -/
theorem feats_in {H : Type} {enc : TypeId × Value → H} {W : World} {a : Option Addr} {n c : Nat} {d : DataW H} {p : List MemPlace}
    (h : DataW.Trod enc Try.prog W 0 (fun _ => true) true 28 (.slice a n c) d p) : ∃ l, FtAt W (.slice a n c) l ∧ l.length ≤ Rows.uptoBulk d := by
  obtain ⟨fuel, hf⟩ := h
  rcases DataW.trod_slice Try.underlying28 hf with ⟨hcs, hx⟩ | ⟨ad, len, cap, elems, rest, m, _, hcs, hx, _, hl, hm, hel, hat, _⟩
  · simp [Value.cells] at hcs
    obtain ⟨rfl, rfl, rfl⟩ := hcs
    exact ⟨[], ⟨none, 0, rfl, Nat.le_refl _, by decide, fun h => absurd h (by simp)⟩, by simp⟩
  · simp [Value.cells] at hcs
    obtain ⟨rfl, rfl, rfl⟩ := hcs
    rw [Try.cells64] at hat
    have each : ∀ i, i < n → ∃ f : Ft, W.cell? ((ad.add (i * 3)).add 0) = some (.int .i64 f.kind) ∧ W.cell? ((ad.add (i * 3)).add 1) = some (.int .i64 f.ar) ∧ W.cell? ((ad.add (i * 3)).add 2) = some (.string f.fn) := by
      intro i hi
      have hi' := hat i hi
      have hie : i < elems.length := by omega
      rw [List.getElem?_eq_getElem hie] at hi'
      obtain ⟨cs, hc, ht⟩ := Option.bind_eq_some_iff.1 hi'
      obtain ⟨_, hlen, hcell⟩ := World.cells?_some hc
      obtain ⟨f, rfl⟩ := struct64 ht
      exact ⟨f, by simpa using hcell 0 (by simp), by simpa using hcell 1 (by simp), by simpa using hcell 2 (by simp)⟩
    have hbulk : n ≤ Rows.uptoBulk d := by
      have e : d = .slice (elems.map fun x => x.1) (rest.map fun x => x.1) := congrArg Prod.fst hx
      have := bulk_len (elems.map fun x => x.1)
      rw [List.length_map] at this
      rw [e]
      simp only [Rows.uptoBulk]
      omega
    by_cases h0 : n = 0
    · subst h0
      exact ⟨[], ⟨some ad, c, rfl, Nat.zero_le _, by unfold maxLen at hm; omega, fun h => absurd h (by simp)⟩, by simp⟩
    · obtain ⟨q0, hc0, _⟩ := each 0 (by omega)
      have hxb : ∃ b o, ad = ⟨b, o, none⟩ := by
        obtain ⟨b, o, spot⟩ := ad
        have hspot : spot = none := by simpa [Addr.add] using World.cell?_spot hc0
        exact ⟨b, o, by rw [hspot]⟩
      obtain ⟨b, o, rfl⟩ := hxb
      haveI : Inhabited Ft := ⟨⟨0, 0, ⟨#[]⟩⟩⟩
      obtain ⟨f, hfq⟩ := Deep.choose_lt each
      have hlt : b < W.heap.size := by have := lt_of_cell hc0; simpa [Addr.add] using this
      refine ⟨(List.range n).map f, ⟨some ⟨b, o, none⟩, c, by simp, by simpa using hl, by unfold maxLen at hm; omega, fun _ => ⟨b, o, hlt, rfl, fun i hi => ?_⟩⟩, by simpa using hbulk⟩
      have hi' : i < n := by simpa using hi
      obtain ⟨k0, k1, k2⟩ := hfq i hi'
      simp only [addr_add, Nat.add_zero] at k0 k1 k2
      simp only [List.getElem_map, List.getElem_range]
      exact ⟨k0, k1, k2⟩

set_option maxRecDepth 100000 in
set_option maxHeartbeats 8000000 in
theorem lawfits_any (l m : List Ft) (v1 v2 : Value) (w : World) (hl : FtAt w v1 l) (hm : FtAt w v2 m) (hll : l.length ≤ 1048576) (hlm : m.length ≤ 1048576) :
    Calls Try.prog 4 #[v1, v2] w fun e w' => e = .returned (.bool true) ∧ Below w.heap.size w w' := by
  have H1 : Hid (∀ Z, Below w.heap.size w Z → Calls Try.prog 13 #[v1] Z fun e Z' => ∃ v', e = .returned v' ∧ FtAt Z' v' l ∧ Below Z.heap.size Z Z') := fun Z hZ => own_any l v1 Z (hl.keep hZ (Nat.le_refl _)) hll
  have H2 : Hid (∀ Z, Below w.heap.size w Z → Calls Try.prog 13 #[v2] Z fun e Z' => ∃ v', e = .returned v' ∧ FtAt Z' v' m ∧ Below Z.heap.size Z Z') := fun Z hZ => own_any m v2 Z (hm.keep hZ (Nat.le_refl _)) hlm
  have H3 : Hid (∀ Z, Below w.heap.size w Z → Calls Try.prog 14 #[v1, v2] Z fun e Z' => e = .returned (.bool (fitB uniB l m)) ∧ Below Z.heap.size Z Z') := fun Z hZ => rUnifies_any l m v1 v2 Z (hl.keep hZ (Nat.le_refl _)) (hm.keep hZ (Nat.le_refl _))
  have H4 : Hid (∀ Z, Below w.heap.size w Z → Calls Try.prog 16 #[v1, v2] Z fun e Z' => e = .returned (.bool (fitB matB l m)) ∧ Below Z.heap.size Z Z') := fun Z hZ => rMatches_any l m v1 v2 Z (hl.keep hZ (Nat.le_refl _)) (hm.keep hZ (Nat.le_refl _))
  obtain ⟨a1, c1, rfl, hc1, hm1⟩ := hl.slice
  obtain ⟨a2, c2, rfl, hc2, hm2⟩ := hm.slice
  have hu := fun v v' Z (h : FtAt Z v l) (h' : FtAt Z v' m) => Unifies_any l m v v' Z h h'
  have hq := fun v v' Z (h : FtAt Z v l) (h' : FtAt Z v' m) => Matches_any l m v v' Z h h'
  obtain ⟨zu, ezu⟩ : ∃ z, fitB uniB l m = z := ⟨_, rfl⟩
  obtain ⟨zm, ezm⟩ : ∃ z, fitB matB l m = z := ⟨_, rfl⟩
  rw [ezu] at H3 hu
  rw [ezm] at H4 hq
  have HU : Hid (∀ v v' Z, FtAt Z v l → FtAt Z v' m → Calls Try.prog 12 #[v, v'] Z fun e Z' => e = .returned (.bool zu) ∧ Below Z.heap.size Z Z') := hu
  have HQ : Hid (∀ v v' Z, FtAt Z v l → FtAt Z v' m → Calls Try.prog 15 #[v, v'] Z fun e Z' => e = .returned (.bool zm) ∧ Below Z.heap.size Z Z') := hq
  have n1 : (zu == zu) = true := by simp
  have n2 : (zm == zm) = true := by simp
  clear hl hm ezu ezm hu hq
  go_enter Try.func4, Try.ntmps4
  go_wp2_with fail
  refine (H1.out _ (Below.refl _ _)).mono ?_
  rintro e W1 ⟨p1, rfl, f1, b1⟩
  obtain ⟨pa1, pc1, rfl, _, _⟩ := f1.slice
  have F1 : Hid (FtAt W1 (.slice pa1 l.length pc1) l ∧ Below w.heap.size w W1) := ⟨f1, b1⟩
  clear f1 b1
  go_wp2_with fail
  refine (H2.out _ F1.out.2).mono ?_
  rintro e W2 ⟨p2, rfl, f2, b2⟩
  obtain ⟨pa2, pc2, rfl, _, _⟩ := f2.slice
  have F2 : Hid (FtAt W2 (.slice pa2 m.length pc2) m ∧ FtAt W2 (.slice pa1 l.length pc1) l ∧ Below w.heap.size w W2) := ⟨f2, F1.out.1.keep b2 (Nat.le_refl _), F1.out.2.trans (b2.mono F1.out.2.size)⟩
  clear f2 b2 F1
  go_wp2_with fail
  refine (HU.out _ _ _ F2.out.2.1 F2.out.1).mono ?_
  rintro e W3 ⟨rfl, b3⟩
  have B3 : Hid (Below w.heap.size w W3) := F2.out.2.2.trans (b3.mono F2.out.2.2.size)
  clear F2 b3
  go_wp2_with fail
  refine (H3.out _ B3.out).mono ?_
  rintro e W4 ⟨rfl, b4⟩
  have B4 : Hid (Below w.heap.size w W4) := B3.out.trans (b4.mono B3.out.size)
  clear b4 B3
  go_wp2_with fail
  refine (H1.out _ B4.out).mono ?_
  rintro e W5 ⟨p5, rfl, f5, b5⟩
  obtain ⟨pa5, pc5, rfl, _, _⟩ := f5.slice
  have F5 : Hid (FtAt W5 (.slice pa5 l.length pc5) l ∧ Below w.heap.size w W5) := ⟨f5, B4.out.trans (b5.mono B4.out.size)⟩
  clear f5 b5 B4
  go_wp2_with fail
  refine (H2.out _ F5.out.2).mono ?_
  rintro e W6 ⟨p6, rfl, f6, b6⟩
  obtain ⟨pa6, pc6, rfl, _, _⟩ := f6.slice
  have F6 : Hid (FtAt W6 (.slice pa6 m.length pc6) m ∧ FtAt W6 (.slice pa5 l.length pc5) l ∧ Below w.heap.size w W6) := ⟨f6, F5.out.1.keep b6 (Nat.le_refl _), F5.out.2.trans (b6.mono F5.out.2.size)⟩
  clear f6 b6 F5
  go_wp2_with fail
  refine (HQ.out _ _ _ F6.out.2.1 F6.out.1).mono ?_
  rintro e W7 ⟨rfl, b7⟩
  have B7 : Hid (Below w.heap.size w W7) := F6.out.2.2.trans (b7.mono F6.out.2.2.size)
  clear F6 b7
  go_wp2_with fail
  refine (H4.out _ B7.out).mono ?_
  rintro e W8 ⟨rfl, b8⟩
  have B8 : Hid (Below w.heap.size w W8) := B7.out.trans (b8.mono B7.out.size)
  clear b8 B7
  go_wp2_with fail
  refine (alive_any W8).mono ?_
  rintro e W9 ⟨rfl, b9⟩
  go_wp2
  go_ret
  exact ⟨rfl, B8.out.trans (b9.mono B8.out.size)⟩

end Go.Proofs.Ytiklbkkimmgbcaa
