import Derived.Test.YtbbfpllffcfmhaaQC
import Derived.Test.YtbbfpllffcfmhaaWN

/-
  built, Get, Drop where numbers come again; what is gone.
-/
namespace Go.Proofs.Ytbbfpllffcfmhaa.Fq
open Go.RowKit Go.Maps

set_option maxRecDepth 100000 in
set_option maxHeartbeats 8000000 in
theorem built_any (n0 Ba : Nat) (B : List Nat) (limit : Int) (es : List Ent) (free : List Int) {P : List Int} (hBk : Bk es P) (t : T) : ∀ (i : Int), Rp es i t → ∀ W, BankSt n0 Ba B limit es free W →
    Calls Try.prog 56 #[.pointer (some ⟨Ba, 0, none⟩), .int .i64 i] W (BuP t W) := by
  induction t using T.ind with
  | _ t ih =>
  intro i hR W hb
  obtain ⟨e, he, hei, hv, hf, hal, hsub⟩ := hR.inv
  have h16 : t.args.length ≤ 16 := by have := (hBk.fine e he).len; omega
  have hfit := hBk.fit e he
  rw [hei] at hfit
  have hb0 := hb
  obtain ⟨bn, br, fv, l, hB⟩ := hb
  obtain ⟨_, _, c2, _⟩ := hB.cells
  have hids : l.map (·.1.id) = es.map (·.id) := by rw [← hB.ents, List.map_map]; rfl
  obtain ⟨x, hx, hxi, hone, hrec⟩ := recMap_find l i (by rw [hids]; exact hR.mem) (by rw [hids]; exact hBk.nod)
  have hxe : x.1 = e := by
    rw [← hB.ents] at he
    obtain ⟨y, hy, rfl⟩ := List.mem_map.1 he
    rw [hone y hy hei]
  have hrc := hB.each x hx
  rw [hxe] at hrc
  have hbel0 := below_box W (.cells #[.int .i64 0, .string ⟨#[]⟩, .slice none 0 0] 24)
  have hBa := (Array.getElem?_eq_some_iff.1 hB.head).1
  have hxl := (Array.getElem?_eq_some_iff.1 hrc).1
  obtain ⟨r0, r1, r2, r3⟩ := rec_cells hrc
  rw [hv] at r0
  rw [hf] at r1
  rw [hal] at r2
  have c2' := kc hbel0 hBa c2
  have r0' := kc hbel0 hxl r0
  have r1' := kc hbel0 hxl r1
  have hlk : (Instr.lookup 73 (.map (some br)) (.int .i64 i) false).run Try.prog (W.alloc (.cells #[.int .i64 0, .string ⟨#[]⟩, .slice none 0 0] 24)) = .ok (.pointer (some ⟨x.2, 0, none⟩)) (W.alloc (.cells #[.int .i64 0, .string ⟨#[]⟩, .slice none 0 0] 24)) := (((hB.recs.same (hbel0.block br hB.recs.lt)).look keyed3 Try.underlying73 (zero85 _) (key3 hfit)).1 _ hrec).2
  have hne1 : W.heap.size + 1 ≠ x.2 := by omega
  have hne2 : W.heap.size ≠ x.2 := by omega
  have HAr : Hid (∀ Z, Below W.heap.size W Z → ∀ k (h1 : k < e.nd.args.length), Z.cell? ⟨x.2, 3 + k, none⟩ = some (.int .i64 e.nd.args[k])) := fun Z hZ k h1 => kc hZ hxl (r3 k h1 (by omega))
  have HBk : Hid (∀ Z, Below W.heap.size W Z → BankSt n0 Ba B limit es free Z) := fun Z hZ => hb0.keep (fun r hr => hZ.block r (hb0.there r hr).2)
  have HIH : Hid (∀ k (h1 : k < e.nd.args.length) (h2 : k < t.args.length), ∀ W, BankSt n0 Ba B limit es free W → Calls Try.prog 56 #[.pointer (some ⟨Ba, 0, none⟩), .int .i64 e.nd.args[k]] W (BuP t.args[k] W)) := fun k h1 h2 W hW => ih t.args[k] (List.getElem_mem h2) _ (hsub k h1 h2) W hW
  have HAl : Hid (e.nd.args.length = t.args.length) := hal
  clear ih hR hsub hB hb0 hids hone hrec hx hrc hxi hxe he hei hBk r3 hv hf hal
  go_enter Try.func56, Try.ntmps56
  go_wp2
  go_region_held3 (fun w => w.cell? ⟨x.2, 0, none⟩ = some (.int .i64 t.v) ∧ w.cell? ⟨x.2, 1, none⟩ = some (.string t.fn)) (first | exact ⟨r0', r1'⟩ | go_keep) (fail)
  have hbel2 : Below W.heap.size W ((W.alloc (.cells #[.int .i64 0, .string ⟨#[]⟩, .slice none 0 0] 24)).alloc (.cells #[.int .i64 t.v, .string t.fn, .slice none 0 0] 24)).drew := (below_box2 W _ _).drew
  have r2' := kc hbel2 hxl r2
  have H0 : Hid (∀ q, BlI W t.v t.fn 0 (.slice none 0 0) [] (((W.alloc (.cells #[.int .i64 0, .string ⟨#[]⟩, .slice none 0 0] 24)).alloc (.cells #[.int .i64 t.v, .string t.fn, .slice none 0 0] 24)).drewN q)) := fun q => by
    have h1 := (MapKept.heap_alloc W (.cells #[.int .i64 0, .string ⟨#[]⟩, .slice none 0 0] 24)).1
    have h2 := (MapKept.heap_alloc (W.alloc (.cells #[.int .i64 0, .string ⟨#[]⟩, .slice none 0 0] 24)) (.cells #[.int .i64 t.v, .string t.fn, .slice none 0 0] 24)).1
    rw [World.size_alloc] at h2
    have h3 : ∀ k, k < W.heap.size + 2 → ∀ X : World, X = ((W.alloc (.cells #[.int .i64 0, .string ⟨#[]⟩, .slice none 0 0] 24)).alloc (.cells #[.int .i64 t.v, .string t.fn, .slice none 0 0] 24)) → (X.drewN q).heap[k]? = X.heap[k]? := fun k hk X hX => (below_drewN (Below.refl X.heap.size X) q).block k (by rw [hX]; simp; omega)
    have hbl : Below W.heap.size W (((W.alloc (.cells #[.int .i64 0, .string ⟨#[]⟩, .slice none 0 0] 24)).alloc (.cells #[.int .i64 t.v, .string t.fn, .slice none 0 0] 24)).drewN q) := below_drewN (below_box2 W _ _) q
    refine ⟨hbl, ?_, ?_, (h3 _ (by omega) _ rfl).trans h2, World.ownsRow_nil _ _ _ _, rfl, fun p hp => (by cases hp)⟩
    · have hb2 := (below_drewN (Below.refl ((W.alloc (.cells #[.int .i64 0, .string ⟨#[]⟩, .slice none 0 0] 24)).alloc (.cells #[.int .i64 t.v, .string t.fn, .slice none 0 0] 24)).heap.size ((W.alloc (.cells #[.int .i64 0, .string ⟨#[]⟩, .slice none 0 0] 24)).alloc (.cells #[.int .i64 t.v, .string t.fn, .slice none 0 0] 24))) q).size
      simp at hb2 ⊢
      omega
    · rw [h3 _ (by omega) _ rfl, Below.heap_alloc _ _ _ (by simp)]
      exact h1
  go_wp2_with (go_at_call 68; refine (arguments_any x.2 _ _ r2' (by omega)).mono ?_; rintro e' W3 ⟨rfl, q, rfl⟩)
  have H1 : Hid (BlI W t.v t.fn 0 (.slice none 0 0) [] (((W.alloc (.cells #[.int .i64 0, .string ⟨#[]⟩, .slice none 0 0] 24)).alloc (.cells #[.int .i64 t.v, .string t.fn, .slice none 0 0] 24)).drewN (1 + q))) := H0.out (1 + q)
  clear H0 r0 r1 r2 r0' r1' r2' c2 c2' hlk hbel0 hbel2
  go_loopw [31] (fun vi wr => ∃ k : Nat, k ≤ t.args.length ∧ vi = .int .i64 k ∧ ∃ vv ps, Hid (BlI W t.v t.fn k vv ps wr ∧ ps.map (·.1) = t.args.take k)) (fun vi _ => t.args.length - (intOf vi).toNat)
  case atStart => exact ⟨0, Nat.zero_le _, rfl, _, [], H1.out, by simp⟩
  case round =>
    obtain ⟨k, hk, rfl, vv, ps, HI⟩ := hrel
    clear H1
    by_cases hlt : k < t.args.length
    · have hlt1 : k < e.nd.args.length := by have := HAl.out; omega
      have hkI : (k : Int) < (t.args.length : Int) := by omega
      have hk0 : (0 : Int) ≤ (k : Int) := by omega
      have hI := HI.out.1
      have ck := HAr.out wr hI.bel k hlt1
      obtain ⟨a, ha⟩ : ∃ a, e.nd.args[k] = a := ⟨_, rfl⟩
      obtain ⟨Wd, hWd⟩ : ∃ X, wr.drew = X := ⟨_, rfl⟩
      have hd : Below wr.heap.size wr Wd := by rw [← hWd]; exact (Below.refl _ wr).drew
      have hcall := HIH.out k hlt1 hlt Wd (HBk.out Wd (hI.bel.trans (hd.mono hI.bel.size)))
      rw [ha] at ck hcall
      obtain ⟨u, hu⟩ : ∃ u, t.args[k] = u := ⟨_, rfl⟩
      have HU : Hid (t.args.take (k + 1) = t.args.take k ++ [u]) := by show _ = _; rw [List.take_succ_eq_append_getElem hlt, hu]
      rw [hu] at hcall
      obtain ⟨va, vc, rfl⟩ := row_slice hI.row
      have hds := hd.size
      have hyl : W.heap.size + 1 < wr.heap.size := (Array.getElem?_eq_some_iff.1 hI.tb).1
      have hvv : ∀ g', (Value.slice va k vc).ownBlock = some g' → W.heap.size + 1 + 1 ≤ g' := fun g' hg => (row_block hI.row hg).1
      have HX : Hid (∀ Z, Only (ob (.slice va k vc)) Wd Z → Z.heap[W.heap.size + 1]? = some (.cells #[.int .i64 t.v, .string t.fn, .slice va k vc] 24 (0, 0))) := fun Z hZ => by
        rw [hZ.block _ (by omega) (fun hm => by have := hvv _ (mem_ob.1 hm); omega), hd.block _ hyl]; exact hI.tb
      have R0 := row_keep hI.row (W' := Wd) (fun g' hg => by
        obtain ⟨_, cq, hq⟩ := row_block hI.row hg
        exact hd.block g' (Array.getElem?_eq_some_iff.1 hq).1)
      have HD2 : Hid (Below wr.heap.size wr Wd ∧ W.heap.size + 1 + 1 ≤ Wd.heap.size) := ⟨hd, by omega⟩
      have HK16 : Hid (k < t.args.length ∧ t.args.length ≤ 16) := ⟨hlt, h16⟩
      have hHeld : Only (ob (.slice va k vc)) Wd Wd := Only.refl _ _
      obtain ⟨i0, hi0, hiz⟩ := Option.map_eq_some_iff.1 info24
      simp only [Prod.mk.injEq] at hiz
      obtain ⟨hz0, hz1, hz2⟩ := hiz
      clear hI hd hvv hds hyl ha hu
      go_wp2
      refine wp_region_last 8 (S := fun Z => Only (ob (.slice va k vc)) Wd Z) (by kernel_rfl) ?_
      rw [hWd]
      refine wpLast_take 0 (.pointer (some ⟨W.heap.size + 1, 2, none⟩)) rfl (by kernel_rfl) (by kernel_rfl) (by kernel_rfl) (by kernel_rfl) (fun _ _ _ h => h) (Or.inl ⟨by rfl, fun Z hZ => by go_simp⟩) (by assumption) ?_
      try simp only [Act.put, List.setIfInBounds_toArray, List.set_cons_zero, List.set_cons_succ]
      refine wpLast_take 1 (.slice va k vc) rfl (by kernel_rfl) (by kernel_rfl) (by kernel_rfl) (by kernel_rfl) (fun _ _ _ h => h) (Or.inl ⟨by rfl, fun Z hZ => by have y3 := cell_at (HX.out Z hZ) (o := 2) rfl; go_simp⟩) (by assumption) ?_
      try simp only [Act.put, List.setIfInBounds_toArray, List.set_cons_zero, List.set_cons_succ]
      refine wpLast_take 2 (.pointer (some ⟨Ba, 0, none⟩)) rfl (by kernel_rfl) (by kernel_rfl) (by kernel_rfl) (by kernel_rfl) (fun _ _ _ h => h) (Or.inl ⟨by rfl, fun Z hZ => by go_simp⟩) (by assumption) ?_
      try simp only [Act.put, List.setIfInBounds_toArray, List.set_cons_zero, List.set_cons_succ]
      refine wpLast_take 3 (.int .i64 a) rfl (by kernel_rfl) (by kernel_rfl) (by kernel_rfl) (by kernel_rfl) (fun _ _ _ h => h) (Or.inl ⟨by rfl, fun Z hZ => by go_simp⟩) (by assumption) ?_
      try simp only [Act.put, List.setIfInBounds_toArray, List.set_cons_zero, List.set_cons_succ]
      refine wpLast_one (i := 4) (o := ⟨_, _, _, _, _, _⟩) (by kernel_rfl) rfl (fun KK hK => ?_)
      rw [if_pos (by rfl)]
      go_simp
      refine hcall.mono ?_
      rintro e' W5 ⟨ua, uc, rfl, hu5, b5⟩
      have S5 : Only (ob (.slice va k vc)) Wd W5 := Only.of_below b5
      refine hK.out _ _ (fun _ => S5) ?_
      clear hK KK
      try simp only [Act.put, List.setIfInBounds_toArray, List.set_cons_zero, List.set_cons_succ]
      refine wpLast_one (i := 5) (o := ⟨_, _, _, _, _, _⟩) (by kernel_rfl) rfl (fun KK hK => ?_)
      rw [if_pos (by rfl)]
      go_simp
      obtain ⟨W6, hW6⟩ : ∃ X, W5.alloc (.cells #[.int .i64 u.v, .string u.fn, .slice ua u.args.length uc] 24) = X := ⟨_, rfl⟩
      have b6 : Below W5.heap.size W5 W6 := by rw [← hW6]; exact below_box _ _
      have n6 : W6.heap[W5.heap.size]? = some (.cells #[.int .i64 u.v, .string u.fn, .slice ua u.args.length uc] 24 (0, 0)) := by rw [← hW6]; exact (MapKept.heap_alloc _ _).1
      have S6 : Only (ob (.slice va k vc)) Wd W6 := S5.trans (Only.of_below (B := []) b6) (by simp)
      have R6 := row_keep R0 (W' := W6) (fun g' hg => by
        obtain ⟨_, cq, hq⟩ := row_block R0 hg
        have hl := (Array.getElem?_eq_some_iff.1 hq).1
        rw [b6.block g' (by have := b5.size; omega), b5.block g' hl])
      try rw [hW6]
      refine hK.out _ _ (fun _ => S6) ?_
      clear hK KK
      try simp only [Act.put, List.setIfInBounds_toArray, List.set_cons_zero, List.set_cons_succ]
      refine wpLast_one (i := 6) (o := ⟨_, _, _, _, _, _⟩) (by kernel_rfl) rfl (fun KK hK => ?_)
      have hK16 := HK16.out
      have hd2 := HD2.out.2
      have h5s := b5.size
      have h6s := b6.size
      refine step_append_own W6 rfl (.tmp 36) (.tmp 40) 22 rfl (W.heap.size + 1 + 1) 24 i0 _ 3 48 Try.underlying22 hi0 hz0 hz1 hz2 rfl (by decide) (.slice va k vc) k (flat ps) rfl R6 ⟨W5.heap.size, 0, none⟩ 1 1 [.int .i64 u.v, .string u.fn, .slice ua u.args.length uc] rfl rfl (fun j u' hj => by rw [Addr.add_mid, Nat.zero_add]; exact cell_at n6 (by simpa using hj)) (by intro u' hu'; simp only [List.mem_cons, List.not_mem_nil, or_false] at hu'; rcases hu' with rfl | rfl | rfl <;> rfl) (by unfold maxLen; omega) (by omega) (by omega) ?_
      intro v7 W7 hrow7 hg7 hb7
      have S7 : Only (ob (.slice va k vc)) Wd W7 := S6.trans (Only.of_grown (B := ob (.slice va k vc)) hg7 (fun r hr => mem_ob.2 hr)) (fun r hr => .inl hr)
      refine hK.out _ _ (fun _ => S7) ?_
      clear hK KK
      try simp only [Act.put, List.setIfInBounds_toArray, List.set_cons_zero, List.set_cons_succ]
      refine wpLast_take 7 (.pointer (some ⟨W.heap.size + 1, 2, none⟩)) rfl (by kernel_rfl) (by kernel_rfl) (by kernel_rfl) (by kernel_rfl) (fun _ _ _ h => h) (Or.inl ⟨by rfl, fun Z hZ => by go_simp⟩) (by assumption) ?_
      try simp only [Act.put, List.setIfInBounds_toArray, List.set_cons_zero, List.set_cons_succ]
      obtain ⟨a7, c7, rfl⟩ := row_slice hrow7
      have HNx : Hid (BlI W t.v t.fn (k + 1) (.slice a7 (k + 1) c7) (ps ++ [(u, .slice ua u.args.length uc)]) (W7.setCell ⟨W.heap.size + 1, 2, none⟩ (.slice a7 (k + 1) c7)) ∧ (ps ++ [(u, Value.slice ua u.args.length uc)]).map (·.1) = t.args.take (k + 1)) :=
        ⟨BlI.next (bl := .cells #[.int .i64 u.v, .string u.fn, .slice ua u.args.length uc] 24) HI.out.1 HD2.out.1 hu5 b5 hrow7 (by rw [hW6]; exact hg7) (by rw [hW6]; exact hb7), by rw [List.map_append, HI.out.2, HU.out]; rfl⟩
      have z0 := HX.out W7 S7
      have y0 : W7.cell? ⟨W.heap.size + 1, 2, none⟩ = some (.slice va k vc) := cell_at z0 rfl
      have y1 : W7.frozen? ⟨W.heap.size + 1, 2, none⟩ = false := by simp [World.frozen?, z0]
      clear hrow7 hg7 hb7 S7 S6 S5 R6 R0 hu5 b5 b6 n6 hW6 hcall h5s h6s hd2 hHeld hK16 z0
      refine wpLast_one (i := 8) (o := ⟨_, _, _, _, _, _⟩) (by kernel_rfl) rfl (fun KK hK => ?_)
      rw [if_pos (by rfl)]
      go_simp
      refine hK.out _ _ (fun h => absurd h (by omega)) ?_
      clear hK KK
      refine wpLast_done (by kernel_rfl) ?_ _
      try simp only [Act.put]
      have hw1 : wrap64 ((k : Int) + 1) = (k : Int) + 1 := by have := HK16.out; unfold wrap64; omega
      go_wp2
      go_roundw
      case rel => exact ⟨k + 1, HK16.out.1, by first | (rw [hw1, Int.natCast_add]; rfl) | go_num, _, _, HNx⟩
      case measure => first | (rw [hw1]; exact meas_lt _ _ HK16.out.1) | exact meas_lt _ _ HK16.out.1
    · have hke : k = t.args.length := by omega
      have hkI : ¬ (k : Int) < (t.args.length : Int) := by omega
      have hI := HI.out.1
      obtain ⟨va, vc, rfl⟩ := row_slice hI.row
      obtain ⟨⟨d0, d1, d2⟩, e0, e1, e2⟩ := box_facts hI.rb
      obtain ⟨⟨g0, g1, g2⟩, f0, f1, f2⟩ := box_facts hI.tb
      have hl := hI.last
      have hps : ps.map (·.1) = t.args := by rw [HI.out.2, hke, List.take_length]
      rw [hps] at hl
      subst hke
      have HE : Hid (BuP t W (.returned (tval t (.slice va t.args.length vc))) (set3 wr W.heap.size 0 (.int .i64 t.v) (.string t.fn) (.slice va t.args.length vc))) := ⟨va, vc, rfl, hl.1, hl.2⟩
      clear hI HI hl hps
      go_wp2
      refine bodyPost_ret (v := tval t (.slice va t.args.length vc)) (by simp [results, Try.results56, go_sem, *]) rfl ?_
      exact HE.out

set_option maxRecDepth 100000 in
set_option maxHeartbeats 1000000 in
/-- Get at a number that is there. -/
theorem get_any (n0 Ba : Nat) (B : List Nat) (limit : Int) (es : List Ent) (free : List Int) {P : List Int} (hBk : Bk es P) (t : T) (id : Int) (hR : Rp es id t) (W : World) (hb : BankSt n0 Ba B limit es free W) :
    Calls Try.prog 29 #[.pointer (some ⟨Ba, 0, none⟩), .int .i64 id] W fun e' W' => ∃ a c, e' = .returned (.tuple #[tval t (.slice a t.args.length c), .int .i64 0]) ∧ ArgsAt W' (.slice a t.args.length c) t.args ∧ Below W.heap.size W W' := by
  have hbel0 := below_box W (.cells #[.int .i64 0, .string ⟨#[]⟩, .slice none 0 0] 24)
  have hb1 := hb.keep (W' := W.alloc (.cells #[.int .i64 0, .string ⟨#[]⟩, .slice none 0 0] 24)) (fun r hr => hbel0.block r (hb.there r hr).2)
  have hbuilt := built_any n0 Ba B limit es free hBk t id hR _ hb1
  obtain ⟨bn, br, fv, l, hB⟩ := hb1
  obtain ⟨_, _, c2, _⟩ := hB.cells
  obtain ⟨e0, he0, hei, _⟩ := hR.inv
  have hfit : Fit64 id := by rw [← hei]; exact hBk.fit e0 he0
  have hids : l.map (·.1.id) = es.map (·.id) := by rw [← hB.ents, List.map_map]; rfl
  obtain ⟨x, hx, hxi, hone, hrec⟩ := recMap_find l id (by rw [hids]; exact hR.mem) (by rw [hids]; exact hBk.nod)
  have hlk := ((hB.recs.look keyed3 Try.underlying73 (zero85 _) (key3 hfit)).1 _ hrec).2
  have h4 := (MapKept.heap_alloc W (.cells #[.int .i64 0, .string ⟨#[]⟩, .slice none 0 0] 24)).1
  have hcall := hbuilt.mono (R' := fun e' X' => ∃ a c, e' = .returned (tval t (.slice a t.args.length c)) ∧ X'.cell? ⟨W.heap.size, 0, none⟩ = some (.int .i64 0) ∧ X'.cell? ⟨W.heap.size, 1, none⟩ = some (.string ⟨#[]⟩) ∧ X'.cell? ⟨W.heap.size, 2, none⟩ = some (.slice none 0 0) ∧ (∀ o, X'.frozen? ⟨W.heap.size, o, none⟩ = false) ∧ Hid (ArgsAt (set3 X' W.heap.size 0 (.int .i64 t.v) (.string t.fn) (.slice a t.args.length c)) (.slice a t.args.length c) t.args ∧ Below W.heap.size W (set3 X' W.heap.size 0 (.int .i64 t.v) (.string t.fn) (.slice a t.args.length c)))) (by
    rintro e' X' ⟨a, c, he, ha, hbX⟩
    have h4' := (hbX.block W.heap.size (by simp)).trans h4
    refine ⟨a, c, he, ?_, ?_, ?_, fun o => by simp [World.frozen?, h4'], ?_, ?_⟩
    · rw [cell_of_row _ _ _ _ 24 (0, 0) h4']; rfl
    · rw [cell_of_row _ _ _ _ 24 (0, 0) h4']; rfl
    · rw [cell_of_row _ _ _ _ 24 (0, 0) h4']; rfl
    · exact (ha.keep (P' := fun _ => True) (by rw [set3_size]; exact Nat.le_refl _) (fun k hk _ => ⟨trivial, set3_other _ _ _ _ _ _ k (by simp at hk; omega)⟩)).args
    · exact set3_below (hbel0.trans (hbX.mono hbel0.size)) _ 0 _ _ _ (Nat.le_refl _))
  clear hB hbuilt hb hbel0 h4 hone hids hrec hBk hR
  go_enter Try.func29, Try.ntmps29
  go_wp2_with (go_at_call 56; refine hcall.mono ?_; rintro e' W5 ⟨a, c, rfl, d0, d1, d2, dz, HA⟩)
  exact bodyPost_ret (v := .tuple #[tval t (.slice a t.args.length c), .int .i64 0]) (by simp [results, Try.results29, go_sem, *]) rfl ⟨_, _, rfl, HA⟩

theorem gone_look {n0 Ba : Nat} {B : List Nat} {limit : Int} {es : List Ent} {free : List Int} {W : World} {bn br : Nat} {fv : Value} {l : List (Ent × Nat)} (h : BankAt n0 Ba B limit es free W bn br fv l) {id : Int} (hf : Fit64 id) (hid : id ∉ es.map (·.id)) :
    (Instr.lookup 73 (.map (some br)) (.int .i64 id) false).run Try.prog W = .ok (.pointer none) W := by
  have hids : l.map (·.1.id) = es.map (·.id) := by rw [← h.ents, List.map_map]; rfl
  exact ((h.recs.look keyed3 Try.underlying73 (zero85 _) (key3 hf)).2 (recMap_none l id (fun x hx e => hid (by rw [← hids, ← e]; exact List.mem_map_of_mem (f := fun x : Ent × Nat => x.1.id) hx)))).2

set_option maxHeartbeats 1000000 in
theorem drop_gone {n0 Ba : Nat} {B : List Nat} {limit : Int} {es : List Ent} {free : List Int} {W : World} (hb : BankSt n0 Ba B limit es free W) (id : Int) (hf : Fit64 id) (hid : id ∉ es.map (·.id)) :
    Calls Try.prog 27 #[.pointer (some ⟨Ba, 0, none⟩), .int .i64 id] W fun e W' => e = .returned (.int .i64 4) ∧ W' = W := by
  obtain ⟨bn, br, fv, l, hB⟩ := hb
  obtain ⟨_, _, c2, _⟩ := hB.cells
  have hlk := gone_look hB hf hid
  clear hB hid
  go_enter Try.func27, Try.ntmps27
  go_wp2
  go_ret
  exact ⟨rfl, rfl⟩

set_option maxHeartbeats 1000000 in
theorem drop_unkept {n0 Ba : Nat} {B : List Nat} {limit : Int} {es : List Ent} {free : List Int} {P : List Int} {W : World} (hb : BankSt n0 Ba B limit es free W) (hBk : Bk es P) (e : Ent) (he : e ∈ es) (hk : e.kept = 0) :
    Calls Try.prog 27 #[.pointer (some ⟨Ba, 0, none⟩), .int .i64 e.id] W fun e W' => e = .returned (.int .i64 4) ∧ W' = W := by
  obtain ⟨bn, br, fv, l, hB⟩ := hb
  obtain ⟨_, _, c2, _⟩ := hB.cells
  have hids : l.map (·.1.id) = es.map (·.id) := by rw [← hB.ents, List.map_map]; rfl
  obtain ⟨x, hx, hxi, hone, hrec⟩ := recMap_find l e.id (by rw [hids]; exact List.mem_map_of_mem he) (by rw [hids]; exact hBk.nod)
  have hxe : x.1 ∈ es := by rw [← hB.ents]; exact List.mem_map_of_mem hx
  obtain rfl := id_inj hBk.nod hxe he hxi
  have hrc := hB.each x hx
  have hlk := ((hB.recs.look keyed3 Try.underlying73 (zero85 _) (key3 (hBk.fit _ he))).1 _ hrec).2
  have r19 : W.cell? ⟨x.2, 19, none⟩ = some (.int .i64 0) := by rw [cell_of_row _ _ _ _ 84 (0, 0) hrc, List.getElem?_toArray, x.1.cells_kept, hk]
  obtain ⟨id, hi⟩ : ∃ i, x.1.id = i := ⟨_, rfl⟩
  rw [hi] at hlk ⊢
  clear hB hBk hrec hone hids hrc hxi hi he hxe hk hx
  go_enter Try.func27, Try.ntmps27
  go_wp2
  go_ret
  exact ⟨rfl, rfl⟩

set_option maxHeartbeats 1000000 in
theorem get_gone {n0 Ba : Nat} {B : List Nat} {limit : Int} {es : List Ent} {free : List Int} {W : World} (hb : BankSt n0 Ba B limit es free W) (id : Int) (hf : Fit64 id) (hid : id ∉ es.map (·.id)) :
    Calls Try.prog 29 #[.pointer (some ⟨Ba, 0, none⟩), .int .i64 id] W fun e W' => e = .returned (.tuple #[.agg #[.int .i64 0, .string ⟨#[]⟩, .slice none 0 0], .int .i64 4]) ∧ Below W.heap.size W W' := by
  have hbx := below_box W (.cells #[.int .i64 0, .string ⟨#[]⟩, .slice none 0 0] 24)
  have hb1 := hb.keep (W' := W.alloc (.cells #[.int .i64 0, .string ⟨#[]⟩, .slice none 0 0] 24)) (fun r hr => hbx.block r (hb.there r hr).2)
  have h1 := (MapKept.heap_alloc W (.cells #[.int .i64 0, .string ⟨#[]⟩, .slice none 0 0] 24)).1
  obtain ⟨⟨d0, d1, d2⟩, e0, e1, e2⟩ := box_facts h1
  obtain ⟨bn, br, fv, l, hB⟩ := hb1
  obtain ⟨_, _, c2, _⟩ := hB.cells
  have hlk := gone_look hB hf hid
  have HB : Hid (Below W.heap.size W (W.alloc (.cells #[.int .i64 0, .string ⟨#[]⟩, .slice none 0 0] 24))) := hbx
  clear hB hid hb hbx h1
  go_enter Try.func29, Try.ntmps29
  go_wp2
  refine bodyPost_ret (v := .tuple #[.agg #[.int .i64 0, .string ⟨#[]⟩, .slice none 0 0], .int .i64 4]) (by simp [results, Try.results29, go_sem, *]) rfl ?_
  exact ⟨rfl, HB.out⟩

end Go.Proofs.Ytbbfpllffcfmhaa.Fq

/-
  Every entry stands for a term.
-/
namespace Go.Proofs.Ytbbfpllffcfmhaa

theorem Numb.inv (M : Numb) (I : M.σ → Prop) (hI : ∀ s nd, I s → (∀ a ∈ nd.args, M.Has s a) → I (M.step s nd).1) (t : T) : ∀ s, I s → I (M.num t s).1 := by
  induction t using T.ind with
  | _ t ih =>
    intro s hs
    have h : ∀ (l : List T) (s : M.σ), (∀ a ∈ l, a ∈ t.args) → I s → I (Numb.num.nums M l s).1 := by
      intro l
      induction l with
      | nil => intro s _ hs; exact hs
      | cons a r ihl => intro s hm hs; exact ihl _ (fun b hb => hm b (List.mem_cons_of_mem _ hb)) (ih a (hm a List.mem_cons_self) s hs)
    rw [M.num_eq]
    exact hI _ _ (h t.args s (fun _ h => h) hs) (M.nums_has t.args s).2.1

namespace Fq

/-- Every entry stands for a term. -/
def Rpa (es : List Ent) : Prop := ∀ e ∈ es, ∃ t, Rp es e.id t

theorem bumps_both : ∀ (ids : List Int) (es : List Ent), Sub es (bumps ids es) ∧ ∀ e' ∈ bumps ids es, ∃ e ∈ es, e.id = e'.id ∧ e.nd = e'.nd
  | [], es => ⟨Sub.refl es, fun e he => ⟨e, he, rfl, rfl⟩⟩
  | i :: r, es => by
    obtain ⟨h1, h2⟩ := bumps_both r (es.map (bumpE i))
    refine ⟨(Sub.of_map (bumpE_id i) (bumpE_nd i) es).trans h1, fun e' he' => ?_⟩
    obtain ⟨e, he, q1, q2⟩ := h2 e' he'
    obtain ⟨e0, h0, rfl⟩ := List.mem_map.1 he
    exact ⟨e0, h0, by rw [← q1, bumpE_id], by rw [← q2, bumpE_nd]⟩

theorem rp_all {es : List Ent} : ∀ l : List Int, (∀ a ∈ l, ∃ t, Rp es a t) → ∃ ts : List T, l.length = ts.length ∧ ∀ k (h1 : k < l.length) (h2 : k < ts.length), Rp es l[k] ts[k]
  | [], _ => ⟨[], rfl, fun k h => absurd h (by simp)⟩
  | a :: r, h => by
    obtain ⟨t, ht⟩ := h a List.mem_cons_self
    obtain ⟨ts, h1, h2⟩ := rp_all r fun b hb => h b (List.mem_cons_of_mem _ hb)
    refine ⟨t :: ts, by simp [h1], fun k k1 k2 => ?_⟩
    cases k with
    | zero => exact ht
    | succ k => exact h2 k (by simpa using k1) (by simpa using k2)

theorem Rpa.sub {es es' : List Ent} (h : Rpa es) (hs : Sub es es') (hb : ∀ e' ∈ es', e'.id ∈ es.map (·.id) ∨ ∀ a ∈ e'.nd.args, a ∈ es.map (·.id)) : Rpa es' := by
  have hold : ∀ i ∈ es.map (·.id), ∃ t, Rp es' i t := fun i hi => by
    obtain ⟨e, he, rfl⟩ := List.mem_map.1 hi
    obtain ⟨t, ht⟩ := h e he
    exact ⟨t, ht.mono hs⟩
  intro e' he'
  rcases hb e' he' with h1 | h1
  · exact hold _ h1
  · obtain ⟨ts, q1, q2⟩ := rp_all (es := es') e'.nd.args fun a ha => hold a (h1 a ha)
    exact ⟨.mk e'.nd.v e'.nd.fn ts, .mk e' he' (.mk e'.nd.v e'.nd.fn ts) rfl rfl q1 q2⟩

theorem rpa_step (s : {es : List Ent // GoodF es}) (nd : Nd) (h : Rpa s.1) (ha : ∀ a ∈ nd.args, a ∈ s.1.map (·.id)) : Rpa (stepG s nd).1.1 := by
  cases he : entOf s.1 nd with
  | some e => rw [stepG_old he]; exact h
  | none =>
    by_cases hl : ∃ i, Least s.1 i ∧ Fit64 i
    · obtain ⟨i, hi⟩ := hl
      rw [stepG_new he hi]
      show Rpa (bumps nd.args (s.1 ++ [⟨i, nd, 0, 0⟩]))
      obtain ⟨h1, h2⟩ := bumps_both nd.args (s.1 ++ [⟨i, nd, 0, 0⟩])
      refine h.sub (Sub.trans (fun e he => ⟨e, List.mem_append_left _ he, rfl, rfl⟩) h1) (fun e' he' => ?_)
      obtain ⟨e, he, q1, q2⟩ := h2 e' he'
      rcases List.mem_append.1 he with he | he
      · exact .inl (by rw [← q1]; exact List.mem_map_of_mem he)
      · obtain rfl := List.mem_singleton.1 he
        exact .inr (by rw [← q2]; exact ha)
    · rw [stepG_full he hl]; exact h

theorem rpa_num (n0 Ba : Nat) (limit : Int) (t : T) (s : {es : List Ent // GoodF es}) (h : Rpa s.1) : Rpa ((enterG n0 Ba limit).num t s).1.1 :=
  (enterG n0 Ba limit).inv (fun s => Rpa s.1) (fun s nd h ha => rpa_step s nd h ha) t s h

theorem Rpa.map {es : List Ent} (h : Rpa es) {f : Ent → Ent} (hi : ∀ e, (f e).id = e.id) (hf : ∀ e, (f e).nd = e.nd) : Rpa (es.map f) := by
  refine h.sub (Sub.of_map hi hf es) (fun e' he' => ?_)
  obtain ⟨e, he, rfl⟩ := List.mem_map.1 he'
  exact .inl (by rw [hi]; exact List.mem_map_of_mem he)

theorem rp_back {es es' : List Ent} {P : List Int} (hb : Bk es' P) (hn : (es.map (·.id)).Nodup) (hs : ∀ e' ∈ es', ∃ e ∈ es, e.id = e'.id ∧ e.nd = e'.nd) {i : Int} {t : T} (h : Rp es i t) : i ∈ es'.map (·.id) → Rp es' i t := by
  induction h with
  | mk e he t hv hf hl ha ih =>
    intro hi
    obtain ⟨e', he', hie⟩ := List.mem_map.1 hi
    obtain ⟨e0, h0, q1, q2⟩ := hs e' he'
    obtain rfl := id_inj hn h0 he (q1.trans hie)
    rw [← hie]
    refine .mk e' he' t (by rw [← q2]; exact hv) (by rw [← q2]; exact hf) (by rw [← q2]; exact hl) (fun k h1 h2 => ?_)
    have hm := (hb.arg e' he' _ (List.getElem_mem h1)).1
    have := ih k (by rw [q2]; exact h1) h2
    simp only [q2] at this
    exact this hm

theorem Rpa.drop {es es' : List Ent} {i : Int} (h : Rpa es) (hb : Bs es []) (k : Drp i es es') : Rpa es' := fun e' he' => by
  obtain ⟨e, he, q1, q2, _⟩ := k.sub e' he'
  obtain ⟨t, ht⟩ := h e he
  refine ⟨t, rp_back k.bs.1 hb.1.nod (fun e' he' => ?_) (by rw [← q1]; exact ht) (List.mem_map_of_mem he')⟩
  obtain ⟨e, q1, q2, q3, _⟩ := k.sub e' he'
  exact ⟨e, q1, q2, q3⟩

end Fq
end Go.Proofs.Ytbbfpllffcfmhaa
