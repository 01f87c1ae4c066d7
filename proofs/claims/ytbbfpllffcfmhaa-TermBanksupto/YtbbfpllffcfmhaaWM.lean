/-
  built: the term of a node, in new memory.
-/
import Derived.Test.YtbbfpllffcfmhaaWL
import Derived.Test.YtbbfpllffcfmhaaWW
namespace Go.Proofs.Ytbbfpllffcfmhaa
open Go.RowKit Go.Maps

theorem cell_at {W : World} {b o : Nat} {l : Array Value} {ty : TypeId} {v : Value} (h : W.heap[b]? = some (.cells l ty (0, 0))) (hv : l[o]? = some v) : W.cell? ⟨b, o, none⟩ = some v := by
  simp [World.cell?, h, hv]

/-- What built gives. -/
def BuP (t : T) (w : World) (e : Ending) (W' : World) : Prop := ∃ (a : Option Addr) (c : Nat), e = .returned (tval t (.slice a t.args.length c)) ∧ ArgsP (fun b => w.heap.size ≤ b) W' (.slice a t.args.length c) t.args ∧ Below w.heap.size w W'

set_option maxRecDepth 100000 in
set_option maxHeartbeats 8000000 in
theorem built_any (n0 Ba : Nat) (B : List Nat) (limit : Int) (es : List Ent) (free : List Int) {P : List Int} (hBk : Bk es P) (t : T) : ∀ (i : Int), Rp es i t → ∀ W, BankSt n0 Ba B limit es free W →
    Calls Try.prog 56 #[.pointer (some ⟨Ba, 0, none⟩), .int .i64 i] W (BuP t W) := by
  induction t using T.ind with
  | _ t ih =>
  intro i hR W hb
  obtain ⟨e, he, hei, hv, hf, hal, hsub⟩ := hR.inv
  have h16 : t.args.length ≤ 16 := by have := (hBk.fine e he).len; omega
  have hfit := hBk.fit e he
  rw [hei] at hfit
  have hb0 := hb
  obtain ⟨bn, br, fv, l, hB⟩ := hb
  obtain ⟨_, _, c2, _⟩ := hB.cells
  have hids : l.map (·.1.id) = es.map (·.id) := by rw [← hB.ents, List.map_map]; rfl
  obtain ⟨x, hx, hxi, hone, hrec⟩ := recMap_find l i (by rw [hids]; exact hR.mem) (by rw [hids]; exact hBk.nod)
  have hxe : x.1 = e := by
    rw [← hB.ents] at he
    obtain ⟨y, hy, rfl⟩ := List.mem_map.1 he
    rw [hone y hy hei]
  have hrc := hB.each x hx
  rw [hxe] at hrc
  have hbel0 := below_box W (.cells #[.int .i64 0, .string ⟨#[]⟩, .slice none 0 0] 24)
  have hBa := (Array.getElem?_eq_some_iff.1 hB.head).1
  have hxl := (Array.getElem?_eq_some_iff.1 hrc).1
  obtain ⟨r0, r1, r2, r3⟩ := rec_cells hrc
  rw [hv] at r0
  rw [hf] at r1
  rw [hal] at r2
  have c2' := kc hbel0 hBa c2
  have r0' := kc hbel0 hxl r0
  have r1' := kc hbel0 hxl r1
  have hlk : (Instr.lookup 73 (.map (some br)) (.int .i64 i) false).run Try.prog (W.alloc (.cells #[.int .i64 0, .string ⟨#[]⟩, .slice none 0 0] 24)) = .ok (.pointer (some ⟨x.2, 0, none⟩)) (W.alloc (.cells #[.int .i64 0, .string ⟨#[]⟩, .slice none 0 0] 24)) := (((hB.recs.same (hbel0.block br hB.recs.lt)).look keyed3 Try.underlying73 (zero85 _) (key3 hfit)).1 _ hrec).2
  have hne1 : W.heap.size + 1 ≠ x.2 := by omega
  have hne2 : W.heap.size ≠ x.2 := by omega
  have HAr : Hid (∀ Z, Below W.heap.size W Z → ∀ k (h1 : k < e.nd.args.length), Z.cell? ⟨x.2, 3 + k, none⟩ = some (.int .i64 e.nd.args[k])) := fun Z hZ k h1 => kc hZ hxl (r3 k h1 (by omega))
  have HBk : Hid (∀ Z, Below W.heap.size W Z → BankSt n0 Ba B limit es free Z) := fun Z hZ => hb0.keep (fun r hr => hZ.block r (hb0.there r hr).2)
  have HIH : Hid (∀ k (h1 : k < e.nd.args.length) (h2 : k < t.args.length), ∀ W, BankSt n0 Ba B limit es free W → Calls Try.prog 56 #[.pointer (some ⟨Ba, 0, none⟩), .int .i64 e.nd.args[k]] W (BuP t.args[k] W)) := fun k h1 h2 W hW => ih t.args[k] (List.getElem_mem h2) _ (hsub k h1 h2) W hW
  have HAl : Hid (e.nd.args.length = t.args.length) := hal
  clear ih hR hsub hB hb0 hids hone hrec hx hrc hxi hxe he hei hBk r3 hv hf hal
  go_enter Try.func56, Try.ntmps56
  go_wp2
  go_region_held3 (fun w => w.cell? ⟨x.2, 0, none⟩ = some (.int .i64 t.v) ∧ w.cell? ⟨x.2, 1, none⟩ = some (.string t.fn)) (first | exact ⟨r0', r1'⟩ | go_keep) (fail)
  have hbel2 : Below W.heap.size W ((W.alloc (.cells #[.int .i64 0, .string ⟨#[]⟩, .slice none 0 0] 24)).alloc (.cells #[.int .i64 t.v, .string t.fn, .slice none 0 0] 24)).drew := (below_box2 W _ _).drew
  have r2' := kc hbel2 hxl r2
  have H0 : Hid (∀ q, BlI W t.v t.fn 0 (.slice none 0 0) [] (((W.alloc (.cells #[.int .i64 0, .string ⟨#[]⟩, .slice none 0 0] 24)).alloc (.cells #[.int .i64 t.v, .string t.fn, .slice none 0 0] 24)).drewN q)) := fun q => by
    have h1 := (MapKept.heap_alloc W (.cells #[.int .i64 0, .string ⟨#[]⟩, .slice none 0 0] 24)).1
    have h2 := (MapKept.heap_alloc (W.alloc (.cells #[.int .i64 0, .string ⟨#[]⟩, .slice none 0 0] 24)) (.cells #[.int .i64 t.v, .string t.fn, .slice none 0 0] 24)).1
    rw [World.size_alloc] at h2
    have h3 : ∀ k, k < W.heap.size + 2 → ∀ X : World, X = ((W.alloc (.cells #[.int .i64 0, .string ⟨#[]⟩, .slice none 0 0] 24)).alloc (.cells #[.int .i64 t.v, .string t.fn, .slice none 0 0] 24)) → (X.drewN q).heap[k]? = X.heap[k]? := fun k hk X hX => (below_drewN (Below.refl X.heap.size X) q).block k (by rw [hX]; simp; omega)
    have hbl : Below W.heap.size W (((W.alloc (.cells #[.int .i64 0, .string ⟨#[]⟩, .slice none 0 0] 24)).alloc (.cells #[.int .i64 t.v, .string t.fn, .slice none 0 0] 24)).drewN q) := below_drewN (below_box2 W _ _) q
    refine ⟨hbl, ?_, ?_, (h3 _ (by omega) _ rfl).trans h2, World.ownsRow_nil _ _ _ _, rfl, fun p hp => (by cases hp)⟩
    · have hb2 := (below_drewN (Below.refl ((W.alloc (.cells #[.int .i64 0, .string ⟨#[]⟩, .slice none 0 0] 24)).alloc (.cells #[.int .i64 t.v, .string t.fn, .slice none 0 0] 24)).heap.size ((W.alloc (.cells #[.int .i64 0, .string ⟨#[]⟩, .slice none 0 0] 24)).alloc (.cells #[.int .i64 t.v, .string t.fn, .slice none 0 0] 24))) q).size
      simp at hb2 ⊢
      omega
    · rw [h3 _ (by omega) _ rfl, Below.heap_alloc _ _ _ (by simp)]
      exact h1
  go_wp2_with (go_at_call 68; refine (arguments_any x.2 _ _ r2' (by omega)).mono ?_; rintro e' W3 ⟨rfl, q, rfl⟩)
  have H1 : Hid (BlI W t.v t.fn 0 (.slice none 0 0) [] (((W.alloc (.cells #[.int .i64 0, .string ⟨#[]⟩, .slice none 0 0] 24)).alloc (.cells #[.int .i64 t.v, .string t.fn, .slice none 0 0] 24)).drewN (1 + q))) := H0.out (1 + q)
  clear H0 r0 r1 r2 r0' r1' r2' c2 c2' hlk hbel0 hbel2
  go_loopw [31] (fun vi wr => ∃ k : Nat, k ≤ t.args.length ∧ vi = .int .i64 k ∧ ∃ vv ps, Hid (BlI W t.v t.fn k vv ps wr ∧ ps.map (·.1) = t.args.take k)) (fun vi _ => t.args.length - (intOf vi).toNat)
  case atStart => exact ⟨0, Nat.zero_le _, rfl, _, [], H1.out, by simp⟩
  case round =>
    obtain ⟨k, hk, rfl, vv, ps, HI⟩ := hrel
    clear H1
    by_cases hlt : k < t.args.length
    · have hlt1 : k < e.nd.args.length := by have := HAl.out; omega
      have hkI : (k : Int) < (t.args.length : Int) := by omega
      have hk0 : (0 : Int) ≤ (k : Int) := by omega
      have hI := HI.out.1
      have ck := HAr.out wr hI.bel k hlt1
      obtain ⟨a, ha⟩ : ∃ a, e.nd.args[k] = a := ⟨_, rfl⟩
      obtain ⟨Wd, hWd⟩ : ∃ X, wr.drew = X := ⟨_, rfl⟩
      have hd : Below wr.heap.size wr Wd := by rw [← hWd]; exact (Below.refl _ wr).drew
      have hcall := HIH.out k hlt1 hlt Wd (HBk.out Wd (hI.bel.trans (hd.mono hI.bel.size)))
      rw [ha] at ck hcall
      obtain ⟨u, hu⟩ : ∃ u, t.args[k] = u := ⟨_, rfl⟩
      have HU : Hid (t.args.take (k + 1) = t.args.take k ++ [u]) := by show _ = _; rw [List.take_succ_eq_append_getElem hlt, hu]
      rw [hu] at hcall
      obtain ⟨va, vc, rfl⟩ := row_slice hI.row
      have hds := hd.size
      have hyl : W.heap.size + 1 < wr.heap.size := (Array.getElem?_eq_some_iff.1 hI.tb).1
      have hvv : ∀ g', (Value.slice va k vc).ownBlock = some g' → W.heap.size + 1 + 1 ≤ g' := fun g' hg => (row_block hI.row hg).1
      have HX : Hid (∀ Z, Only (ob (.slice va k vc)) Wd Z → Z.heap[W.heap.size + 1]? = some (.cells #[.int .i64 t.v, .string t.fn, .slice va k vc] 24 (0, 0))) := fun Z hZ => by
        rw [hZ.block _ (by omega) (fun hm => by have := hvv _ (mem_ob.1 hm); omega), hd.block _ hyl]; exact hI.tb
      have R0 := row_keep hI.row (W' := Wd) (fun g' hg => by
        obtain ⟨_, cq, hq⟩ := row_block hI.row hg
        exact hd.block g' (Array.getElem?_eq_some_iff.1 hq).1)
      have HD2 : Hid (Below wr.heap.size wr Wd ∧ W.heap.size + 1 + 1 ≤ Wd.heap.size) := ⟨hd, by omega⟩
      have HK16 : Hid (k < t.args.length ∧ t.args.length ≤ 16) := ⟨hlt, h16⟩
      have hHeld : Only (ob (.slice va k vc)) Wd Wd := Only.refl _ _
      obtain ⟨i0, hi0, hiz⟩ := Option.map_eq_some_iff.1 info24
      simp only [Prod.mk.injEq] at hiz
      obtain ⟨hz0, hz1, hz2⟩ := hiz
      clear hI hd hvv hds hyl ha hu
      go_wp2
      refine wp_region_last 8 (S := fun Z => Only (ob (.slice va k vc)) Wd Z) (by kernel_rfl) ?_
      rw [hWd]
      refine wpLast_take 0 (.pointer (some ⟨W.heap.size + 1, 2, none⟩)) rfl (by kernel_rfl) (by kernel_rfl) (by kernel_rfl) (by kernel_rfl) (fun _ _ _ h => h) (Or.inl ⟨by rfl, fun Z hZ => by go_simp⟩) (by assumption) ?_
      try simp only [Act.put, List.setIfInBounds_toArray, List.set_cons_zero, List.set_cons_succ]
      refine wpLast_take 1 (.slice va k vc) rfl (by kernel_rfl) (by kernel_rfl) (by kernel_rfl) (by kernel_rfl) (fun _ _ _ h => h) (Or.inl ⟨by rfl, fun Z hZ => by have y3 := cell_at (HX.out Z hZ) (o := 2) rfl; go_simp⟩) (by assumption) ?_
      try simp only [Act.put, List.setIfInBounds_toArray, List.set_cons_zero, List.set_cons_succ]
      refine wpLast_take 2 (.pointer (some ⟨Ba, 0, none⟩)) rfl (by kernel_rfl) (by kernel_rfl) (by kernel_rfl) (by kernel_rfl) (fun _ _ _ h => h) (Or.inl ⟨by rfl, fun Z hZ => by go_simp⟩) (by assumption) ?_
      try simp only [Act.put, List.setIfInBounds_toArray, List.set_cons_zero, List.set_cons_succ]
      refine wpLast_take 3 (.int .i64 a) rfl (by kernel_rfl) (by kernel_rfl) (by kernel_rfl) (by kernel_rfl) (fun _ _ _ h => h) (Or.inl ⟨by rfl, fun Z hZ => by go_simp⟩) (by assumption) ?_
      try simp only [Act.put, List.setIfInBounds_toArray, List.set_cons_zero, List.set_cons_succ]
      refine wpLast_one (i := 4) (o := ⟨_, _, _, _, _, _⟩) (by kernel_rfl) rfl (fun KK hK => ?_)
      rw [if_pos (by rfl)]
      go_simp
      refine hcall.mono ?_
      rintro e' W5 ⟨ua, uc, rfl, hu5, b5⟩
      have S5 : Only (ob (.slice va k vc)) Wd W5 := Only.of_below b5
      refine hK.out _ _ (fun _ => S5) ?_
      clear hK KK
      try simp only [Act.put, List.setIfInBounds_toArray, List.set_cons_zero, List.set_cons_succ]
      refine wpLast_one (i := 5) (o := ⟨_, _, _, _, _, _⟩) (by kernel_rfl) rfl (fun KK hK => ?_)
      rw [if_pos (by rfl)]
      go_simp
      obtain ⟨W6, hW6⟩ : ∃ X, W5.alloc (.cells #[.int .i64 u.v, .string u.fn, .slice ua u.args.length uc] 24) = X := ⟨_, rfl⟩
      have b6 : Below W5.heap.size W5 W6 := by rw [← hW6]; exact below_box _ _
      have n6 : W6.heap[W5.heap.size]? = some (.cells #[.int .i64 u.v, .string u.fn, .slice ua u.args.length uc] 24 (0, 0)) := by rw [← hW6]; exact (MapKept.heap_alloc _ _).1
      have S6 : Only (ob (.slice va k vc)) Wd W6 := S5.trans (Only.of_below (B := []) b6) (by simp)
      have R6 := row_keep R0 (W' := W6) (fun g' hg => by
        obtain ⟨_, cq, hq⟩ := row_block R0 hg
        have hl := (Array.getElem?_eq_some_iff.1 hq).1
        rw [b6.block g' (by have := b5.size; omega), b5.block g' hl])
      try rw [hW6]
      refine hK.out _ _ (fun _ => S6) ?_
      clear hK KK
      try simp only [Act.put, List.setIfInBounds_toArray, List.set_cons_zero, List.set_cons_succ]
      refine wpLast_one (i := 6) (o := ⟨_, _, _, _, _, _⟩) (by kernel_rfl) rfl (fun KK hK => ?_)
      have hK16 := HK16.out
      have hd2 := HD2.out.2
      have h5s := b5.size
      have h6s := b6.size
      refine step_append_own W6 rfl (.tmp 36) (.tmp 40) 22 rfl (W.heap.size + 1 + 1) 24 i0 _ 3 48 Try.underlying22 hi0 hz0 hz1 hz2 rfl (by decide) (.slice va k vc) k (flat ps) rfl R6 ⟨W5.heap.size, 0, none⟩ 1 1 [.int .i64 u.v, .string u.fn, .slice ua u.args.length uc] rfl rfl (fun j u' hj => by rw [Addr.add_mid, Nat.zero_add]; exact cell_at n6 (by simpa using hj)) (by intro u' hu'; simp only [List.mem_cons, List.not_mem_nil, or_false] at hu'; rcases hu' with rfl | rfl | rfl <;> rfl) (by unfold maxLen; omega) (by omega) (by omega) ?_
      intro v7 W7 hrow7 hg7 hb7
      have S7 : Only (ob (.slice va k vc)) Wd W7 := S6.trans (Only.of_grown (B := ob (.slice va k vc)) hg7 (fun r hr => mem_ob.2 hr)) (fun r hr => .inl hr)
      refine hK.out _ _ (fun _ => S7) ?_
      clear hK KK
      try simp only [Act.put, List.setIfInBounds_toArray, List.set_cons_zero, List.set_cons_succ]
      refine wpLast_take 7 (.pointer (some ⟨W.heap.size + 1, 2, none⟩)) rfl (by kernel_rfl) (by kernel_rfl) (by kernel_rfl) (by kernel_rfl) (fun _ _ _ h => h) (Or.inl ⟨by rfl, fun Z hZ => by go_simp⟩) (by assumption) ?_
      try simp only [Act.put, List.setIfInBounds_toArray, List.set_cons_zero, List.set_cons_succ]
      obtain ⟨a7, c7, rfl⟩ := row_slice hrow7
      have HNx : Hid (BlI W t.v t.fn (k + 1) (.slice a7 (k + 1) c7) (ps ++ [(u, .slice ua u.args.length uc)]) (W7.setCell ⟨W.heap.size + 1, 2, none⟩ (.slice a7 (k + 1) c7)) ∧ (ps ++ [(u, Value.slice ua u.args.length uc)]).map (·.1) = t.args.take (k + 1)) :=
        ⟨BlI.next (bl := .cells #[.int .i64 u.v, .string u.fn, .slice ua u.args.length uc] 24) HI.out.1 HD2.out.1 hu5 b5 hrow7 (by rw [hW6]; exact hg7) (by rw [hW6]; exact hb7), by rw [List.map_append, HI.out.2, HU.out]; rfl⟩
      have z0 := HX.out W7 S7
      have y0 : W7.cell? ⟨W.heap.size + 1, 2, none⟩ = some (.slice va k vc) := cell_at z0 rfl
      have y1 : W7.frozen? ⟨W.heap.size + 1, 2, none⟩ = false := by simp [World.frozen?, z0]
      clear hrow7 hg7 hb7 S7 S6 S5 R6 R0 hu5 b5 b6 n6 hW6 hcall h5s h6s hd2 hHeld hK16 z0
      refine wpLast_one (i := 8) (o := ⟨_, _, _, _, _, _⟩) (by kernel_rfl) rfl (fun KK hK => ?_)
      rw [if_pos (by rfl)]
      go_simp
      refine hK.out _ _ (fun h => absurd h (by omega)) ?_
      clear hK KK
      refine wpLast_done (by kernel_rfl) ?_ _
      try simp only [Act.put]
      have hw1 : wrap64 ((k : Int) + 1) = (k : Int) + 1 := by have := HK16.out; unfold wrap64; omega
      go_wp2
      go_roundw
      case rel => exact ⟨k + 1, HK16.out.1, by first | (rw [hw1, Int.natCast_add]; rfl) | go_num, _, _, HNx⟩
      case measure => first | (rw [hw1]; exact meas_lt _ _ HK16.out.1) | exact meas_lt _ _ HK16.out.1
    · have hke : k = t.args.length := by omega
      have hkI : ¬ (k : Int) < (t.args.length : Int) := by omega
      have hI := HI.out.1
      obtain ⟨va, vc, rfl⟩ := row_slice hI.row
      obtain ⟨⟨d0, d1, d2⟩, e0, e1, e2⟩ := box_facts hI.rb
      obtain ⟨⟨g0, g1, g2⟩, f0, f1, f2⟩ := box_facts hI.tb
      have hl := hI.last
      have hps : ps.map (·.1) = t.args := by rw [HI.out.2, hke, List.take_length]
      rw [hps] at hl
      subst hke
      have HE : Hid (BuP t W (.returned (tval t (.slice va t.args.length vc))) (set3 wr W.heap.size 0 (.int .i64 t.v) (.string t.fn) (.slice va t.args.length vc))) := ⟨va, vc, rfl, hl.1, hl.2⟩
      clear hI HI hl hps
      go_wp2
      refine bodyPost_ret (v := tval t (.slice va t.args.length vc)) (by simp [results, Try.results56, go_sem, *]) rfl ?_
      exact HE.out

end Go.Proofs.Ytbbfpllffcfmhaa
