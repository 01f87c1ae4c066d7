/-
  heap.Push onto the free numbers.
-/
import Derived.Test.YtbbfpllffcfmhaaWI
import Derived.Test.YtbbfpllffcfmhaaWW
namespace Go.Proofs.Ytbbfpllffcfmhaa
open Go.RowKit Go.Maps

theorem Try.info3q : (Try.prog.info? 3).map (fun i => (i.zero, i.size, i.bytes)) = some (some (.int .i64 0), 1, 8) := by kernel_rfl

theorem assert3 (id : Int) (w : World) : (Instr.typeAssert (.iface 3 (.int .i64 id)) 20 3 false).run Try.prog w = .ok (.int .i64 id) w := by kernel_rfl

set_option maxRecDepth 100000 in
set_option maxHeartbeats 4000000 in
theorem fpush_any {Ba : Nat} {lim : Int} {bn br n0 : Nat} {fv : Value} {free : List Int} (W : World) (hh : W.heap[Ba]? = some (.cells [Value.int .i64 lim, .map (some bn), .map (some br), fv].toArray 76 (0, 0))) (hr : W.ownsRow n0 3 1 fv free.length (free.map fun x => Value.int .i64 x)) (hne : fv.ownBlock ≠ some Ba) (hn0 : n0 ≤ W.heap.size) (hlen : free.length ≤ 1073741824) (id : Int) :
    Calls Try.prog 113 #[.pointer (some ⟨Ba, 3, none⟩), .iface 3 (.int .i64 id)] W fun e W' => e = .returned (.tuple #[]) ∧ ∃ g c, Fb W' Ba lim bn br n0 g c (free ++ [id]) ∧ Only (Ba :: fv.ownBlock.toList) W W' ∧ (fv.ownBlock = some g ∨ W.heap.size ≤ g) := by
  obtain ⟨a, c, rfl⟩ := row_slice hr
  have hBa := (Array.getElem?_eq_some_iff.1 hh).1
  obtain ⟨Wd, hWd⟩ : ∃ X, W.drew = X := ⟨_, rfl⟩
  have hd : Below W.heap.size W Wd := by rw [← hWd]; exact (Below.refl _ W).drew
  have HX : Hid (∀ Z, Only (Value.slice a free.length c).ownBlock.toList Wd Z → Z.heap[Ba]? = some (.cells [Value.int .i64 lim, .map (some bn), .map (some br), .slice a free.length c].toArray 76 (0, 0))) := fun Z hZ => by
    rw [hZ.block Ba (Nat.lt_of_lt_of_le hBa hd.size) (fun hm => hne (by simpa using hm)), hd.block Ba hBa]
    exact hh
  have R0 : Wd.ownsRow n0 3 1 (.slice a free.length c) free.length (free.map fun x => Value.int .i64 x) := row_keep hr (fun g hg => hd.block g (hr.lt g (by simp [hg])).2)
  obtain ⟨i0, hi0, hiz⟩ := Option.map_eq_some_iff.1 Try.info3q
  simp only [Prod.mk.injEq] at hiz
  obtain ⟨hz0, hz1, hz2⟩ := hiz
  have HD : Hid (Below W.heap.size W Wd ∧ W.heap.size ≤ Wd.heap.size) := ⟨hd, hd.size⟩
  have hHeld : Only (Value.slice a free.length c).ownBlock.toList Wd Wd := Only.refl _ _
  clear hd hh
  go_enter Try.func113, Try.ntmps113
  go_wp2
  refine wp_region_last 9 (S := fun Z => Only (Value.slice a free.length c).ownBlock.toList Wd Z) (by kernel_rfl) ?_
  rw [hWd]
  refine wpLast_take 0 (.pointer (some ⟨Ba, 3, none⟩)) rfl (by kernel_rfl) (by kernel_rfl) (by kernel_rfl) (by kernel_rfl) (fun _ _ _ h => h) (Or.inl ⟨by rfl, fun Z hZ => by go_simp⟩) (by assumption) ?_
  try simp only [Act.put, List.setIfInBounds_toArray, List.set_cons_zero, List.set_cons_succ]
  refine wpLast_take 1 (.pointer (some ⟨Ba, 3, none⟩)) rfl (by kernel_rfl) (by kernel_rfl) (by kernel_rfl) (by kernel_rfl) (fun _ _ _ h => h) (Or.inl ⟨by rfl, fun Z hZ => by go_simp⟩) (by assumption) ?_
  try simp only [Act.put, List.setIfInBounds_toArray, List.set_cons_zero, List.set_cons_succ]
  refine wpLast_take 2 (.pointer (some ⟨Ba, 3, none⟩)) rfl (by kernel_rfl) (by kernel_rfl) (by kernel_rfl) (by kernel_rfl) (fun _ _ _ h => h) (Or.inl ⟨by rfl, fun Z hZ => by go_simp⟩) (by assumption) ?_
  try simp only [Act.put, List.setIfInBounds_toArray, List.set_cons_zero, List.set_cons_succ]
  refine wpLast_take 3 (.slice a free.length c) rfl (by kernel_rfl) (by kernel_rfl) (by kernel_rfl) (by kernel_rfl) (fun _ _ _ h => h) (Or.inl ⟨by rfl, fun Z hZ => by have y0 : Z.cell? ⟨Ba, 3, none⟩ = some (.slice a free.length c) := by { rw [cell_of_row _ _ _ _ 76 (0, 0) (HX.out Z hZ)]; rfl }; go_simp⟩) (by assumption) ?_
  try simp only [Act.put, List.setIfInBounds_toArray, List.set_cons_zero, List.set_cons_succ]
  refine wpLast_take 4 (.iface 3 (.int .i64 id)) rfl (by kernel_rfl) (by kernel_rfl) (by kernel_rfl) (by kernel_rfl) (fun _ _ _ h => h) (Or.inl ⟨by rfl, fun Z hZ => by go_simp⟩) (by assumption) ?_
  try simp only [Act.put, List.setIfInBounds_toArray, List.set_cons_zero, List.set_cons_succ]
  refine wpLast_take 5 (.int .i64 id) rfl (by kernel_rfl) (by kernel_rfl) (by kernel_rfl) (by kernel_rfl) (fun _ _ _ h => h) (Or.inl ⟨by rfl, fun Z hZ => by have ya := assert3 id Z; go_simp⟩) (by assumption) ?_
  try simp only [Act.put, List.setIfInBounds_toArray, List.set_cons_zero, List.set_cons_succ]
  refine wpLast_one (i := 6) (o := ⟨_, _, _, _, _, _⟩) (by kernel_rfl) rfl (fun KK hK => ?_)
  rw [if_pos (by rfl)]
  go_simp
  obtain ⟨W6, hW6⟩ : ∃ X, Wd.alloc (.cells #[.int .i64 id] 3) = X := ⟨_, rfl⟩
  have b6 : Below Wd.heap.size Wd W6 := by rw [← hW6]; exact below_box _ _
  have S6 : Only (Value.slice a free.length c).ownBlock.toList Wd W6 := Only.of_below b6
  have c6 : ∀ j u, [Value.int .i64 id][j]? = some u → W6.cell? ((⟨Wd.heap.size, 0, none⟩ : Addr).add j) = some u := fun j u hj => by
    rw [← hW6, Addr.add_mid, Nat.zero_add, cell_of_row _ _ _ _ 3 (0, 0) (MapKept.heap_alloc Wd _).1]
    simpa using hj
  try rw [hW6]
  refine hK.out _ _ (fun _ => S6) ?_
  clear hK KK
  try simp only [Act.put, List.setIfInBounds_toArray, List.set_cons_zero, List.set_cons_succ]
  have R6 : W6.ownsRow n0 3 1 (.slice a free.length c) free.length (free.map fun x => Value.int .i64 x) := row_keep R0 (fun g hg => b6.block g (R0.lt g (by simp [hg])).2)
  have h6s := b6.size
  have hds := HD.out.2
  refine wpLast_one (i := 7) (o := ⟨_, _, _, _, _, _⟩) (by kernel_rfl) rfl (fun KK hK => ?_)
  refine step_append_own W6 rfl (.tmp 7) (.tmp 10) 74 rfl n0 3 i0 _ 1 8 Try.underlying74 hi0 hz0 hz1 hz2 rfl (by decide) (.slice a free.length c) free.length (free.map fun x => Value.int .i64 x) rfl R6 ⟨Wd.heap.size, 0, none⟩ 1 1 [.int .i64 id] rfl rfl c6 (by intro u hu; obtain rfl := List.mem_singleton.1 hu; rfl) (by unfold maxLen; omega) (by omega) (by omega) ?_
  intro v7 W7 hrow7 hg7 hb7
  have S7 : Only (Value.slice a free.length c).ownBlock.toList Wd W7 := S6.trans (Only.of_grown (B := (Value.slice a free.length c).ownBlock.toList) hg7 (fun r hr => by simpa using hr)) (fun r hr => .inl hr)
  refine hK.out _ _ (fun _ => S7) ?_
  clear hK KK
  try simp only [Act.put, List.setIfInBounds_toArray, List.set_cons_zero, List.set_cons_succ]
  refine wpLast_take 8 (.pointer (some ⟨Ba, 3, none⟩)) rfl (by kernel_rfl) (by kernel_rfl) (by kernel_rfl) (by kernel_rfl) (fun _ _ _ h => h) (Or.inl ⟨by rfl, fun Z hZ => by go_simp⟩) (by assumption) ?_
  try simp only [Act.put, List.setIfInBounds_toArray, List.set_cons_zero, List.set_cons_succ]
  have hrow7' : W7.ownsRow n0 3 1 v7 (free ++ [id]).length ((free ++ [id]).map fun x => Value.int .i64 x) := by simpa using hrow7
  obtain ⟨g, cc, rfl, hRw⟩ := Rw.of_row hrow7' (by simp)
  have hgne : g ≠ Ba := fun e => by
    rcases hb7 with e7 | e7
    · exact hne (by rw [← e7, ← e]; rfl)
    · have : g = W6.heap.size := by simpa [Value.ownBlock] using e7
      omega
  have hx7 := HX.out W7 S7
  have y0 : W7.cell? ⟨Ba, 3, none⟩ = some (.slice a free.length c) := by rw [cell_of_row _ _ _ _ 76 (0, 0) hx7]; rfl
  have y1 : W7.frozen? ⟨Ba, 3, none⟩ = false := by simp [World.frozen?, hx7]
  have HF : Hid (Fb (W7.setCell ⟨Ba, 3, none⟩ (.slice (some ⟨g, 0, none⟩) (free ++ [id]).length cc)) Ba lim bn br n0 g cc (free ++ [id]) ∧ Only (Ba :: (Value.slice a free.length c).ownBlock.toList) W (W7.setCell ⟨Ba, 3, none⟩ (.slice (some ⟨g, 0, none⟩) (free ++ [id]).length cc)) ∧ ((Value.slice a free.length c).ownBlock = some g ∨ W.heap.size ≤ g)) := by
    refine ⟨⟨?_, hRw.keep (Below.heap_setCell _ _ _ _ (by show g ≠ Ba; exact hgne)), hgne⟩, ?_, ?_⟩
    · rw [set_any hx7]
      rfl
    · exact ((Only.of_below (B := Ba :: (Value.slice a free.length c).ownBlock.toList) HD.out.1).trans S7 (fun r hr => .inl (List.mem_cons_of_mem _ hr))).trans (Only.of_grown (B := [Ba]) (World.grownBy_setCell_any W7 Ba 3 _) (fun r e => by cases e; simp)) (fun r hr => .inl (by simp at hr; simp [hr]))
    · rcases hb7 with e7 | e7
      · exact .inl (by rw [← e7]; rfl)
      · have : g = W6.heap.size := by simpa [Value.ownBlock] using e7
        exact .inr (by omega)
  clear hrow7 hrow7' hg7 hb7 S7 S6 R6 R0 b6 c6 hW6 hx7 hRw hgne h6s hds hHeld HX HD hr
  refine wpLast_one (i := 9) (o := ⟨_, _, _, _, _, _⟩) (by kernel_rfl) rfl (fun KK hK => ?_)
  rw [if_pos (by rfl)]
  go_simp
  refine hK.out _ _ (fun h => absurd h (by omega)) ?_
  clear hK KK
  refine wpLast_done (by kernel_rfl) ?_ _
  try simp only [Act.put]
  refine bodyPost_end (results_none rfl _ _ _) rfl ?_
  refine ⟨rfl, g, cc, ?_⟩
  have := HF.out
  simpa using this

set_option maxRecDepth 100000 in
set_option maxHeartbeats 4000000 in
/-- heap.Push: the number is among the free ones. -/
theorem hpush_any {Ba : Nat} {lim : Int} {bn br n0 : Nat} {fv : Value} {free : List Int} (W : World) (hh : W.heap[Ba]? = some (.cells [Value.int .i64 lim, .map (some bn), .map (some br), fv].toArray 76 (0, 0))) (hr : W.ownsRow n0 3 1 fv free.length (free.map fun x => Value.int .i64 x)) (hne : fv.ownBlock ≠ some Ba) (hn0 : n0 ≤ W.heap.size) (hlen : free.length ≤ 1000000) (id : Int) :
    Calls Try.prog 69 #[.iface 101 (.pointer (some ⟨Ba, 3, none⟩)), .iface 3 (.int .i64 id)] W fun e W' => e = .returned (.tuple #[]) ∧ ∃ g c l, Fb W' Ba lim bn br n0 g c l ∧ l.length = free.length + 1 ∧ Only (Ba :: fv.ownBlock.toList) W W' ∧ (fv.ownBlock = some g ∨ W.heap.size ≤ g) := by
  have hp := fpush_any W hh hr hne hn0 (by omega) id
  have hm := met_push ⟨Ba, 3, none⟩ W
  clear hh hr
  go_enter Try.func69, Try.ntmps69
  go_wp2_with fail
  refine hp.mono ?_
  rintro e W1 ⟨rfl, g, c, hF, hO, hg⟩
  obtain ⟨l, hl⟩ : ∃ l, free ++ [id] = l := ⟨_, rfl⟩
  rw [hl] at hF
  obtain ⟨k, hk⟩ : ∃ k, k + 1 = l.length := ⟨free.length, by rw [← hl]; simp⟩
  have HK : Hid (l.length = free.length + 1) := by show _ = _; rw [← hl]; simp
  obtain ⟨c3, _⟩ := hF.cell
  rw [← hk] at c3
  have hm2 := met_len c3
  have hlen2 := flen_any (some ⟨g, 0, none⟩) (k + 1) c W1
  have hup := up_any W1 l hF hk.symm k (by omega) (by have := HK.out; omega)
  have HO : Hid (Only (Ba :: fv.ownBlock.toList) W W1 ∧ (fv.ownBlock = some g ∨ W.heap.size ≤ g)) := ⟨hO, hg⟩
  have HN : Hid (k + 1 = l.length) := hk
  obtain ⟨m, hmm⟩ : ∃ m : Int, ((k + 1 : Nat) : Int) = m := ⟨_, rfl⟩
  have hw : wrap64 (m - 1) = (k : Int) := by have := HK.out; unfold wrap64; omega
  rw [hmm] at hlen2
  clear hmm
  clear hp hm hF hO hg hl hk
  go_wp2_with fail
  refine hlen2.mono ?_
  rintro e W2 ⟨rfl, rfl⟩
  clear hlen2 hm2 c3
  go_wp2_with fail
  refine hup.mono ?_
  rintro e W3 ⟨rfl, ⟨l', h1, h2⟩, o3⟩
  go_wp2
  refine bodyPost_end (results_none rfl _ _ _) rfl ?_
  refine ⟨rfl, g, c, l', h2, by have := HN.out; have := HK.out; omega, HO.out.1.trans o3 (fun r hr => ?_), HO.out.2⟩
  obtain rfl := List.mem_singleton.1 hr
  rcases HO.out.2 with e | e
  · exact .inl (by simp [e])
  · exact .inr e

end Go.Proofs.Ytbbfpllffcfmhaa
