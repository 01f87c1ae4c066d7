/-
  Laying a term.
-/
import Derived.Test.YtiklbkkimmgbcaaHF
namespace Go.Proofs.Ytiklbkkimmgbcaa
open Go.RowKit

theorem Try.info101q : (Try.prog.info? 101).map (fun i => (i.zero, i.size, i.bytes)) = some (some (.agg #[.int .i64 0, .string ⟨#[]⟩, .slice none 0 0, .int .i64 0]), 4, 56) := by kernel_rfl

def LayAt (W0 : World) (t : T) : Prop := ∀ (W : World) (B base : Nat) (v : Value) (L : List (Nd × Value)) (s : Value), t.shape = true → LayS W0 W B base v L → ArgsAt W0 s t.args → (L.length : Int) + t.size ≤ 1048576 → Calls Try.prog 49 #[.pointer (some ⟨B, 0, none⟩), tval t s] W (LayP W0 W B base v L t)

theorem T.size_pos (t : T) : 0 < t.size := by
  induction t using T.ind with
  | _ t ih =>
    rw [T.size_eq]
    have : ∀ (m : List T), (∀ a ∈ m, 0 < a.size) → 0 ≤ (m.map T.size).sum := by
      intro m
      induction m with
      | nil => intro _; simp
      | cons a r ih2 =>
        intro h
        have h1 := h a (by simp)
        have h2 := ih2 (fun x hx => h x (by simp [hx]))
        simp only [List.map_cons, List.sum_cons]
        omega
    have := this t.args ih
    omega

theorem upto_le (l : List T) (k : Nat) : upto T.size l k ≤ (l.map T.size).sum := by
  have hp : ∀ (m : List T), 0 ≤ (m.map T.size).sum := by
    intro m
    induction m with
    | nil => simp
    | cons a r ih =>
      have := T.size_pos a
      simp only [List.map_cons, List.sum_cons]
      omega
  have h : (l.map T.size).sum = ((l.take k).map T.size).sum + ((l.drop k).map T.size).sum := by
    rw [← List.sum_append, ← List.map_append, List.take_append_drop]
  have := hp (l.drop k)
  unfold upto
  omega

theorem upto_lt (l : List T) (k : Nat) (hk : k < l.length) : upto T.size l k + l[k].size ≤ (l.map T.size).sum := by
  rw [← upto_succ _ _ _ hk]
  exact upto_le l (k + 1)

set_option maxRecDepth 100000 in
set_option maxHeartbeats 16000000 in
theorem lay_fn (W0 : World) (t : T) (ih : ∀ a ∈ t.args, LayAt W0 a) (h0 : t.fn.size ≠ 0) : LayAt W0 t := by
  intro W B base v L s hsh hS ha hsz
  have hdd : t.fn.toList.isEmpty = false := by rw [ba_isEmpty]; exact decide_eq_false h0
  rw [T.shape_eq, if_neg h0] at hsh
  simp only [Bool.and_eq_true, decide_eq_true_eq, List.all_eq_true] at hsh
  obtain ⟨⟨hx16, h16⟩, hshs⟩ := hsh
  have H16 : Hid (t.args.length ≤ 16) := h16
  have HSh : Hid (∀ a ∈ t.args, a.shape = true) := hshs
  have HSz : Hid ((L.length : Int) + t.size ≤ 1048576) := hsz
  have HIH : Hid (∀ a ∈ t.args, LayAt W0 a) := ih
  have HAA : Hid (ArgsAt W0 s t.args) := ha
  have HB : Hid (B < W.heap.size) := (Array.getElem?_eq_some_iff.1 hS.box).1
  have HV : Hid (∀ g, v.ownBlock = some g → g < W.heap.size) := fun g hg => (hS.vlt hg).2
  have HW0 : Hid (W0.heap.size ≤ W.heap.size) := hS.bel.size
  obtain ⟨sa, sc, rfl, _, _⟩ := ha.slice
  obtain ⟨W1, h1⟩ : ∃ X, W.alloc (.cells #[.int .i64 t.v, .string t.fn, .slice sa t.args.length sc] 24) = X := ⟨_, rfl⟩
  have b1 : Below W.heap.size W W1 := by rw [← h1]; exact below_box _ _
  have s1 : W1.heap.size = W.heap.size + 1 := by rw [← h1]; simp
  have tb1 : W1.heap[W.heap.size]? = some (.cells #[.int .i64 t.v, .string t.fn, .slice sa t.args.length sc] 24 (0, 0)) := by rw [← h1]; exact (MapKept.heap_alloc _ _).1
  have t1 : W1.cell? ⟨W.heap.size, 0, none⟩ = some (.int .i64 t.v) := cell_at tb1 rfl
  have t2 : W1.cell? ⟨W.heap.size, 1, none⟩ = some (.string t.fn) := cell_at tb1 rfl
  obtain ⟨W3, h3⟩ : ∃ X, W1.alloc (.cells #[.int .i64 t.v, .string t.fn, .slice none 0 0, .int .i64 0] 101) = X := ⟨_, rfl⟩
  have b3 : Below W1.heap.size W1 W3 := by rw [← h3]; exact below_box _ _
  have nb3 : W3.heap[W.heap.size + 1]? = some (.cells #[.int .i64 t.v, .string t.fn, .slice none 0 0, .int .i64 0] 101 (0, 0)) := by rw [← h3, ← s1]; exact (MapKept.heap_alloc _ _).1
  have tb3 := (b3.block _ (by omega)).trans tb1
  have hb3 : Below W.heap.size W W3 := b1.trans (b3.mono (by omega))
  have H0 : Hid (LayI W0 W W3 B base v L t (.slice sa t.args.length sc) 0 v [] (.slice none 0 0) [] W3) := LayI.start hS hb3 tb3 nb3
  have H3 : Hid (Below W.heap.size W W3) := hb3
  have H3s : Hid (W3.heap.size = W.heap.size + 2) := by show _ = _; rw [← h3]; simp [s1]
  have HS1 : Hid (W1.heap.size = W.heap.size + 1) := s1
  have HE1 : Hid (W.alloc (.cells #[.int .i64 t.v, .string t.fn, .slice sa t.args.length sc] 24) = W1) := h1
  have HE3 : Hid (W1.alloc (.cells #[.int .i64 t.v, .string t.fn, .slice none 0 0, .int .i64 0] 101) = W3) := h3
  clear hS ha hsz h0 ih h16 hshs hx16 b1 b3 hb3 tb3 nb3 tb1 h1 h3 t1 t2 s1
  go_enter Try.func49, Try.ntmps49
  go_wp2
  rw [HE1.out, HE3.out]
  clear HE1 HE3 HS1
  go_loopw [7] (fun vi wr => ∃ k : Nat, vi = .int .i64 k ∧ k ≤ t.args.length ∧ ∃ v' L2 vv ks, Hid (LayI W0 W W3 B base v L t (.slice sa t.args.length sc) k v' L2 vv ks wr)) (fun vi _ => t.args.length - (intOf vi).toNat)
  case atStart => exact ⟨0, rfl, Nat.zero_le _, _, _, _, _, H0⟩
  case round =>
    obtain ⟨k, rfl, hk, v', L2, vv, ks, HI⟩ := hrel
    have x2 : wr.cell? ⟨W.heap.size, 2, none⟩ = some (.slice sa t.args.length sc) := cell_at HI.out.tb rfl
    by_cases hlt : k < t.args.length
    · have hkI : (k : Int) < (t.args.length : Int) := by omega
      have hk0 : (0 : Int) ≤ (k : Int) := by omega
      have hlt' := hlt
      obtain ⟨b, o, sq, e1, hbl, c0, c1, c2, hsq⟩ := HAA.out.nth hlt
      cases e1
      obtain ⟨Wd, hWd⟩ : ∃ X, wr.drew = X := ⟨_, rfl⟩
      have hd : Below wr.heap.size wr Wd := by rw [← hWd]; exact (Below.refl _ wr).drew
      have hI := HI.out
      have sd : LayS W0 Wd B base v' (L ++ L2) := hI.st.keep hd
      have hbnd : ((L ++ L2).length : Int) + (t.args[k]).size ≤ 1048576 := by
        have h1 := hI.len
        have h2 := upto_lt t.args k hlt
        have h3 := HSz.out
        rw [T.size_eq] at h3
        simp only [List.length_append]
        omega
      have hcall := HIH.out t.args[k] (List.getElem_mem hlt) Wd B base v' (L ++ L2) sq (HSh.out _ (List.getElem_mem hlt)) sd hsq hbnd
      have hvn := hI.vne HV.out
      have hvv := hI.vvne
      have hbd := hd.size
      have hsz := hI.sizes
      have HX : Hid (∀ Z, Only (B :: (ob v' ++ ob vv)) Wd Z → Z.cell? ⟨W.heap.size + 1, 2, none⟩ = some vv ∧ Z.frozen? ⟨W.heap.size + 1, 2, none⟩ = false ∧ Z.cell? ⟨W.heap.size, 2, none⟩ = some (.slice (some ⟨b, o, none⟩) t.args.length sc) ∧ Z.cell? ⟨b, o + k * 3, none⟩ = some (.int .i64 t.args[k].v) ∧ Z.cell? ⟨b, o + k * 3 + 1, none⟩ = some (.string t.args[k].fn) ∧ Z.cell? ⟨b, o + k * 3 + 2, none⟩ = some sq) := fun Z hZ => by
        have hB := HB.out
        have hbw : Below W0.heap.size W0 Wd := sd.bel
        have hor := sd.ord
        have m1 : W.heap.size + 1 ∉ B :: (ob v' ++ ob vv) := fun hm => by
          simp only [List.mem_cons, List.mem_append, mem_ob] at hm
          rcases hm with e | e | e
          · omega
          · exact hvn.2 e
          · have := hvv _ e; omega
        have m0 : W.heap.size ∉ B :: (ob v' ++ ob vv) := fun hm => by
          simp only [List.mem_cons, List.mem_append, mem_ob] at hm
          rcases hm with e | e | e
          · omega
          · exact hvn.1 e
          · have := hvv _ e; omega
        have mb : b ∉ B :: (ob v' ++ ob vv) := fun hm => by
          simp only [List.mem_cons, List.mem_append, mem_ob] at hm
          rcases hm with e | e | e
          · omega
          · have := (hI.st.vlt e).1; omega
          · have := hvv _ e; have := HW0.out; omega
        have nb := (hZ.block _ (by omega) m1).trans ((hd.block _ (by omega)).trans hI.nb)
        have tb := (hZ.block _ (by omega) m0).trans ((hd.block _ (by omega)).trans hI.tb)
        have hbs := hbw.size
        refine ⟨cell_at nb rfl, by simp [World.frozen?, nb], cell_at tb rfl, ko hZ (by omega) mb (kc hbw hbl c0), ko hZ (by omega) mb (kc hbw hbl c1), ko hZ (by omega) mb (kc hbw hbl c2)⟩
      have HD : Hid (Below wr.heap.size wr Wd) := hd
      obtain ⟨qa, qc, rfl, _, _⟩ := hsq.slice
      obtain ⟨q, hq⟩ : ∃ q, t.args[k] = q := ⟨_, rfl⟩
      have HQ : Hid (t.args[k]'hlt' = q) := hq
      simp only [hq] at hcall HX
      obtain ⟨va, vc, rfl⟩ := row_slice hI.row
      have hHeld : Only (B :: (ob v' ++ ob (.slice va k vc))) Wd Wd := Only.refl _ _
      obtain ⟨i0, hi0, hz0, hz1, hz2⟩ := info_parts Try.info3q
      have HNE : Hid (W.heap.size + 2 ≤ wr.heap.size ∧ wr.heap.size ≤ Wd.heap.size ∧ B < W.heap.size) := ⟨hsz, hbd, HB.out⟩
      have HK16 : Hid (k < t.args.length ∧ t.args.length ≤ 16) := ⟨hlt', H16.out⟩
      clear c0 c1 c2 hsq hbnd sd hd hvn hvv hbd hsz hI hbl hq
      go_wp2
      refine wp_region_last 12 (S := fun Z => Only (B :: (ob v' ++ ob (.slice va k vc))) Wd Z) (by kernel_rfl) ?_
      rw [hWd]
      refine wpLast_take 0 (.pointer (some ⟨W.heap.size + 1, 2, none⟩)) rfl (by kernel_rfl) (by kernel_rfl) (by kernel_rfl) (by kernel_rfl) (fun _ _ _ h => h) (Or.inl ⟨by rfl, fun Z hZ => by go_simp⟩) (by assumption) ?_
      try simp only [Act.put, List.setIfInBounds_toArray, List.set_cons_zero, List.set_cons_succ]
      refine wpLast_take 1 (.slice va k vc) rfl (by kernel_rfl) (by kernel_rfl) (by kernel_rfl) (by kernel_rfl) (fun _ _ _ h => h) (Or.inl ⟨by rfl, fun Z hZ => by obtain ⟨y0, _, y1, y2, y3, y4⟩ := HX.out Z hZ; go_simp⟩) (by assumption) ?_
      try simp only [Act.put, List.setIfInBounds_toArray, List.set_cons_zero, List.set_cons_succ]
      refine wpLast_take 2 (.pointer (some ⟨B, 0, none⟩)) rfl (by kernel_rfl) (by kernel_rfl) (by kernel_rfl) (by kernel_rfl) (fun _ _ _ h => h) (Or.inl ⟨by rfl, fun Z hZ => by go_simp⟩) (by assumption) ?_
      try simp only [Act.put, List.setIfInBounds_toArray, List.set_cons_zero, List.set_cons_succ]
      refine wpLast_take 3 (.pointer (some ⟨W.heap.size, 2, none⟩)) rfl (by kernel_rfl) (by kernel_rfl) (by kernel_rfl) (by kernel_rfl) (fun _ _ _ h => h) (Or.inl ⟨by rfl, fun Z hZ => by go_simp⟩) (by assumption) ?_
      try simp only [Act.put, List.setIfInBounds_toArray, List.set_cons_zero, List.set_cons_succ]
      refine wpLast_take 4 (.slice (some ⟨b, o, none⟩) t.args.length sc) rfl (by kernel_rfl) (by kernel_rfl) (by kernel_rfl) (by kernel_rfl) (fun _ _ _ h => h) (Or.inl ⟨by rfl, fun Z hZ => by obtain ⟨y0, _, y1, y2, y3, y4⟩ := HX.out Z hZ; go_simp⟩) (by assumption) ?_
      try simp only [Act.put, List.setIfInBounds_toArray, List.set_cons_zero, List.set_cons_succ]
      refine wpLast_take 5 (.int .i64 (k : Nat)) rfl (by kernel_rfl) (by kernel_rfl) (by kernel_rfl) (by kernel_rfl) (fun _ _ _ h => h) (Or.inl ⟨by rfl, fun Z hZ => by go_simp⟩) (by assumption) ?_
      try simp only [Act.put, List.setIfInBounds_toArray, List.set_cons_zero, List.set_cons_succ]
      refine wpLast_take 6 (.pointer (some ⟨b, o + k * 3, none⟩)) rfl (by kernel_rfl) (by kernel_rfl) (by kernel_rfl) (by kernel_rfl) (fun _ _ _ h => h) (Or.inl ⟨by rfl, fun Z hZ => by go_simp⟩) (by assumption) ?_
      try simp only [Act.put, List.setIfInBounds_toArray, List.set_cons_zero, List.set_cons_succ]
      refine wpLast_take 7 (tval q (.slice qa q.args.length qc)) rfl (by kernel_rfl) (by kernel_rfl) (by kernel_rfl) (by kernel_rfl) (fun _ _ _ h => h) (Or.inl ⟨by rfl, fun Z hZ => by obtain ⟨y0, _, y1, y2, y3, y4⟩ := HX.out Z hZ; go_simp⟩) (by assumption) ?_
      try simp only [Act.put, List.setIfInBounds_toArray, List.set_cons_zero, List.set_cons_succ]
      refine wpLast_one (i := 8) (o := ⟨_, _, _, _, _, _⟩) (by kernel_rfl) rfl (fun KK hK => ?_)
      rw [if_pos (by rfl)]
      go_simp
      refine hcall.mono ?_
      rintro e W5 ⟨i, v5, L5, rfl, hp5, hf5, hr5, hi5, hl5, hn5⟩
      have S5 : Only (B :: (ob v' ++ ob (.slice va k vc))) Wd W5 := (Only.refl _ _).trans hf5.only (fun r hr => .inl (by
        rcases List.mem_cons.1 hr with e | hm
        · simp [e]
        · simp [hm]))
      refine hK.out _ _ (fun _ => S5) ?_
      clear hK KK
      try simp only [Act.put, List.setIfInBounds_toArray, List.set_cons_zero, List.set_cons_succ]
      refine wpLast_one (i := 9) (o := ⟨_, _, _, _, _, _⟩) (by kernel_rfl) rfl (fun KK hK => ?_)
      rw [if_pos (by rfl)]
      go_simp
      obtain ⟨W6, hW6⟩ : ∃ X, W5.alloc (.cells #[.int .i64 (i : Nat)] 3) = X := ⟨_, rfl⟩
      have b6 : Below W5.heap.size W5 W6 := by rw [← hW6]; exact below_box _ _
      have S6 : Only (B :: (ob v' ++ ob (.slice va k vc))) Wd W6 := S5.trans (Only.of_below (B := []) b6) (by simp)
      have c6 : ∀ j u, [Value.int .i64 (i : Nat)][j]? = some u → W6.cell? ((⟨W5.heap.size, 0, none⟩ : Addr).add j) = some u := by rw [← hW6]; exact cell_one_new _ _ _
      rw [hW6]
      refine hK.out _ _ (fun _ => S6) ?_
      clear hK KK
      try simp only [Act.put, List.setIfInBounds_toArray, List.set_cons_zero, List.set_cons_succ]
      have R6 : W6.ownsRow (W.heap.size + 2) 3 1 (.slice va k vc) k (ks.map fun n => .int .i64 (n : Nat)) := by
        obtain ⟨_, _, r5⟩ := HI.out.after HB.out HV.out (v5 := v5) ⟨(Only.of_below (B := B :: ob v') HD.out).trans hf5.only (fun r hr => .inl hr), by
          rcases hf5.blk with e | ⟨g, e, hg⟩
          · exact .inl e
          · exact .inr ⟨g, e, by have := HD.out.size; omega⟩⟩
        exact row_keep r5 (fun g hg => by
          obtain ⟨_, cq, hq⟩ := row_block r5 hg
          exact b6.block g (Array.getElem?_eq_some_iff.1 hq).1)
      have h5s := hf5.only.size
      have h6s := b6.size
      refine wpLast_one (i := 10) (o := ⟨_, _, _, _, _, _⟩) (by kernel_rfl) rfl (fun KK hK => ?_)
      have hK16 := HK16.out
      have hne := HNE.out
      refine step_append_own W6 rfl (.tmp 56) (.tmp 64) 50 rfl (W.heap.size + 2) 3 i0 _ 1 8 Try.underlying50 hi0 hz0 hz1 hz2 rfl (by decide) (.slice va k vc) k (ks.map fun n => .int .i64 (n : Nat)) rfl R6 ⟨W5.heap.size, 0, none⟩ 1 1 [.int .i64 (i : Nat)] rfl rfl c6 (by intro u hu; obtain rfl := List.mem_singleton.1 hu; rfl) (by unfold maxLen; omega) (by omega) (by omega) ?_
      intro v7 W7 hrow7 hg7 hb7
      have S7 : Only (B :: (ob v' ++ ob (.slice va k vc))) Wd W7 := S6.trans (Only.of_grown (B := ob (.slice va k vc)) hg7 (fun r hr => mem_ob.2 hr)) (fun r hr => .inl (by simp [hr]))
      refine hK.out _ _ (fun _ => S7) ?_
      clear hK KK
      try simp only [Act.put, List.setIfInBounds_toArray, List.set_cons_zero, List.set_cons_succ]
      refine wpLast_take 11 (.pointer (some ⟨W.heap.size + 1, 2, none⟩)) rfl (by kernel_rfl) (by kernel_rfl) (by kernel_rfl) (by kernel_rfl) (fun _ _ _ h => h) (Or.inl ⟨by rfl, fun Z hZ => by go_simp⟩) (by assumption) ?_
      try simp only [Act.put, List.setIfInBounds_toArray, List.set_cons_zero, List.set_cons_succ]
      obtain ⟨a7, c7, rfl⟩ := row_slice hrow7
      have HN : Hid (LayI W0 W W3 B base v L t (.slice (some ⟨b, o, none⟩) t.args.length sc) (k + 1) v5 (L2 ++ L5) (.slice a7 (k + 1) c7) (ks ++ [i]) (W7.setCell ⟨W.heap.size + 1, 2, none⟩ (.slice a7 (k + 1) c7))) :=
        LayI.next (bl := .cells #[.int .i64 (i : Nat)] 3) HI.out HK16.out.1 HB.out HV.out H3s.out HW0.out HD.out hp5 hf5 (by rw [HQ.out]; exact hr5) hi5 (by rw [HQ.out]; exact hl5) hn5 hrow7 (by rw [hW6]; exact hg7) (by rw [hW6]; exact hb7)
      obtain ⟨z0, z1, _⟩ := HX.out W7 S7
      clear hrow7 hg7 hb7 S7 S6 S5 c6 R6 hp5 hf5 hr5 hi5 hl5 hn5 b6 hW6 hcall h5s h6s hne hHeld hK16
      refine wpLast_one (i := 12) (o := ⟨_, _, _, _, _, _⟩) (by kernel_rfl) rfl (fun KK hK => ?_)
      rw [if_pos (by rfl)]
      go_simp
      refine hK.out _ _ (fun h => absurd h (by omega)) ?_
      clear hK KK
      refine wpLast_done (by kernel_rfl) ?_ _
      try simp only [Act.put]
      go_wp2
      go_roundw
      case rel => exact ⟨k + 1, by have := HK16.out; go_num, HK16.out.1, _, _, _, _, HN⟩
      case measure => have := HK16.out; simp [intOf]; omega
    · have hkI : ¬ (k : Int) < (t.args.length : Int) := by omega
      have hke : k = t.args.length := by omega
      have hI := HI.out
      obtain ⟨va, vc, rfl⟩ := row_slice hI.row
      obtain ⟨la, lc, rfl⟩ := row_slice hI.st.row
      have hB := HB.out
      have hvn := hI.vne HV.out
      have hsz := hI.sizes
      have hor := hI.st.ord
      obtain ⟨N, hN⟩ : ∃ n, (L ++ L2).length = n := ⟨_, rfl⟩
      have cb : wr.cell? ⟨B, 0, none⟩ = some (.slice la N lc) := by have := hI.st.box; rw [hN] at this; exact cell_at this rfl
      have fb : wr.frozen? ⟨B, 0, none⟩ = false := by simp [World.frozen?, hI.st.box]
      have cn : wr.cell? ⟨W.heap.size + 1, 3, none⟩ = some (.int .i64 0) := cell_at hI.nb rfl
      have fn : wr.frozen? ⟨W.heap.size + 1, 3, none⟩ = false := by simp [World.frozen?, hI.nb]
      obtain ⟨Wx, hWx⟩ : ∃ X, wr.setCell ⟨W.heap.size + 1, 3, none⟩ (.int .i64 (N : Nat)) = X := ⟨_, rfl⟩
      have nx : Wx.heap[W.heap.size + 1]? = some (.cells #[.int .i64 t.v, .string t.fn, .slice va k vc, .int .i64 (N : Nat)] 101 (0, 0)) := by
        rw [← hWx, heap_setCell_same wr (W.heap.size + 1) 3 _ 101 _ hI.nb]
        rfl
      have ox : Only [W.heap.size + 1] wr Wx := by rw [← hWx]; exact only_setCell _ _ _ _
      obtain ⟨Wd, hWd⟩ : ∃ X, Wx.drew = X := ⟨_, rfl⟩
      have hd : Below Wx.heap.size Wx Wd := by rw [← hWd]; exact (Below.refl _ Wx).drew
      have od : Only [W.heap.size + 1] wr Wd := ox.trans (Only.of_below (B := []) hd) (by simp)
      have ods := od.size
      have oxs := ox.size
      have vlt : ∀ g, (Value.slice la (L ++ L2).length lc).ownBlock = some g → base ≤ g ∧ g < wr.heap.size := fun g hg => hI.st.vlt hg
      rw [hN] at vlt hvn
      have nd : Wd.heap[W.heap.size + 1]? = some (.cells #[.int .i64 t.v, .string t.fn, .slice va k vc, .int .i64 (N : Nat)] 101 (0, 0)) := (hd.block _ (by omega)).trans nx
      have bd : Wd.heap[B]? = some (.cells #[.slice la N lc] 93 (0, 0)) := by rw [od.block _ (by omega) (by simp; omega)]; have := hI.st.box; rw [hN] at this; exact this
      have HX : Hid (∀ Z, Only (ob (.slice la N lc)) Wd Z → Z.heap[B]? = some (.cells #[.slice la N lc] 93 (0, 0)) ∧ Z.heap[W.heap.size + 1]? = some (.cells #[.int .i64 t.v, .string t.fn, .slice va k vc, .int .i64 (N : Nat)] 101 (0, 0))) := fun Z hZ => by
        refine ⟨(hZ.block _ (by omega) (fun hm => ?_)).trans bd, (hZ.block _ (by omega) (fun hm => ?_)).trans nd⟩
        · have := (vlt _ (mem_ob.1 hm)).1; omega
        · exact hvn.2 (mem_ob.1 hm)
      have RD : Wd.ownsRow base 101 4 (.slice la N lc) N (flN (L ++ L2) 0) := by
        have := hI.st.row
        rw [hN] at this
        exact row_keep this (fun g hg => od.block g (vlt g hg).2 (by simp; intro e; exact hvn.2 (e ▸ hg)))
      have HNb : Hid (N ≤ 1048576) := by
        have h1 := hI.len
        have h2 := upto_le t.args k
        have h3 := HSz.out
        rw [T.size_eq] at h3
        rw [List.length_append] at hN
        show N ≤ _
        omega
      have HNE : Hid (base ≤ Wd.heap.size ∧ W.heap.size + 1 ≠ B) := ⟨by omega, by omega⟩
      have HL : Hid (∀ (W7 : World) (v7 : Value) (bl : Obj), W7.ownsRow base 101 4 v7 (N + 1) (flN (L ++ L2) 0 ++ ncs t.v t.fn (.slice va k vc) N) → (Wd.alloc bl).grownBy W7 (Value.slice la N lc).ownBlock → (v7.ownBlock = (Value.slice la N lc).ownBlock ∨ v7.ownBlock = some (Wd.alloc bl).heap.size) → LayP W0 W B base v L t (.returned (.int .i64 (N : Nat))) (W7.setCell ⟨B, 0, none⟩ v7)) := fun W7 v7 bl q1 q2 q3 => by
        have := LayI.last (bl := bl) (v7 := v7) (W7 := W7) hI H16.out hke HB.out HV.out H3.out H3s.out HW0.out od
        rw [hN] at this
        exact this q1 q2 q3
      have hHeld : Only (ob (.slice la N lc)) Wd Wd := Only.refl _ _
      obtain ⟨i0, hi0, hz0, hz1, hz2⟩ := info_parts Try.info101q
      clear hI hvn hsz hor nx ox hd od ods oxs vlt nd bd HI hN hke
      go_wp2
      try rw [hWx]
      refine wp_region_last 10 (S := fun Z => Only (ob (.slice la N lc)) Wd Z) (by kernel_rfl) ?_
      rw [hWd]
      refine wpLast_take 0 (.pointer (some ⟨B, 0, none⟩)) rfl (by kernel_rfl) (by kernel_rfl) (by kernel_rfl) (by kernel_rfl) (fun _ _ _ h => h) (Or.inl ⟨by rfl, fun Z hZ => by go_simp⟩) (by assumption) ?_
      try simp only [Act.put, List.setIfInBounds_toArray, List.set_cons_zero, List.set_cons_succ]
      refine wpLast_take 1 (.pointer (some ⟨B, 0, none⟩)) rfl (by kernel_rfl) (by kernel_rfl) (by kernel_rfl) (by kernel_rfl) (fun _ _ _ h => h) (Or.inl ⟨by rfl, fun Z hZ => by go_simp⟩) (by assumption) ?_
      try simp only [Act.put, List.setIfInBounds_toArray, List.set_cons_zero, List.set_cons_succ]
      refine wpLast_take 2 (.pointer (some ⟨B, 0, none⟩)) rfl (by kernel_rfl) (by kernel_rfl) (by kernel_rfl) (by kernel_rfl) (fun _ _ _ h => h) (Or.inl ⟨by rfl, fun Z hZ => by go_simp⟩) (by assumption) ?_
      try simp only [Act.put, List.setIfInBounds_toArray, List.set_cons_zero, List.set_cons_succ]
      refine wpLast_take 3 (.pointer (some ⟨B, 0, none⟩)) rfl (by kernel_rfl) (by kernel_rfl) (by kernel_rfl) (by kernel_rfl) (fun _ _ _ h => h) (Or.inl ⟨by rfl, fun Z hZ => by go_simp⟩) (by assumption) ?_
      try simp only [Act.put, List.setIfInBounds_toArray, List.set_cons_zero, List.set_cons_succ]
      refine wpLast_take 4 (.slice la N lc) rfl (by kernel_rfl) (by kernel_rfl) (by kernel_rfl) (by kernel_rfl) (fun _ _ _ h => h) (Or.inl ⟨by rfl, fun Z hZ => by obtain ⟨y0, _⟩ := HX.out Z hZ; have y1 := cell_at y0 (o := 0) rfl; go_simp⟩) (by assumption) ?_
      try simp only [Act.put, List.setIfInBounds_toArray, List.set_cons_zero, List.set_cons_succ]
      refine wpLast_take 5 (nval t.v t.fn (.slice va k vc) N) rfl (by kernel_rfl) (by kernel_rfl) (by kernel_rfl) (by kernel_rfl) (fun _ _ _ h => h) (Or.inl ⟨by rfl, fun Z hZ => by obtain ⟨_, y0⟩ := HX.out Z hZ; have y1 := cell_at y0 (o := 0) rfl; have y2 := cell_at y0 (o := 1) rfl; have y3 := cell_at y0 (o := 2) rfl; have y4 := cell_at y0 (o := 3) rfl; go_simp⟩) (by assumption) ?_
      try simp only [Act.put, List.setIfInBounds_toArray, List.set_cons_zero, List.set_cons_succ]
      refine wpLast_one (i := 6) (o := ⟨_, _, _, _, _, _⟩) (by kernel_rfl) rfl (fun KK hK => ?_)
      rw [if_pos (by rfl)]
      go_simp
      obtain ⟨W6, hW6⟩ : ∃ X, Wd.alloc (.cells #[.int .i64 t.v, .string t.fn, .slice va k vc, .int .i64 (N : Nat)] 101) = X := ⟨_, rfl⟩
      have b6 : Below Wd.heap.size Wd W6 := by rw [← hW6]; exact below_box _ _
      have n6 : W6.heap[Wd.heap.size]? = some (.cells #[.int .i64 t.v, .string t.fn, .slice va k vc, .int .i64 (N : Nat)] 101 (0, 0)) := by rw [← hW6]; exact (MapKept.heap_alloc _ _).1
      have S6 : Only (ob (.slice la N lc)) Wd W6 := Only.of_below b6
      have R6 := row_keep RD (W' := W6) (fun g hg => by
        obtain ⟨_, cq, hq⟩ := row_block RD hg
        exact b6.block g (Array.getElem?_eq_some_iff.1 hq).1)
      rw [hW6]
      refine hK.out _ _ (fun _ => S6) ?_
      clear hK KK
      try simp only [Act.put, List.setIfInBounds_toArray, List.set_cons_zero, List.set_cons_succ]
      refine wpLast_one (i := 7) (o := ⟨_, _, _, _, _, _⟩) (by kernel_rfl) rfl (fun KK hK => ?_)
      have hne := HNE.out
      have hnb := HNb.out
      have h6s := b6.size
      refine step_append_own W6 rfl (.tmp 77) (.tmp 79) 91 rfl base 101 i0 _ 4 56 Try.underlying91 hi0 hz0 hz1 hz2 rfl (by decide) (.slice la N lc) N (flN (L ++ L2) 0) rfl R6 ⟨Wd.heap.size, 0, none⟩ 1 1 (ncs t.v t.fn (.slice va k vc) N) rfl rfl (fun j u hj => by rw [Addr.add_mid, Nat.zero_add]; exact cell_at n6 (by simpa [ncs] using hj)) (ones4 _ _ _ _ _ _) (by unfold maxLen; omega) (by omega) (by omega) ?_
      intro v7 W7 hrow7 hg7 hb7
      have S7 : Only (ob (.slice la N lc)) Wd W7 := S6.trans (Only.of_grown (B := ob (.slice la N lc)) hg7 (fun r hr => mem_ob.2 hr)) (fun r hr => .inl hr)
      refine hK.out _ _ (fun _ => S7) ?_
      clear hK KK
      try simp only [Act.put, List.setIfInBounds_toArray, List.set_cons_zero, List.set_cons_succ]
      refine wpLast_take 8 (.pointer (some ⟨B, 0, none⟩)) rfl (by kernel_rfl) (by kernel_rfl) (by kernel_rfl) (by kernel_rfl) (fun _ _ _ h => h) (Or.inl ⟨by rfl, fun Z hZ => by go_simp⟩) (by assumption) ?_
      try simp only [Act.put, List.setIfInBounds_toArray, List.set_cons_zero, List.set_cons_succ]
      refine wpLast_take 9 (.pointer (some ⟨B, 0, none⟩)) rfl (by kernel_rfl) (by kernel_rfl) (by kernel_rfl) (by kernel_rfl) (fun _ _ _ h => h) (Or.inl ⟨by rfl, fun Z hZ => by go_simp⟩) (by assumption) ?_
      try simp only [Act.put, List.setIfInBounds_toArray, List.set_cons_zero, List.set_cons_succ]
      obtain ⟨a7, c7, rfl⟩ := row_slice hrow7
      have HF : Hid (LayP W0 W B base v L t (.returned (.int .i64 (N : Nat))) (W7.setCell ⟨B, 0, none⟩ (.slice a7 (N + 1) c7))) := HL.out W7 _ _ hrow7 (by rw [hW6]; exact hg7) (by rw [hW6]; exact hb7)
      obtain ⟨z0, z1⟩ := HX.out W7 S7
      have y0 : W7.cell? ⟨B, 0, none⟩ = some (.slice la N lc) := cell_at z0 rfl
      have y1 : W7.frozen? ⟨B, 0, none⟩ = false := by simp [World.frozen?, z0]
      have y2 : (W7.setCell ⟨B, 0, none⟩ (.slice a7 (N + 1) c7)).cell? ⟨W.heap.size + 1, 3, none⟩ = some (.int .i64 (N : Nat)) := by
        refine cell_at (b := W.heap.size + 1) (o := 3) (l := #[.int .i64 t.v, .string t.fn, .slice va k vc, .int .i64 (N : Nat)]) ((Below.heap_setCell _ _ _ _ ?_).trans z1) rfl
        exact HNE.out.2
      clear hrow7 hg7 hb7 S7 S6 R6 RD b6 n6 hW6 z0 z1 hne h6s hHeld
      refine wpLast_one (i := 10) (o := ⟨_, _, _, _, _, _⟩) (by kernel_rfl) rfl (fun KK hK => ?_)
      rw [if_pos (by rfl)]
      go_simp
      obtain ⟨We, hWe⟩ : ∃ X, W7.setCell ⟨B, 0, none⟩ (.slice a7 (N + 1) c7) = X := ⟨_, rfl⟩
      rw [hWe] at y2 HF ⊢
      refine hK.out _ _ (fun h => absurd h (by omega)) ?_
      clear hK KK hWe
      refine wpLast_done (by kernel_rfl) ?_ _
      try simp only [Act.put]
      go_wp2
      refine bodyPost_ret (v := .int .i64 (N : Nat)) (by simp [results, Try.results49, go_sem]) rfl ?_
      exact HF.out

end Go.Proofs.Ytiklbkkimmgbcaa
