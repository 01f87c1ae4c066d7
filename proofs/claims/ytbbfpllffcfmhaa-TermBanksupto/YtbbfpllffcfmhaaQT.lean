/-
  The document's Make, where the term is right.
-/
import Derived.Test.YtbbfpllffcfmhaaQS
import Derived.Deep.Cut
namespace Go.Proofs.Ytbbfpllffcfmhaa
open Go.RowKit Go.Maps
open Fq (DMk LeastN)

theorem flat_get3 : ∀ (ps : List (T × Value)) (i : Nat) (h : i < ps.length), (flat ps)[i * 3]? = some (.int .i64 ps[i].1.v) ∧ (flat ps)[i * 3 + 1]? = some (.string ps[i].1.fn) ∧ (flat ps)[i * 3 + 2]? = some ps[i].2
  | [], i, h => absurd h (by simp)
  | a :: r, 0, _ => ⟨rfl, rfl, rfl⟩
  | a :: r, i + 1, h => by
    have ih := flat_get3 r i (by simpa using h)
    have e : ∀ k, (flat (a :: r))[(i + 1) * 3 + k]? = (flat r)[i * 3 + k]? := fun k => by
      rw [show flat (a :: r) = [.int .i64 a.1.v, .string a.1.fn, a.2] ++ flat r from rfl, List.getElem?_append_right (by simp; omega)]
      congr 1
      simp
      omega
    have e0 := e 0
    simp only [Nat.add_zero] at e0
    rw [e0, e 1, e 2]
    simpa using ih

theorem PAt.nth {w0 : World} {base : Nat} {ps : List (T × Value)} {W : World} {g c : Nat} (h : PAt w0 base (.slice (some ⟨g, 0, none⟩) ps.length c) ps W) {i : Nat} (hi : i < ps.length) : W.cell? ⟨g, i * 3, none⟩ = some (.int .i64 ps[i].1.v) ∧ W.cell? ⟨g, i * 3 + 1, none⟩ = some (.string ps[i].1.fn) ∧ W.cell? ⟨g, i * 3 + 2, none⟩ = some ps[i].2 := by
  obtain ⟨f0, f1, f2⟩ := flat_get3 ps i hi
  have look : ∀ j u, (flat ps)[j]? = some u → W.cell? ⟨g, j, none⟩ = some u := fun j u hj => by
    have := h.row.cells rfl j u hj
    have ea : (⟨g, 0, none⟩ : Addr).add j = ⟨g, j, none⟩ := by unfold Addr.add; split <;> simp_all
    rwa [ea] at this
  exact ⟨look _ _ f0, look _ _ f1, look _ _ f2⟩

section
variable {w0 : World} {n0 Bd : Nat} {limit : Int} {ns : List Dn} {lv : Value} {W : World}

set_option maxRecDepth 100000 in
set_option maxHeartbeats 8000000 in
theorem dmake_any (h : DB w0 n0 Bd limit ns lv W) (hw : Below w0.heap.size w0 W) (t : T) (sl : Value) (ha : ArgsAt w0 sl t.args) (hr : t.rightW = 0) (hsz : t.size ≤ 4000) (hl : ns.length ≤ 900000) (hkb : ∀ n ∈ ns, 0 ≤ n.kept ∧ n.kept ≤ 1000000) :
    Calls Try.prog 26 #[.pointer (some ⟨Bd, 0, none⟩), tval t sl] W (MkP w0 n0 Bd limit ns lv t W) := by
  obtain ⟨W1, h1⟩ : ∃ X, W.alloc (tbox t sl) = X := ⟨_, rfl⟩
  have b1 : Below W.heap.size W W1 := by rw [← h1]; exact below_box _ _
  have s1 : W1.heap.size = W.heap.size + 1 := by rw [← h1]; simp
  obtain ⟨x0, x1, x2⟩ := tbox_cells W t sl
  rw [h1] at x0 x1 x2
  have hw1 := hw.trans (b1.mono hw.size)
  have hc := rright_any t sl W1 (ArgsAt.keep hw1 (Nat.le_refl _) ha)
  rw [hr] at hc
  obtain ⟨sa, sc, rfl, _, _⟩ := ha.slice
  obtain ⟨la, lc, rfl⟩ := h.slice
  obtain ⟨N, hN⟩ : ∃ N, ns.length = N := ⟨_, rfl⟩
  rw [hN] at h hl ⊢
  have HB1 : Hid (Below W.heap.size W W1 ∧ W1.heap.size = W.heap.size + 1) := ⟨b1, s1⟩
  have HD : Hid (DB w0 n0 Bd limit ns (.slice la N lc) W) := h
  have HW : Hid (Below w0.heap.size w0 W1 ∧ ArgsAt w0 (.slice sa t.args.length sc) t.args) := ⟨hw1, ha⟩
  have HZ : Hid (t.size ≤ 4000 ∧ N ≤ 900000 ∧ ns.length = N) := ⟨hsz, hl, hN⟩
  have HK : Hid (∀ n ∈ ns, 0 ≤ n.kept ∧ n.kept ≤ 1000000) := hkb
  have HT : Hid (W1.cell? ⟨W.heap.size, 0, none⟩ = some (.int .i64 t.v) ∧ W1.cell? ⟨W.heap.size, 1, none⟩ = some (.string t.fn) ∧ W1.cell? ⟨W.heap.size, 2, none⟩ = some (.slice sa t.args.length sc)) := ⟨x0, x1, x2⟩
  clear ha hr hsz hl hkb h hw hw1 b1 s1 hN
  go_enter Try.func26, Try.ntmps26
  try rw [h1]
  go_wp2_with fail
  try rw [h1]
  refine hc.mono ?_
  rintro e W2 ⟨rfl, b2⟩
  clear hc x0 x1 x2
  have hbx := below_box W2 (.cells #[] 89)
  have bA : Below W1.heap.size W1 (W2.alloc (.cells #[] 89)) := b2.trans (hbx.mono b2.size)
  have DA := HD.out.below (HB1.out.1.trans (bA.mono (HB1.out.1.size)))
  have DAr := DA.row
  rw [HZ.out.2.2] at DAr
  obtain ⟨wv, W3, hrun, hrow3, hg3, _⟩ := run_append_rows5 (W2.alloc (.cells #[] 89)) W2.heap.size n0 53 (.slice (some ⟨W2.heap.size, 0, none⟩) 0 0) (.slice la N lc) 0 N [] (flat5 ns) (row_new5 W2 _ (Nat.le_refl _)) DAr DA.one (by have := HZ.out.2; omega) hbx.size
  rw [Nat.zero_add, List.nil_append] at hrow3
  obtain ⟨wa, wc, rfl⟩ := row_slice hrow3
  have b3 : Below W2.heap.size W2 W3 := grown_below hbx hg3 (fun g hg => by cases hg; exact Nat.le_refl _) hbx.size
  have b23 : Below W1.heap.size W1 W3 := b2.trans (b3.mono b2.size)
  have hN1 := HB1.out.2
  obtain ⟨t0, t1, t2⟩ := HT.out
  have u0 := kc b23 (by omega) t0
  have u1 := kc b23 (by omega) t1
  have u2 := kc b23 (by omega) t2
  have c1 := DA.cells.2
  have hw3 := HW.out.1.trans (b23.mono HW.out.1.size)
  have hpa := dparts_any w0 t (.slice sa t.args.length sc) W3 HW.out.2 hw3 (by have := HZ.out.1; omega)
  have HR3 : Hid (W3.ownsRow W2.heap.size 89 5 (.slice wa N wc) N (flat5 ns) ∧ Below W1.heap.size W1 W3 ∧ W1.heap.size ≤ W2.heap.size ∧ W2.heap.size ≤ W3.heap.size) := ⟨hrow3, b23, b2.size, b3.size⟩
  clear hrow3 hg3 b3 b23 DA DAr bA hbx b2 t0 t1 t2 hw3
  go_wp2_with (at_builtin; refine wpList_append_run rfl _ _ 53 rfl _ _ _ W3 rfl rfl hrun ?_)
  refine hpa.mono ?_
  rintro e W4 ⟨pv, ps, rfl, hP, hm, hb4⟩
  clear hpa hrun c1 u0 u1 u2
  have hp0 : 0 < ps.length ∧ ps.length ≤ 4000 := by
    have h3 := congrArg List.length hm
    rw [List.length_map] at h3
    have := post_len t
    have := HZ.out.1
    have := size_pos t
    omega
  obtain ⟨gp, pc, rfl⟩ := row_some hP.row hp0.1
  have b4 : Below W1.heap.size W1 W4 := HR3.out.2.1.trans (hb4.mono HR3.out.2.1.size)
  have D4 : DB w0 n0 Bd limit ns (.slice la N lc) W4 := HD.out.below (HB1.out.1.trans (b4.mono HB1.out.1.size))
  have HP : Hid (PAt w0 W3.heap.size (.slice (some ⟨gp, 0, none⟩) ps.length pc) ps W4 ∧ ps.map (·.1) = t.post ∧ W3.heap.size ≤ gp ∧ gp < W4.heap.size ∧ ps.length ≤ 4000) := ⟨hP, hm, (row_block hP.row rfl).1, by obtain ⟨_, cq, hq⟩ := row_block hP.row (g := gp) rfl; exact (Array.getElem?_eq_some_iff.1 hq).1, hp0.2⟩
  have H4 : Hid (W4.cell? ⟨W.heap.size, 0, none⟩ = some (.int .i64 t.v) ∧ W4.cell? ⟨W.heap.size, 1, none⟩ = some (.string t.fn) ∧ W4.cell? ⟨W.heap.size, 2, none⟩ = some (.slice sa t.args.length sc)) := ⟨kc b4 (by omega) HT.out.1, kc b4 (by omega) HT.out.2.1, kc b4 (by omega) HT.out.2.2⟩
  have HS : Hid (W.heap.size + 1 = W1.heap.size ∧ W1.heap.size ≤ W2.heap.size ∧ W2.heap.size ≤ W3.heap.size ∧ W3.heap.size ≤ W4.heap.size) := ⟨hN1.symm, HR3.out.2.2.1, HR3.out.2.2.2, hb4.size⟩
  have HW4 : Hid (Below w0.heap.size w0 W4 ∧ Below W.heap.size W W4) := ⟨HW.out.1.trans (b4.mono HW.out.1.size), HB1.out.1.trans (b4.mono HB1.out.1.size)⟩
  have HR4 : Hid (W4.ownsRow W2.heap.size 89 5 (.slice wa N wc) N (flat5 ns)) := row_keep HR3.out.1 (fun g hg => hb4.block g (by obtain ⟨_, cq, hq⟩ := row_block HR3.out.1 hg; exact (Array.getElem?_eq_some_iff.1 hq).1))
  have HL0 : Hid (ML w0 n0 Bd limit ns (.slice la N lc) ps 0 N (.slice la N lc) W4 W4) := ⟨ns, HZ.out.2.2, by rw [List.take_zero]; exact .nil _, D4, fun g hg => .inl hg, Only.refl _ _⟩
  have HLt : Hid (Bd < W.heap.size ∧ (∀ g, (Value.slice la N lc).ownBlock = some g → w0.heap.size ≤ g ∧ g < W.heap.size) ∧ w0.heap.size ≤ Bd ∧ n0 ≤ W.heap.size) := by
    have hq1 := HD.out.lt
    have hq2 := HD.out.low
    have hq3 := HD.out.hn0
    exact ⟨hq1.1, fun g hg => by have := hq1.2 g hg; omega, by omega, by omega⟩
  have HWa : Hid (ArgsAt w0 (.slice sa t.args.length sc) t.args) := HW.out.2
  clear hP hm hb4 b4 D4 hN1 hp0 HT HR3 HB1 HW h1
  go_wp2
  go_loopw [9] (fun vi wr => ∃ (i n : Nat) (va : Option Addr) (vc : Nat), vi = .int .i64 i ∧ i ≤ ps.length ∧ Hid (ML w0 n0 Bd limit ns (.slice la N lc) ps i n (.slice va n vc) W4 wr)) (fun vi _ => ps.length - (intOf vi).toNat)
  case atStart => exact ⟨0, N, la, lc, rfl, Nat.zero_le _, HL0⟩
  case round =>
    obtain ⟨i, n, va, vc, rfl, hi, HI⟩ := hrel
    clear HL0
    obtain ⟨Wo, hWo⟩ : ∃ X, X = wr := ⟨_, rfl⟩
    subst hWo
    obtain ⟨ns1, hn1, hM1, hD1, hv1, hO1⟩ := HI.out
    have hlen := (dmk_len hM1).2
    rw [List.length_take] at hlen
    have HNN : Hid (n ≤ 904000 ∧ ns1.length = n ∧ n0 ≤ W4.heap.size) := ⟨by have := HZ.out.2; have := HP.out.2.2.2.2; omega, hn1, by have := HLt.out.2.2.2; have := HS.out; omega⟩
    have keep : ∀ b, W.heap.size ≤ b → b < W4.heap.size → Wo.heap[b]? = W4.heap[b]? := fun b h1 h2 => hO1.block b h2 (fun hm => by
      rcases List.mem_cons.1 hm with e | e
      · have := HLt.out.1; omega
      · have := HLt.out.2.1 b (mem_ob.1 e); omega)
    have hwr : Below w0.heap.size w0 Wo := HW4.out.1.trans (hO1.below HW4.out.1.size (fun r hr => by
      rcases List.mem_cons.1 hr with e | e
      · have := HLt.out.2.2.1; omega
      · exact (HLt.out.2.1 r (mem_ob.1 e)).1))
    by_cases hlt : i < ps.length
    · have hiI : (i : Int) < (ps.length : Int) := by omega
      have hi0 : (0 : Int) ≤ (i : Int) := by omega
      have hgp := keep gp (by have := HP.out.2.2; have := HS.out; omega) HP.out.2.2.2.1
      obtain ⟨q0, q1, q2⟩ := HP.out.1.nth hlt
      have d0 := (cell_congr hgp (i * 3)).trans q0
      have d1 := (cell_congr hgp (i * 3 + 1)).trans q1
      have d2 := (cell_congr hgp (i * 3 + 2)).trans q2
      have hps := HP.out.1.args ps[i] (List.getElem_mem hlt)
      obtain ⟨ua, uc, hue, _, _⟩ := hps.slice
      have htk := List.take_succ_eq_append_getElem hlt
      obtain ⟨⟨u, us⟩, hu⟩ : ∃ p, ps[i] = p := ⟨_, rfl⟩
      rw [hu] at d0 d1 d2 hps hue htk
      simp only at d0 d1 d2 hps hue
      subst hue
      have HU : Hid (ps.take (i + 1) = ps.take i ++ [(u, .slice ua u.args.length uc)] ∧ ArgsAt w0 (.slice ua u.args.length uc) u.args) := ⟨htk, hps⟩
      have hgl : gp < Wo.heap.size := by have := hO1.size; have := HP.out.2.2.2.1; omega
      have HG : Hid (Wo.cell? ⟨gp, i * 3, none⟩ = some (.int .i64 u.v) ∧ Wo.cell? ⟨gp, i * 3 + 1, none⟩ = some (.string u.fn) ∧ Wo.cell? ⟨gp, i * 3 + 2, none⟩ = some (.slice ua u.args.length uc) ∧ gp < Wo.heap.size) := ⟨d0, d1, d2, hgl⟩
      have hfind := dfind_any hD1 hwr u (.slice ua u.args.length uc) hps (by have := HNN.out; omega)
      have HI1 : Hid (DMk ns (ps.take i) ns1 ∧ DB w0 n0 Bd limit ns1 (.slice va n vc) Wo ∧ (∀ g, (Value.slice va n vc).ownBlock = some g → (Value.slice la N lc).ownBlock = some g ∨ W4.heap.size ≤ g) ∧ Only (Bd :: ob (.slice la N lc)) W4 Wo) := ⟨hM1, hD1, hv1, hO1⟩
      clear hu htk hps q0 q1 q2 hgp keep hwr hlen hM1 hD1 hv1 hO1 hn1 hgl HI
      go_wp2_with fail
      refine hfind.mono ?_
      rintro e W5 ⟨r, rfl, hr, b5⟩
      clear hfind d0 d1 d2
      have hD5 := HI1.out.2.1.below b5
      have hs5 : Wo.heap.size ≤ W5.heap.size := b5.size
      have ho5 : Only (Bd :: ob (.slice la N lc)) W4 W5 := HI1.out.2.2.2.trans (Only.of_below (B := []) b5) (by simp)
      rcases hr with ⟨rfl, hnone⟩ | ⟨k, hk, rfl, hp, _⟩
      · have HN5 : Hid ((∀ m ∈ ns1, m.t ≠ u) ∧ DB w0 n0 Bd limit ns1 (.slice va n vc) W5 ∧ Only (Bd :: ob (.slice la N lc)) W4 W5 ∧ Below Wo.heap.size Wo W5) := ⟨hnone, hD5, ho5, b5⟩
        clear hnone hD5 ho5 b5 hs5
        go_wp2
        go_loopw [10] (fun vd wq => ∃ j : Nat, vd = .int .i64 j ∧ 1 ≤ j ∧ Hid (∀ x : Int, 1 ≤ x → x < j → ∃ m ∈ ns1, m.id = x) ∧ j ≤ n + 1 ∧ wq = W5) (fun vd _ => n + 2 - (intOf vd).toNat)
        case atStart => exact ⟨1, rfl, Nat.le_refl _, fun x h1 h2 => absurd h2 (by omega), by omega, rfl⟩
        case round =>
          obtain ⟨j, rfl, hj1, HJ, hj2, hq⟩ := hrel
          rw [hq]
          clear hq
          have hat := dat_any HN5.out.2.1 (j : Int) (by have := HNN.out; omega)
          go_wp2_with fail
          refine hat.mono ?_
          rintro e W6 ⟨r, rfl, hr2, hW6⟩
          rw [hW6]
          clear hat hW6
          rcases hr2 with ⟨rfl, hno⟩ | ⟨k, hk, rfl, hp, _⟩
          · have HL : LeastN ns1 (j : Nat) := ⟨by omega, fun m hm => hno m hm, fun x h1 h2 => HJ.out x h1 h2⟩
            obtain ⟨Wd, hWd⟩ : ∃ X, W5.drew = X := ⟨_, rfl⟩
            have hd : Below W5.heap.size W5 Wd := by rw [← hWd]; exact (Below.refl _ W5).drew
            have hDd := HN5.out.2.1.below hd
            have R0 : Wd.ownsRow n0 89 5 (.slice va n vc) n (flat5 ns1) := by have := hDd.row; rwa [HNN.out.2.1] at this
            have HX : Hid (∀ Z, Only (ob (.slice va n vc)) Wd Z → Z.cell? ⟨Bd, 1, none⟩ = some (.slice va n vc) ∧ Z.frozen? ⟨Bd, 1, none⟩ = false ∧ Z.cell? ⟨gp, i * 3, none⟩ = some (.int .i64 u.v) ∧ Z.cell? ⟨gp, i * 3 + 1, none⟩ = some (.string u.fn) ∧ Z.cell? ⟨gp, i * 3 + 2, none⟩ = some (.slice ua u.args.length uc)) := fun Z hZ => by
              have e1 : Z.heap[Bd]? = Wd.heap[Bd]? := hZ.block Bd hDd.lt.1 (fun hm => hDd.ne (mem_ob.1 hm))
              have hb : Below Wo.heap.size Wo Wd := HN5.out.2.2.2.trans (hd.mono HN5.out.2.2.2.size)
              have e2 : Z.heap[gp]? = Wo.heap[gp]? := (hZ.block gp (by have := hb.size; have := HG.out.2.2.2; omega) (fun hm => by
                rcases HI1.out.2.2.1 gp (mem_ob.1 hm) with e | e
                · have := HLt.out.2.1 gp e; have := HP.out.2.2; have := HS.out; omega
                · have := HP.out.2.2; omega)).trans (hb.block gp HG.out.2.2.2)
              have e3 := e1.trans hDd.head
              exact ⟨cell_at e3 rfl, by simp [World.frozen?, e3], (cell_congr e2 _).trans HG.out.1, (cell_congr e2 _).trans HG.out.2.1, (cell_congr e2 _).trans HG.out.2.2.1⟩
            have HNew : Hid (∀ (A : World) (v' : Value) (w' : World), Below Wd.heap.size Wd A → w'.ownsRow n0 89 5 v' (n + 1) (flat5 ns1 ++ [.int .i64 (j : Nat), .int .i64 u.v, .string u.fn, .slice ua u.args.length uc, .int .i64 0]) → A.grownBy w' (Value.slice va n vc).ownBlock → (v'.ownBlock = (Value.slice va n vc).ownBlock ∨ v'.ownBlock = some A.heap.size) → ML w0 n0 Bd limit ns (.slice la N lc) ps (i + 1) (n + 1) v' W4 (w'.setCell ⟨Bd, 1, none⟩ v')) := fun A v' w' hA hrw hgr hvb => by
              obtain ⟨s1, s2, s3⟩ := HN5.out.2.1.snoc ⟨(j : Nat), u, .slice ua u.args.length uc, 0⟩ HU.out.2 (hd.trans (hA.mono hd.size)) (by rw [HNN.out.2.1]; exact hrw) hgr hvb
              refine ⟨ns1 ++ [⟨(j : Nat), u, .slice ua u.args.length uc, 0⟩], by simp [HNN.out.2.1], by rw [HU.out.1]; exact HI1.out.1.append (.new HN5.out.1 HL (.nil _)), s1, fun g hg => ?_, HN5.out.2.2.1.trans s3 (fun r hr => ?_)⟩
              · rcases s2 g hg with e | e
                · exact HI1.out.2.2.1 g e
                · exact .inr (by have := HN5.out.2.2.1.size; omega)
              · rcases List.mem_cons.1 hr with e | e
                · exact .inl (by simp [e])
                · rcases HI1.out.2.2.1 r (mem_ob.1 e) with e | e
                  · exact .inl (List.mem_cons_of_mem _ (mem_ob.2 e))
                  · exact .inr e
            have HNN2 : Hid (n ≤ 904000 ∧ n0 ≤ Wd.heap.size ∧ ps.length ≤ 4000) := ⟨HNN.out.1, by have := hd.size; have := HN5.out.2.2.1.size; have := HNN.out.2.2; omega, HP.out.2.2.2.2⟩
            have hHeld : Only (ob (.slice va n vc)) Wd Wd := Only.refl _ _
            obtain ⟨i9, hi9, hz0, hz1, hz2⟩ := info_parts Try.info89
            clear hDd hd hno HJ HL HI1 HG
            go_wp2
            refine wp_region_last 15 (S := fun Z => Only (ob (.slice va n vc)) Wd Z) (by kernel_rfl) ?_
            rw [hWd]
            refine wpLast_take 0 (.pointer (some ⟨Bd, 0, none⟩)) rfl (by kernel_rfl) (by kernel_rfl) (by kernel_rfl) (by kernel_rfl) (fun _ _ _ h => h) (Or.inl ⟨by rfl, fun Z hZ => by go_simp⟩) (by assumption) ?_
            try simp only [Act.put, List.setIfInBounds_toArray, List.set_cons_zero, List.set_cons_succ]
            refine wpLast_take 1 (.pointer (some ⟨Bd, 0, none⟩)) rfl (by kernel_rfl) (by kernel_rfl) (by kernel_rfl) (by kernel_rfl) (fun _ _ _ h => h) (Or.inl ⟨by rfl, fun Z hZ => by go_simp⟩) (by assumption) ?_
            try simp only [Act.put, List.setIfInBounds_toArray, List.set_cons_zero, List.set_cons_succ]
            refine wpLast_take 2 (.pointer (some ⟨Bd, 0, none⟩)) rfl (by kernel_rfl) (by kernel_rfl) (by kernel_rfl) (by kernel_rfl) (fun _ _ _ h => h) (Or.inl ⟨by rfl, fun Z hZ => by go_simp⟩) (by assumption) ?_
            try simp only [Act.put, List.setIfInBounds_toArray, List.set_cons_zero, List.set_cons_succ]
            refine wpLast_take 3 (.pointer (some ⟨Bd, 1, none⟩)) rfl (by kernel_rfl) (by kernel_rfl) (by kernel_rfl) (by kernel_rfl) (fun _ _ _ h => h) (Or.inl ⟨by rfl, fun Z hZ => by go_simp⟩) (by assumption) ?_
            try simp only [Act.put, List.setIfInBounds_toArray, List.set_cons_zero, List.set_cons_succ]
            refine wpLast_take 4 (.slice va n vc) rfl (by kernel_rfl) (by kernel_rfl) (by kernel_rfl) (by kernel_rfl) (fun _ _ _ h => h) (Or.inl ⟨by rfl, fun Z hZ => by obtain ⟨y0, _, y1, y2, y3⟩ := HX.out Z hZ; go_simp⟩) (by assumption) ?_
            try simp only [Act.put, List.setIfInBounds_toArray, List.set_cons_zero, List.set_cons_succ]
            refine wpLast_take 5 (.int .i64 (j : Nat)) rfl (by kernel_rfl) (by kernel_rfl) (by kernel_rfl) (by kernel_rfl) (fun _ _ _ h => h) (Or.inl ⟨by rfl, fun Z hZ => by go_simp⟩) (by assumption) ?_
            try simp only [Act.put, List.setIfInBounds_toArray, List.set_cons_zero, List.set_cons_succ]
            refine wpLast_take 6 (.slice (some ⟨gp, 0, none⟩) ps.length pc) rfl (by kernel_rfl) (by kernel_rfl) (by kernel_rfl) (by kernel_rfl) (fun _ _ _ h => h) (Or.inl ⟨by rfl, fun Z hZ => by go_simp⟩) (by assumption) ?_
            try simp only [Act.put, List.setIfInBounds_toArray, List.set_cons_zero, List.set_cons_succ]
            refine wpLast_take 7 (.int .i64 (i : Nat)) rfl (by kernel_rfl) (by kernel_rfl) (by kernel_rfl) (by kernel_rfl) (fun _ _ _ h => h) (Or.inl ⟨by rfl, fun Z hZ => by go_simp⟩) (by assumption) ?_
            try simp only [Act.put, List.setIfInBounds_toArray, List.set_cons_zero, List.set_cons_succ]
            refine wpLast_take 8 (.pointer (some ⟨gp, i * 3, none⟩)) rfl (by kernel_rfl) (by kernel_rfl) (by kernel_rfl) (by kernel_rfl) (fun _ _ _ h => h) (Or.inl ⟨by rfl, fun Z hZ => by go_simp⟩) (by assumption) ?_
            try simp only [Act.put, List.setIfInBounds_toArray, List.set_cons_zero, List.set_cons_succ]
            refine wpLast_take 9 (tval u (.slice ua u.args.length uc)) rfl (by kernel_rfl) (by kernel_rfl) (by kernel_rfl) (by kernel_rfl) (fun _ _ _ h => h) (Or.inl ⟨by rfl, fun Z hZ => by obtain ⟨y0, _, y1, y2, y3⟩ := HX.out Z hZ; go_simp⟩) (by assumption) ?_
            try simp only [Act.put, List.setIfInBounds_toArray, List.set_cons_zero, List.set_cons_succ]
            refine wpLast_take 10 (.agg #[.int .i64 (j : Nat), .int .i64 u.v, .string u.fn, .slice ua u.args.length uc, .int .i64 0]) rfl (by kernel_rfl) (by kernel_rfl) (by kernel_rfl) (by kernel_rfl) (fun _ _ _ h => h) (Or.inl ⟨by rfl, fun Z hZ => by have hb89 := run_build89 (j : Nat) u.v u.fn (.slice ua u.args.length uc) Z; go_simp⟩) (by assumption) ?_
            try simp only [Act.put, List.setIfInBounds_toArray, List.set_cons_zero, List.set_cons_succ]
            refine wpLast_one (i := 11) (o := ⟨_, _, _, _, _, _⟩) (by kernel_rfl) rfl (fun KK hK => ?_)
            rw [if_pos (by rfl)]
            go_simp
            obtain ⟨W6, hW6⟩ : ∃ X, Wd.alloc (.cells #[.int .i64 (j : Nat), .int .i64 u.v, .string u.fn, .slice ua u.args.length uc, .int .i64 0] 89) = X := ⟨_, rfl⟩
            have b6 : Below Wd.heap.size Wd W6 := by rw [← hW6]; exact below_box _ _
            have n6 : W6.heap[Wd.heap.size]? = some (.cells #[.int .i64 (j : Nat), .int .i64 u.v, .string u.fn, .slice ua u.args.length uc, .int .i64 0] 89 (0, 0)) := by rw [← hW6]; exact (MapKept.heap_alloc _ _).1
            have S6 : Only (ob (.slice va n vc)) Wd W6 := Only.of_below b6
            have R6 := row_keep R0 (W' := W6) (fun g' hg => by
              obtain ⟨_, cq, hq⟩ := row_block R0 hg
              exact b6.block g' (Array.getElem?_eq_some_iff.1 hq).1)
            try rw [hW6]
            refine hK.out _ _ (fun _ => S6) ?_
            clear hK KK
            try simp only [Act.put, List.setIfInBounds_toArray, List.set_cons_zero, List.set_cons_succ]
            refine wpLast_one (i := 12) (o := ⟨_, _, _, _, _, _⟩) (by kernel_rfl) rfl (fun KK hK => ?_)
            have h6s := b6.size
            have hnn := HNN2.out
            refine step_append_own W6 rfl (.tmp 48) (.tmp 55) 53 rfl n0 89 i9 _ 5 64 Try.underlying53 hi9 hz0 hz1 hz2 rfl (by decide) (.slice va n vc) n (flat5 ns1) rfl R6 ⟨Wd.heap.size, 0, none⟩ 1 1 [.int .i64 (j : Nat), .int .i64 u.v, .string u.fn, .slice ua u.args.length uc, .int .i64 0] rfl rfl (fun k' u' hj => by rw [Addr.add_mid, Nat.zero_add]; exact cell_at n6 (by simpa using hj)) (by intro u' hu'; simp only [List.mem_cons, List.not_mem_nil, or_false] at hu'; rcases hu' with rfl | rfl | rfl | rfl | rfl <;> rfl) (by unfold maxLen; omega) (by omega) (by omega) ?_
            intro v7 W7 hrow7 hg7 hb7
            have S7 : Only (ob (.slice va n vc)) Wd W7 := S6.trans (Only.of_grown (B := ob (.slice va n vc)) hg7 (fun r hr => mem_ob.2 hr)) (fun r hr => .inl hr)
            refine hK.out _ _ (fun _ => S7) ?_
            clear hK KK
            try simp only [Act.put, List.setIfInBounds_toArray, List.set_cons_zero, List.set_cons_succ]
            obtain ⟨a7, c7, rfl⟩ := row_slice hrow7
            have HNx : Hid (ML w0 n0 Bd limit ns (.slice la N lc) ps (i + 1) (n + 1) (.slice a7 (n + 1) c7) W4 (W7.setCell ⟨Bd, 1, none⟩ (.slice a7 (n + 1) c7))) := HNew.out W6 (.slice a7 (n + 1) c7) W7 b6 hrow7 hg7 hb7
            refine wpLast_take 13 (.pointer (some ⟨Bd, 0, none⟩)) rfl (by kernel_rfl) (by kernel_rfl) (by kernel_rfl) (by kernel_rfl) (fun _ _ _ h => h) (Or.inl ⟨by rfl, fun Z hZ => by go_simp⟩) (by assumption) ?_
            try simp only [Act.put, List.setIfInBounds_toArray, List.set_cons_zero, List.set_cons_succ]
            refine wpLast_take 14 (.pointer (some ⟨Bd, 1, none⟩)) rfl (by kernel_rfl) (by kernel_rfl) (by kernel_rfl) (by kernel_rfl) (fun _ _ _ h => h) (Or.inl ⟨by rfl, fun Z hZ => by go_simp⟩) (by assumption) ?_
            try simp only [Act.put, List.setIfInBounds_toArray, List.set_cons_zero, List.set_cons_succ]
            obtain ⟨y0, y1, _⟩ := HX.out W7 S7
            clear hrow7 hg7 hb7 S7 S6 R6 R0 b6 n6 hW6 h6s
            refine wpLast_one (i := 15) (o := ⟨_, _, _, _, _, _⟩) (by kernel_rfl) rfl (fun KK hK => ?_)
            rw [if_pos (by rfl)]
            go_simp
            refine hK.out _ _ (fun h => absurd h (by omega)) ?_
            clear hK KK
            refine wpLast_done (by kernel_rfl) ?_ _
            try simp only [Act.put]
            go_wp2
            go_roundw
            case rel => exact ⟨i + 1, n + 1, a7, c7, by go_num, by omega, HNx⟩
            case measure => simp [intOf]; omega
          · have hk0 : (0 : Int) ≤ (k : Int) := by omega
            have HJ2 : Hid (∀ x : Int, 1 ≤ x → x < ((j + 1 : Nat) : Int) → ∃ m ∈ ns1, m.id = x) := fun x h1 h2 => by
              by_cases e : x = j
              · exact ⟨ns1[k], List.getElem_mem hk, by rw [e]; exact hp⟩
              · exact HJ.out x h1 (by omega)
            have hj3 : j ≤ n := by
              have h1 := Fq.pigeon j (ns1.map (·.id)) (fun x h1 h2 => by
                obtain ⟨m, hm, q⟩ := HJ2.out x h1 (by omega)
                exact List.mem_map.2 ⟨m, hm, q⟩)
              rw [List.length_map, HNN.out.2.1] at h1
              exact h1
            have hjn : j ≤ 904000 := by have := HNN.out; omega
            clear HJ hp
            go_wp2
            go_roundw
            case rel => exact ⟨j + 1, by go_num, by omega, HJ2, by omega, by first | rfl | trivial⟩
            case measure => simp [intOf]; omega
      · have hk0 : (0 : Int) ≤ (k : Int) := by omega
        have HE : Hid (ML w0 n0 Bd limit ns (.slice la N lc) ps (i + 1) n (.slice va n vc) W4 W5) :=
          ⟨ns1, HNN.out.2.1, by rw [HU.out.1]; exact HI1.out.1.append (.old ns1[k] (List.getElem_mem hk) hp (.nil _)), hD5, HI1.out.2.2.1, ho5⟩
        have hpl := HP.out.2.2.2.2
        clear hD5 ho5 b5 hp HI1
        go_wp2
        go_roundw
        case rel => exact ⟨i + 1, n, va, vc, by go_num, by omega, HE⟩
        case measure => simp [intOf]; omega
    · have hiI : ¬ (i : Int) < (ps.length : Int) := by omega
      have hie : ps.take i = ps := List.take_of_length_le (by omega)
      rw [hie] at hM1
      obtain ⟨c0, c1⟩ := hD1.cells
      have HI1 : Hid (DMk ns ps ns1 ∧ DB w0 n0 Bd limit ns1 (.slice va n vc) Wo ∧ (∀ g, (Value.slice va n vc).ownBlock = some g → (Value.slice la N lc).ownBlock = some g ∨ W4.heap.size ≤ g) ∧ Only (Bd :: ob (.slice la N lc)) W4 Wo) := ⟨hM1, hD1, hv1, hO1⟩
      clear hM1 hD1 hv1 hO1 hlen hn1 HI hie
      have HKp : Hid ((∀ b, W.heap.size ≤ b → b < W4.heap.size → Wo.heap[b]? = W4.heap[b]?) ∧ Below w0.heap.size w0 Wo) := ⟨keep, hwr⟩
      clear keep hwr
      have HOw : Hid (Only (Bd :: ob (.slice la N lc)) W Wo) := (Only.of_below (B := Bd :: ob (.slice la N lc)) HW4.out.2).trans HI1.out.2.2.2 (fun r hr => .inl hr)
      by_cases hlim : limit < (n : Int)
      · go_wp2
        go_quiet (fail)
        obtain ⟨We, hWe⟩ : ∃ X, Wo.drewN nq = X := ⟨_, rfl⟩
        have be : Below Wo.heap.size Wo We := by rw [← hWe]; exact below_drewN (Below.refl _ _) _
        try simp only [hWe]
        have hDe := HI1.out.2.1.below be
        have z1 := hDe.cells.2
        have z2 : We.frozen? ⟨Bd, 1, none⟩ = false := by have := hDe.head; simp [World.frozen?, this]
        have HE : Hid (MkP w0 n0 Bd limit ns (.slice la N lc) t W (.returned (.tuple #[.int .i64 0, .int .i64 5])) (We.setCell ⟨Bd, 1, none⟩ (.slice wa N wc))) := by
          have hown : ∀ g, (Value.slice wa N wc).ownBlock = some g → W2.heap.size ≤ g ∧ g < W4.heap.size := fun g hg => by
            obtain ⟨h1, cq, hq⟩ := row_block HR4.out hg
            exact ⟨h1, (Array.getElem?_eq_some_iff.1 hq).1⟩
          have hs := HS.out
          have hl := HLt.out
          have hos := HI1.out.2.2.2.size
          refine ⟨ps, ns1, .slice wa N wc, HP.out.2.1, HI1.out.1, fun g hg => .inr (by have := hown g hg; omega), (HOw.out.trans (Only.of_below (B := []) be) (by simp)).trans (Only.of_grown (B := [Bd]) (World.grownBy_setCell_any We Bd 1 _) (fun r e => by cases e; simp)) (fun r hr => .inl (by simp at hr; simp [hr])), .inr ⟨by rw [HNN.out.2.1]; exact hlim, rfl, ⟨set_any (i := 1) hDe.head, ?_, HD.out.args, fun e => by have := hown Bd e; omega, HD.out.low, HD.out.hn0⟩⟩⟩
          rw [HZ.out.2.2]
          exact row_lowB (row_keep HR4.out (fun g hg => by
            have := hown g hg
            rw [Below.heap_setCell _ _ _ g (by show g ≠ Bd; omega), be.block g (by omega)]
            exact HKp.out.1 g (by omega) (by omega))) (by omega)
        clear hDe be hWe c0 c1
        go_wp2
        go_ret2
        exact HE.out
      · go_wp2
        go_quiet (fail)
        obtain ⟨We, hWe⟩ : ∃ X, Wo.drewN nq = X := ⟨_, rfl⟩
        have be : Below Wo.heap.size Wo We := by rw [← hWe]; exact below_drewN (Below.refl _ _) _
        try simp only [hWe]
        have hDe := HI1.out.2.1.below be
        have hs := HS.out
        have hos := HI1.out.2.2.2.size
        have hkW := HKp.out.1 W.heap.size (Nat.le_refl _) (by omega)
        have hkE := (be.block W.heap.size (by omega)).trans hkW
        have y0 := (cell_congr hkE 0).trans H4.out.1
        have y1 := (cell_congr hkE 1).trans H4.out.2.1
        have y2 := (cell_congr hkE 2).trans H4.out.2.2
        have hwe := HKp.out.2.trans (be.mono HKp.out.2.size)
        have hfind := dfind_any hDe hwe t (.slice sa t.args.length sc) HWa.out (by have := HNN.out; omega)
        have HDe := hid hDe
        have HBe := hid be
        clear hDe be hWe c0 c1 hs hos hkW hkE hwe
        go_wp2_with fail
        refine hfind.mono ?_
        rintro e W6 ⟨r, rfl, hr, b6⟩
        clear hfind y0 y1 y2
        obtain ⟨k, hk, rfl, hp⟩ : ∃ k, ∃ hk : k < ns1.length, r = (k : Nat) ∧ ns1[k].t = t := by
          rcases hr with ⟨_, hn⟩ | ⟨k, hk, h1, h2, _⟩
          · obtain ⟨p, hp, hpt⟩ : ∃ p ∈ ps, p.1 = t := by
              have : t ∈ ps.map (·.1) := by rw [HP.out.2.1, T.post_eq]; simp
              obtain ⟨p, h1, h2⟩ := List.mem_map.1 this
              exact ⟨p, h1, h2⟩
            obtain ⟨m, hm, hmt⟩ := HI1.out.1.old_stay.2.1 p hp
            exact absurd (hmt.trans hpt) (hn m hm)
          · exact ⟨k, hk, h1, h2⟩
        clear hr
        have hn1 := HNN.out.2.1
        subst hn1
        have hD6 := HDe.out.below b6
        obtain ⟨g, rfl, hg, q0, _, _, _, q4⟩ := hD6.nth hk
        have hD7 := hD6.put hk (ns1[k].kept + 1)
        have z1 := hD6.cells.2
        have z4 := hD6.froz.2 (k * 5 + 4)
        have hkp : 0 ≤ ns1[k].kept ∧ ns1[k].kept ≤ 1000000 := by
          rcases HI1.out.1.old_stay.2.2 ns1[k] (List.getElem_mem hk) with h1 | ⟨h1, _⟩
          · exact HK.out _ h1
          · omega
        have v1 := hD7.cells.2
        have hk7 : k < (ns1.set k (ns1[k].put (ns1[k].kept + 1))).length := by rw [List.length_set]; exact hk
        obtain ⟨g', e', _, v0, _⟩ := DB.nth (a := some ⟨g, 0, none⟩) (c := vc) (by rw [List.length_set]; exact hD7) hk7
        cases e'
        rw [List.getElem_set_self] at v0
        obtain ⟨W7, hW7⟩ : ∃ X, W6.setCell ⟨g, k * 5 + 4, none⟩ (.int .i64 (ns1[k].kept + 1)) = X := ⟨_, rfl⟩
        have v0 : (W6.setCell ⟨g, k * 5 + 4, none⟩ (.int .i64 (ns1[k].kept + 1))).cell? ⟨g, k * 5, none⟩ = some (.int .i64 ns1[k].id) := v0
        have HE : Hid (MkP w0 n0 Bd limit ns (.slice la N lc) t W (.returned (.tuple #[.int .i64 ns1[k].id, .int .i64 0])) W7) := by
          refine ⟨ps, ns1, .slice (some ⟨g, 0, none⟩) ns1.length vc, HP.out.2.1, HI1.out.1, fun g' hg' => ?_, ?_, .inl ⟨by omega, k, hk, hp, rfl, by rw [← hW7]; exact hD7⟩⟩
          · have hs := HS.out
            rcases HI1.out.2.2.1 g' hg' with e | e
            · exact .inl e
            · exact .inr (by omega)
          · rw [← hW7]
            refine ((HOw.out.trans (Only.of_below (B := []) HBe.out) (by simp)).trans (Only.of_below (B := []) b6) (by simp)).trans (Only.of_grown (B := [g]) (World.grownBy_setCell_any W6 g (k * 5 + 4) _) (fun r e => by cases e; simp)) (fun r hr => ?_)
            have hs := HS.out
            obtain rfl := List.mem_singleton.1 hr
            rcases HI1.out.2.2.1 r rfl with e | e
            · exact .inl (List.mem_cons_of_mem _ (mem_ob.2 e))
            · exact .inr (by omega)
        rw [hW7] at v0 v1
        have hkI : (k : Int) < (ns1.length : Int) := by omega
        have hk0 : (0 : Int) ≤ (k : Int) := by omega
        obtain ⟨kp, hkpe⟩ : ∃ z, ns1[k].kept = z := ⟨_, rfl⟩
        obtain ⟨id, hide⟩ : ∃ z, ns1[k].id = z := ⟨_, rfl⟩
        rw [hkpe] at q4 hkp hW7
        rw [hide] at v0 HE
        have hwk : wrap64 (kp + 1) = kp + 1 := by unfold wrap64; omega
        clear hD6 hD7 hkpe hide q0 b6 hp HI1 HDe
        go_upto_region 19 with fail
        try rw [hwk]
        try rw [hW7]
        go_wp2
        go_ret2
        exact HE.out

end

end Go.Proofs.Ytbbfpllffcfmhaa
