import Derived.Test.YtglphfhlpobgcaaGreatVT
namespace Go.Proofs.YtglphfhlpobgcaaGreat
set_option maxRecDepth 100000
set_option maxHeartbeats 2000000
open Go.RowKit Go.Maps
theorem Tryz.info3f : (Tryz.prog.info? 3).map (fun i => (i.zero, i.size, i.bytes)) = some (some (.int .i64 0), 1, 8) := by kernel_rfl
theorem Tryz.info28f : (Tryz.prog.info? 30).map (fun i => (i.zero, i.size, i.bytes)) = some (some (.agg #[.int .i64 0, .string ⟨#[]⟩, .slice none 0 0]), 3, 48) := by kernel_rfl
theorem Tryz.info23f : (Tryz.prog.info? 23).map (fun i => (i.zero, i.size, i.bytes)) = some (some (.slice none 0 0), 1, 24) := by kernel_rfl
theorem len_sizs (l : List T) : l.length <= sizs l := by
 induction l with
 | nil => simp [sizs]
 | cons a r ih =>
  have := size_pos a
  simp only [sizs, List.map_cons, List.sum_cons, List.length_cons] at *
  omega
theorem lay_one (w0 : World) (pb : Nat) (t : T) (ih : ∀ a ∈ t.args, LayOk w0 pb a) : LayOk w0 pb t := by
 intro sl ps os vl vo W hL ha hw hln
 obtain ⟨a, c, rfl, hc, hm⟩ := ha.slice
 obtain ⟨i3, hi3, hz3a, hz3b, hz3c⟩ := info_parts Tryz.info3f
 obtain ⟨i28, hi28, hz28a, hz28b, hz28c⟩ := info_parts Tryz.info28f
 obtain ⟨i23, hi23, hz23a, hz23b, hz23c⟩ := info_parts Tryz.info23f
 obtain ⟨W0, hW0⟩ : ∃ X, W.alloc (tbox t (.slice a t.args.length c)) = X := ⟨_, rfl⟩
 have hb0 : Below W.heap.size W W0 := by rw [<- hW0]; exact below_box W _
 obtain ⟨x0, x1, x2⟩ := tbox_cells W t (.slice a t.args.length c)
 rw [hW0] at x0 x1 x2
 have htb : W0.heap[W.heap.size]? = some (.cells #[.int .i64 t.v, .string t.fn, .slice a t.args.length c] 30 (0, 0)) := by
  have := (MapKept.heap_alloc W (tbox t (.slice a t.args.length c))).1
  rw [hW0] at this
  exact this
 have HV : Hid (Lw w0 pb ps os vl vo W t (.slice a t.args.length c) 0 [] (.slice none 0 0) ps os vl vo W0) :=
  ⟨hL.below hb0, htb, ⟨rfl, .inl ⟨rfl, rfl⟩⟩, by simp [Idx], Only.of_below hb0, List.prefix_refl _, List.prefix_refl _, by simp [sizs], fun g hg => .inl hg, fun g hg => .inl hg, fun o ho g hg => by simp [Value.ownBlock], fun o ho => .inl ho, hL.there⟩
 have HA : Hid (ArgsAt w0 (.slice a t.args.length c) t.args ∧ Below w0.heap.size w0 W ∧ ps.length + t.size.toNat <= 8000 ∧ (∀ a ∈ t.args, LayOk w0 pb a) ∧ (∀ r ∈ pbs pb vl vo, w0.heap.size <= r)) := ⟨ha, hw, hln, ih, hL.lows⟩
 clear hL ha hw hln ih hb0 htb
 go_enter Tryz.func93, Tryz.ntmps93
 try rw [hW0]
 go_wp2
 try rw [hW0]
 clear x0 x1
 go_loopw [5, 6] (fun vv vi wr => ∃ (i : Nat) (oa : Option Addr) (on oc : Nat), vv = .slice oa on oc ∧ vi = .int .i64 i ∧ i <= t.args.length ∧ Hid (∃ ids ps1 os1 vl1 vo1, on = ids.length ∧ Lw w0 pb ps os vl vo W t (.slice a t.args.length c) i ids (.slice oa on oc) ps1 os1 vl1 vo1 wr)) (fun _ vi _ => t.args.length - (intOf vi).toNat)
 case atStart => exact ⟨0, none, 0, 0, rfl, rfl, Nat.zero_le _, [], ps, os, vl, vo, rfl, HV.out⟩
 case round =>
  obtain ⟨i, oa, on, oc, rfl, rfl, hi, HI⟩ := hrel
  obtain ⟨ids, ps1, os1, vl1, vo1, rfl, hv⟩ := HI.out
  clear HI x2
  obtain ⟨gA, gw, gln, gih, glo⟩ := HA.out
  have hwr : Below w0.heap.size w0 wr := gw.trans (hv.on.below gw.size glo)
  have x2 : wr.cell? ⟨W.heap.size, 2, none⟩ = some (.slice a t.args.length c) := by rw [cell_of_row _ _ _ _ 30 (0, 0) hv.tb]; rfl
  by_cases hlt : i < t.args.length
  ·obtain ⟨b1, o1, s1, rfl, hb1, c0, c1, c2, hs⟩ := gA.nth hlt
   obtain ⟨sa, sc, rfl, _, _⟩ := hs.slice
   have d0 := kc hwr hb1 c0
   have d1 := kc hwr hb1 c1
   have d2 := kc hwr hb1 c2
   have hz := sizs_take hlt
   have hza := sizs_arg t
   have hln := hv.ln
   have hcall := gih _ (List.getElem_mem hlt) _ ps1 os1 vl1 vo1 wr hv.ly hs hwr (by omega)
   have hidl : ids.length = i := by rw [hv.ix.len, List.length_take, Nat.min_eq_left hi]
   have hcall' := hcall.mono (R' := fun e W' => ∃ k : Nat, e = .returned (.int .i64 (k : Int)) ∧ W'.ownsRow W.heap.size 3 1 (.slice oa ids.length oc) ids.length (ids.map iI) ∧ W.heap.size <= W'.heap.size ∧ Hid (∀ X3 X4 ov', Below W'.heap.size W' X3 -> X3.grownBy X4 (Value.slice oa ids.length oc).ownBlock -> (ov'.ownBlock = (Value.slice oa ids.length oc).ownBlock ∨ ov'.ownBlock = some X3.heap.size) -> X4.ownsRow W.heap.size 3 1 ov' (ids.length + 1) (ids.map iI ++ [iI k]) -> ∃ ids ps1 os1 vl1 vo1, ids.length = i + 1 ∧ Lw w0 pb ps os vl vo W t (.slice (some ⟨b1, o1, none⟩) t.args.length c) (i + 1) ids ov' ps1 os1 vl1 vo1 X4)) (by
    rintro e W' ⟨k, ps2, os2, vl2, vo2, he, hL2, hp2, ho2, hk2, hl2, hke, hon, hvl2, hvo2, hnw2⟩
    refine ⟨k, he, rowL_keep hv.ow (fun g hg => ?_), ?_, fun X3 X4 ov' b3 g4 hb4 r4 => ⟨ids ++ [k], ps2, os2, vl2, vo2, by simp [hidl], hv.next hlt hL2 hp2 ho2 hl2 hke hon hvl2 hvo2 hnw2 b3 g4 hb4 r4⟩⟩
    ·obtain ⟨_, cur, hcc⟩ := row_block hv.ow hg
     exact hon.block g (Array.getElem?_eq_some_iff.1 hcc).1 (hv.ly.off hcc (by decide) (by decide) (by decide))
    ·have := hon.size
     have := hv.on.size
     omega)
   have HN : Hid (ids.length <= 8000 ∧ ids.length = i) := ⟨by have := gln; have := len_sizs t.args; omega, hidl⟩
   have hil : ids.length <= 8000 := HN.out.1
   clear hcall hz hza hln hs c0 c1 c2 hwr gA gw gln gih glo hv HV hb1 hidl
   obtain ⟨u, hu⟩ : ∃ u, t.args[i] = u := ⟨_, rfl⟩
   rw [hu] at hcall' d0 d1 d2
   clear hu
   go_wp2_with fail
   refine hcall'.mono ?_
   rintro e W' ⟨k, rfl, hrow, hsz, HD⟩
   have hb3 := below_box W' (.cells #[.int .i64 (k : Int)] 3)
   have hrow3 : (W'.alloc (.cells #[.int .i64 (k : Int)] 3)).ownsRow W.heap.size 3 1 (.slice oa ids.length oc) ids.length (ids.map iI) := rowL_keep hrow (fun g hg => by
    obtain ⟨_, cur, hcc⟩ := row_block hrow hg
    exact hb3.block g (Array.getElem?_eq_some_iff.1 hcc).1)
   clear hrow hcall'
   go_wp2_with (first
    | (at_builtin; refine wpList_append_own_at _ rfl _ _ 23 rfl W.heap.size 3 i3 _ 1 8 Tryz.underlying23 hi3 hz3a hz3b hz3c rfl (by decide) _ _ _ rfl hrow3 ⟨W'.heap.size, 0, none⟩ 1 1 [.int .i64 (k : Int)] rfl rfl (fun j u hj => by { rw [Addr.add_mid, Nat.zero_add, cell_of_row _ _ _ _ 3 (0, 0) (MapKept.heap_alloc W' _).1]; simpa using hj }) (by intro u hu; obtain rfl : u = .int .i64 (k : Int) := (by simpa using hu); rfl) (by unfold maxLen; omega) (by omega) (by simp; omega) ?_; intro v' w4 hown4 hg4 hnil4 hat4; obtain ⟨a4, c4, rfl⟩ := row_slice hown4))
   have HD2 : Hid (∃ ids' ps1 os1 vl1 vo1, ids.length + 1 = ids'.length ∧ Lw w0 pb ps os vl vo W t (.slice (some ⟨b1, o1, none⟩) t.args.length c) (i + 1) ids' (.slice a4 (ids.length + 1) c4) ps1 os1 vl1 vo1 w4) := by
    obtain ⟨ids', p', o', l', v', h1, h2⟩ := HD.out _ w4 (.slice a4 (ids.length + 1) c4) hb3 hg4 hat4 hown4
    exact ⟨ids', p', o', l', v', by rw [h1, HN.out.2], h2⟩
   clear hown4 hg4 hnil4 hat4 hrow3 HD
   go_roundw
   case rel => exact ⟨i + 1, a4, ids.length + 1, c4, rfl, by go_num, by omega, HD2⟩
   case measure => simp [intOf]; omega
  ·have hall : t.args.take i = t.args := List.take_of_length_le (by omega)
   have hd : Below wr.heap.size wr wr.drew := (Below.refl _ wr).drew
   have hvd := hv.below hd
   have hix := hvd.ix
   rw [hall] at hix
   have hid : ∀ j ∈ ids, j < ps1.length := fun j hj => by
    obtain ⟨m, hm, rfl⟩ := List.getElem_of_mem hj
    have := (hix.get hm (by rw [<- hix.len]; exact hm)).1
    simpa using this
   have hza := sizs_arg t
   have hln := hvd.ln
   rw [hall] at hln
   obtain ⟨la, lc, rfl⟩ := row_slice hv.ly.rl
   obtain ⟨ma, mc, rfl⟩ := row_slice hv.ly.ro
   obtain ⟨n0, n1, nf0, nf1⟩ := hvd.ly.cells
   have hps : ps1.length <= 8000 := by omega
   have hos : os1.length <= 8000 := by rw [hvd.ly.len]; omega
   have htb := hvd.tb
   have q4 : ∀ X, Only (pbs pb (.slice la ps1.length lc) (.slice ma os1.length mc)) wr.drew X -> X.cell? ⟨W.heap.size, 0, none⟩ = some (.int .i64 t.v) ∧ X.cell? ⟨W.heap.size, 1, none⟩ = some (.string t.fn) ∧ X.cell? ⟨W.heap.size, 2, none⟩ = some (.slice a t.args.length c) := fun X hX => ⟨cell_on hX hvd.tboff (by rw [cell_of_row _ _ _ _ 30 (0, 0) htb]; rfl), cell_on hX hvd.tboff (by rw [cell_of_row _ _ _ _ 30 (0, 0) htb]; rfl), cell_on hX hvd.tboff (by rw [cell_of_row _ _ _ _ 30 (0, 0) htb]; rfl)⟩
   have hlow0 : w0.heap.size <= wr.drew.heap.size := by have := gw.size; have := hvd.on.size; omega
   have hb1 := below_box wr.drew (.cells #[.int .i64 0, .string ⟨#[]⟩, .slice none 0 0] 30)
   have hrow1 : (wr.drew.alloc (.cells #[.int .i64 0, .string ⟨#[]⟩, .slice none 0 0] 30)).ownsRow w0.heap.size 30 3 (.slice la ps1.length lc) ps1.length (flatT ps1) := rowL_keep hvd.ly.rl (fun g hg => by
    obtain ⟨_, cur, hcc⟩ := row_block hvd.ly.rl hg
    exact hb1.block g (Array.getElem?_eq_some_iff.1 hcc).1)
   have HE : Hid (Lw w0 pb ps os vl vo W t (.slice a t.args.length c) i ids (.slice oa ids.length oc) ps1 os1 (.slice la ps1.length lc) (.slice ma os1.length mc) wr.drew ∧ Idx (ps1.map (·.1)) ids t.args ∧ (∀ j ∈ ids, j < ps1.length) ∧ ps1.length <= ps.length + sizs t.args ∧ ArgsAt w0 (.slice a t.args.length c) t.args ∧ w0.heap.size <= W.heap.size) := ⟨hvd, hix, hid, hln, gA, gw.size⟩
   have hlf : (flatT ps1).length = ps1.length * 3 := hvd.ly.rl.1
   obtain ⟨pl1, pl2⟩ := hvd.ly.apart
   have hpbl := hvd.ly.there pb (by simp)
   have hhd := hvd.ly.head
   have hbox : ∀ Y2 Y3 g, (wr.drew.alloc (.cells #[.int .i64 0, .string ⟨#[]⟩, .slice none 0 0] 30)).grownBy Y2 (Value.slice la ps1.length lc).ownBlock -> g ≠ pb -> Only [g] Y2 Y3 -> Y3.heap[pb]? = some (.cells #[(.slice la ps1.length lc), (.slice ma os1.length mc)] 146 (0, 0)) := fun Y2 Y3 g g2 hne o3 => by
    have e1 := (hb1.block pb hpbl).trans hhd
    have e2 := (g2.block pb (Array.getElem?_eq_some_iff.1 e1).1 (fun e => (pl1 pb e.symm).1 rfl)).trans e1
    exact (o3.block pb (Array.getElem?_eq_some_iff.1 e2).1 (by simpa using fun e => hne e.symm)).trans e2
   clear hall hvd hix hid hza hln hv hwr gA gw gln gih glo HV htb
   go_wp2
   refine wp_region_held_drew (S := fun X => Only (pbs pb (.slice la ps1.length lc) (.slice ma os1.length mc)) wr.drew X) (by kernel_rfl) (Only.refl _ _) (fun hHeld => ?_)
   obtain ⟨Xd, hXd⟩ : ∃ X, wr.drew = X := ⟨_, rfl⟩
   rw [hXd] at hHeld q4 hb1 hrow1 HE n0 n1 nf0 nf1 hbox hpbl hhd hlow0 ⊢
   clear hXd hd
   refine take_mk 0 (.pointer (some ⟨pb, 0, none⟩)) rfl (by kernel_rfl) (by kernel_rfl) (by kernel_rfl) (fun _ _ _ h => h) (Or.inl ⟨by rfl, fun X hX => by go_simp⟩) (by assumption) ?_
   try simp only [Act.put, List.setIfInBounds_toArray, List.set_cons_zero, List.set_cons_succ]
   refine take_mk 1 (.pointer (some ⟨pb, 0, none⟩)) rfl (by kernel_rfl) (by kernel_rfl) (by kernel_rfl) (fun _ _ _ h => h) (Or.inl ⟨by rfl, fun X hX => by go_simp⟩) (by assumption) ?_
   try simp only [Act.put, List.setIfInBounds_toArray, List.set_cons_zero, List.set_cons_succ]
   refine take_mk 2 (.pointer (some ⟨pb, 0, none⟩)) rfl (by kernel_rfl) (by kernel_rfl) (by kernel_rfl) (fun _ _ _ h => h) (Or.inl ⟨by rfl, fun X hX => by go_simp⟩) (by assumption) ?_
   try simp only [Act.put, List.setIfInBounds_toArray, List.set_cons_zero, List.set_cons_succ]
   refine take_mk 4 (tval t (.slice a t.args.length c)) rfl (by kernel_rfl) (by kernel_rfl) (by kernel_rfl) (fun _ _ _ h => h) (Or.inl ⟨by rfl, fun X hX => by obtain ⟨y0, y1, y2⟩ := q4 X hX; go_simp⟩) (by assumption) ?_
   try simp only [Act.put, List.setIfInBounds_toArray, List.set_cons_zero, List.set_cons_succ]
   refine wpAnyH_ready (rs := [3, 6]) (by kernel_rfl) (by simp) (AllReadyH.cons (o := ⟨_, _, _, _, _, _⟩) rfl (fun K hK => ?_) (AllReadyH.cons (o := ⟨_, _, _, _, _, _⟩) rfl (fun K hK => ?_) AllReadyH.nil))
   ·rw [if_pos (by rfl)]
    go_simp
    refine hK.out _ _ (Only.refl _ _) (fun _ => ?_)
    clear hK K
    try simp only [Act.put, List.setIfInBounds_toArray, List.set_cons_zero, List.set_cons_succ]
    refine take_mk 5 (.int .i64 (ps1.length : Int)) rfl (by kernel_rfl) (by kernel_rfl) (by kernel_rfl) (fun _ _ _ h => h) (Or.inl ⟨by rfl, fun X hX => by go_simp⟩) (by assumption) ?_
    try simp only [Act.put, List.setIfInBounds_toArray, List.set_cons_zero, List.set_cons_succ]
    refine wpAnyH_ready (rs := [6]) (by kernel_rfl) (by simp) (AllReadyH.cons (o := ⟨_, _, _, _, _, _⟩) rfl (fun K hK => ?_) AllReadyH.nil)
    rw [if_pos (by rfl)]
    go_simp
    refine hK.out _ _ (Only.of_below hb1) (fun _ => ?_)
    clear hK K
    try simp only [Act.put, List.setIfInBounds_toArray, List.set_cons_zero, List.set_cons_succ]
    refine wpAnyH_ready (rs := [7]) (by kernel_rfl) (by simp) (AllReadyH.cons (o := ⟨_, _, _, _, _, _⟩) rfl (fun K hK => ?_) AllReadyH.nil)
    refine step_append_own (Xd.alloc (.cells #[.int .i64 0, .string ⟨#[]⟩, .slice none 0 0] 30)) rfl (.tmp 27) (.tmp 30) 28 rfl w0.heap.size 30 i28 _ 3 48 Tryz.underlying28 hi28 hz28a hz28b hz28c rfl (by decide) (.slice la ps1.length lc) ps1.length (flatT ps1) rfl hrow1 ⟨Xd.heap.size, 0, none⟩ 1 1 [.int .i64 0, .string ⟨#[]⟩, .slice none 0 0] rfl rfl (fun j y hj => by rw [Addr.add_mid, Nat.zero_add, cell_of_row _ _ _ _ 30 (0, 0) (MapKept.heap_alloc Xd _).1]; simpa using hj) (by intro y hy; simp only [List.mem_cons, List.not_mem_nil, or_false] at hy; rcases hy with rfl | rfl | rfl <;> rfl) (by unfold maxLen; omega) (by omega) (by simp; omega) ?_
    intro v' Y2 r2 g2 hb2
    obtain ⟨g, c2, rfl, hgl, Y3, hrun, r3, o3⟩ := row_store r2 hlf (.int .i64 t.v) (.string t.fn) (.slice a t.args.length c) (by intro y hy; simp only [List.mem_cons, List.not_mem_nil, or_false] at hy; rcases hy with rfl | rfl | rfl <;> rfl)
    have hgp : g ≠ pb := by
     rcases hb2 with e | e
     ·exact (pl1 g (e ▸ rfl)).1
     ·have : g = _ := Option.some.inj e
      simp at this
      omega
    have hb3 := hbox Y2 Y3 g g2 hgp o3
    have hO2 : Only (pbs pb (.slice la ps1.length lc) (.slice ma os1.length mc)) Xd Y2 := (Only.of_below (B := pbs pb (.slice la ps1.length lc) (.slice ma os1.length mc)) hb1).trans (Only.of_grown (B := pbs pb (.slice la ps1.length lc) (.slice ma os1.length mc)) g2 (fun r e => by simp [pbs, e])) (fun r hr => .inl hr)
    have hO3 : Only (pbs pb (.slice la ps1.length lc) (.slice ma os1.length mc)) Xd Y3 := hO2.trans o3 (fun r hr => by
     have : r = g := by simpa using hr
     subst this
     rcases hb2 with e | e
     ·exact .inl (by simp only [pbs, List.mem_cons, List.mem_append, Option.mem_toList]; exact .inr (.inl e.symm))
     ·have : r = _ := Option.some.inj e
      exact .inr (by simp at this; omega))
    refine hK.out _ _ hO2 (fun _ => ?_)
    clear hK K
    try simp only [Act.put, List.setIfInBounds_toArray, List.set_cons_zero, List.set_cons_succ]
    refine take_mk 8 (.pointer (some ⟨g, ps1.length * 3, none⟩)) rfl (by kernel_rfl) (by kernel_rfl) (by kernel_rfl) (fun _ _ _ h => h) (Or.inl ⟨by rfl, fun X hX => by go_simp; intro hh; exact absurd hh (by omega)⟩) (by assumption) ?_
    try simp only [Act.put, List.setIfInBounds_toArray, List.set_cons_zero, List.set_cons_succ]
    refine take_mk 10 (.pointer (some ⟨pb, 0, none⟩)) rfl (by kernel_rfl) (by kernel_rfl) (by kernel_rfl) (fun _ _ _ h => h) (Or.inl ⟨by rfl, fun X hX => by go_simp⟩) (by assumption) ?_
    try simp only [Act.put, List.setIfInBounds_toArray, List.set_cons_zero, List.set_cons_succ]
    refine take_mk 11 (.pointer (some ⟨pb, 0, none⟩)) rfl (by kernel_rfl) (by kernel_rfl) (by kernel_rfl) (fun _ _ _ h => h) (Or.inl ⟨by rfl, fun X hX => by go_simp⟩) (by assumption) ?_
    try simp only [Act.put, List.setIfInBounds_toArray, List.set_cons_zero, List.set_cons_succ]
    refine wpAnyH_ready (rs := [9, 12]) (by kernel_rfl) (by simp) (AllReadyH.cons (o := ⟨_, _, _, _, _, _⟩) rfl (fun K hK => ?_) (AllReadyH.cons (o := ⟨_, _, _, _, _, _⟩) rfl (fun K hK => ?_) AllReadyH.nil))
    ·rw [if_pos (by rfl)]
     refine wp_store_run 30 _ _ rfl (.pointer (some ⟨g, ps1.length * 3, none⟩)) (tval t (.slice a t.args.length c)) rfl rfl hrun ?_
     refine hK.out _ _ hO3 (fun _ => ?_)
     clear hK K
     try simp only [Act.put]
     refine wpAnyH_ready (rs := [12]) (by kernel_rfl) (by simp) (AllReadyH.cons (o := ⟨_, _, _, _, _, _⟩) rfl (fun K hK => ?_) AllReadyH.nil)
     have z0 : Y3.cell? ⟨pb, 0, none⟩ = some (.slice la ps1.length lc) := by simp [World.cell?, hb3]
     have zf : Y3.frozen? ⟨pb, 0, none⟩ = false := by simp [World.frozen?, hb3]
     rw [if_pos (by rfl)]
     go_simp
     obtain ⟨Z, hZ⟩ : ∃ Z, Y3.setCell ⟨pb, 0, none⟩ (.slice (some ⟨g, 0, none⟩) (ps1.length + 1) c2) = Z := ⟨_, rfl⟩
     have hM : Md w0 Xd pb (.slice la ps1.length lc) (.slice ma os1.length mc) (.slice (some ⟨g, 0, none⟩) (ps1.length + 1) c2) ps1.length (flatT ps1 ++ [.int .i64 t.v, .string t.fn, .slice a t.args.length c]) Z := by
      have hd : Z.heap[pb]? = some (.cells #[(.slice (some ⟨g, 0, none⟩) (ps1.length + 1) c2), (.slice ma os1.length mc)] 146 (0, 0)) := by
       rw [<- hZ]
       have := Go.heap_setCell_same Y3 pb 0 _ 146 (.slice (some ⟨g, 0, none⟩) (ps1.length + 1) c2) hb3
       simpa using this
      have oz := only_setCell Y3 pb 0 (.slice (some ⟨g, 0, none⟩) (ps1.length + 1) c2)
      rw [hZ] at oz
      refine md_of hhd (fun g hg => ⟨(pl1 g hg).1, HE.out.1.ly.there g (by simp [hg])⟩) hb1 g2 (g := g) rfl hb2 ((show Only [g, pb] Y2 Y3 from ⟨o3.os, o3.tape, o3.output, o3.size, fun k hk hn => o3.block k hk (by simp at hn ⊢; exact hn.1)⟩).trans oz (fun r hr => .inl (by simp at hr; simp [hr]))) hd (rowL_keep r3 (fun g' hg' => oz.block g' ?_ ?_))
      ·obtain ⟨_, cur, hcc⟩ := row_block r3 hg'
       exact (Array.getElem?_eq_some_iff.1 hcc).1
      ·have : g' = g := (Option.some.inj hg').symm
       subst this
       simpa using hgp
     refine hK.out _ _ (hO3.trans (only_setCell Y3 pb 0 _) (fun r hr => .inl (List.mem_cons.2 (.inl (List.mem_singleton.1 hr))))) (fun _ => ?_)
     rw [hZ]
     clear hK K hZ z0 zf
     refine wpAnyH_done (by kernel_rfl) ?_ _
     try simp only [Act.put]
     have HM : Hid (Md w0 Xd pb (.slice la ps1.length lc) (.slice ma os1.length mc) (.slice (some ⟨g, 0, none⟩) (ps1.length + 1) c2) ps1.length (flatT ps1 ++ [.int .i64 t.v, .string t.fn, .slice a t.args.length c]) Z) := hM
     have c0 : Z.cell? ⟨pb, 0, none⟩ = some (.slice (some ⟨g, 0, none⟩) (ps1.length + 1) c2) := by have := hM.head; simp [World.cell?, this]
     have c1 : Z.cell? ⟨pb, 1, none⟩ = some (.slice ma os1.length mc) := by have := hM.head; simp [World.cell?, this]
     have hb7 := below_box Z (.cells #[(.slice oa ids.length oc)] 23)
     have hrow7 : (Z.alloc (.cells #[(.slice oa ids.length oc)] 23)).ownsRow w0.heap.size 23 1 (.slice ma os1.length mc) os1.length (os1.map (·.1)) := rowL_keep HE.out.1.ly.ro (fun g' hg' => by
      obtain ⟨_, cur, hcc⟩ := row_block HE.out.1.ly.ro hg'
      have hlt' := (Array.getElem?_eq_some_iff.1 hcc).1
      exact (hb7.block g' (Nat.lt_of_lt_of_le hlt' hM.sz)).trans (hM.kp g' hlt' (fun e => (pl1 g' e).2 hg') (pl2 g' hg')))
     have hlz : w0.heap.size <= Z.heap.size := Nat.le_trans hlow0 hM.sz
     have HP : Hid (∀ Y6 vo', (Z.alloc (.cells #[(.slice oa ids.length oc)] 23)).grownBy Y6 (Value.slice ma os1.length mc).ownBlock -> Y6.heap[pb]? = some (.cells #[(.slice (some ⟨g, 0, none⟩) (ps1.length + 1) c2), (.slice ma os1.length mc)] 146 (0, 0)) ∧ (Y6.setCell ⟨pb, 1, none⟩ vo').heap[pb]? = some (.cells #[(.slice (some ⟨g, 0, none⟩) (ps1.length + 1) c2), vo'] 146 (0, 0))) := fun Y6 vo' g6 => by
      have e1 := (hb7.block pb (Array.getElem?_eq_some_iff.1 hM.head).1).trans hM.head
      have e2 := (g6.block pb (Array.getElem?_eq_some_iff.1 e1).1 (fun e => pl2 pb e.symm rfl)).trans e1
      have := Go.heap_setCell_same Y6 pb 1 _ 146 vo' e2
      exact ⟨e2, by simpa using this⟩
     clear hM r2 g2 hb2 r3 o3 hrun hgl hO2 hO3 hb3 q4 hbox hrow1 hb1 hHeld hhd hpbl n0 n1 nf0 nf1
     go_wp2_with (first
      | (at_builtin; refine wpList_append_own_at _ rfl _ _ 144 rfl w0.heap.size 23 i23 _ 1 24 Tryz.underlying144 hi23 hz23a hz23b hz23c rfl (by decide) _ _ _ rfl hrow7 ⟨Z.heap.size, 0, none⟩ 1 1 [(.slice oa ids.length oc)] rfl rfl (fun j u hj => by { rw [Addr.add_mid, Nat.zero_add, cell_of_row _ _ _ _ 23 (0, 0) (MapKept.heap_alloc Z _).1]; simpa using hj }) (by intro u hu; obtain rfl : u = (.slice oa ids.length oc) := (by simpa using hu); rfl) (by unfold maxLen; omega) (by omega) (by simp; omega) ?_; intro v6 Y6 r6 g6 hnil6 hb6; obtain ⟨a6, c6, rfl⟩ := row_slice r6; obtain ⟨u1, u2⟩ := HP.out Y6 (.slice a6 (os1.length + 1) c6) g6; have y1 : Y6.cell? ⟨pb, 1, none⟩ = some (.slice ma os1.length mc) := (by simp [World.cell?, u1]); have yf : Y6.frozen? ⟨pb, 1, none⟩ = false := (by simp [World.frozen?, u1]); have y0 : Y6.cell? ⟨pb, 0, none⟩ = some (.slice (some ⟨g, 0, none⟩) (ps1.length + 1) c2) := (by simp [World.cell?, u1])))
     go_ret
     have hsz := sizs_arg t
     obtain ⟨e1, e2, e3, e4, e5, e6⟩ := HE.out
     have hWX := e1.on.size
     obtain ⟨w1, w2, w3, w4⟩ := e1.ly.snocM e5 e2 e3 (row_base e1.ow e6) HM.out hb7 g6 hb6 r6
     refine ⟨ps1.length, _, _, _, _, rfl, w1, e1.prp.trans (List.prefix_append _ _), e1.pro.trans (List.prefix_append _ _), by simp, by simp; omega, ⟨by simp, by simp⟩, e1.on.trans w2 e1.bs, fun g' hg' => ?_, fun g' hg' => ?_, fun o ho => ?_⟩
     ·rcases w3 g' hg' with k | k
      ·rcases e1.hvl g' k with k | k
       ·exact .inl k
       ·exact .inr (by omega)
      ·exact .inr (by omega)
     ·rcases w4 g' hg' with k | k
      ·rcases e1.hvo g' k with k | k
       ·exact .inl k
       ·exact .inr (by omega)
      ·exact .inr (by omega)
     ·rcases List.mem_append.1 ho with ho | ho
      ·exact e1.nw o ho
      ·obtain rfl : o = ((.slice oa ids.length oc), ids) := by simpa using ho
       exact .inr fun g' hg' => (row_block e1.ow hg').1
    ·have hb2h : Y2.heap[pb]? = some (.cells #[(.slice la ps1.length lc), (.slice ma os1.length mc)] 146 (0, 0)) := hbox Y2 Y2 g g2 hgp (Only.refl _ _)
     have z0 : Y2.cell? ⟨pb, 0, none⟩ = some (.slice la ps1.length lc) := by simp [World.cell?, hb2h]
     have zf : Y2.frozen? ⟨pb, 0, none⟩ = false := by simp [World.frozen?, hb2h]
     rw [if_pos (by rfl)]
     go_simp
     obtain ⟨Z1, hZ1⟩ : ∃ Z, Y2.setCell ⟨pb, 0, none⟩ (.slice (some ⟨g, 0, none⟩) (ps1.length + 1) c2) = Z := ⟨_, rfl⟩
     have hd1 : Z1.heap[pb]? = some (.cells #[(.slice (some ⟨g, 0, none⟩) (ps1.length + 1) c2), (.slice ma os1.length mc)] 146 (0, 0)) := by
      rw [<- hZ1]
      have := Go.heap_setCell_same Y2 pb 0 _ 146 (.slice (some ⟨g, 0, none⟩) (ps1.length + 1) c2) hb2h
      simpa using this
     have oz := only_setCell Y2 pb 0 (.slice (some ⟨g, 0, none⟩) (ps1.length + 1) c2)
     rw [hZ1] at oz
     have r2z : Z1.ownsRow w0.heap.size 30 3 (.slice (some ⟨g, 0, none⟩) (ps1.length + 1) c2) (ps1.length + 1) (flatT ps1 ++ [.int .i64 0, .string ⟨#[]⟩, .slice none 0 0]) := rowL_keep r2 (fun g' hg' => oz.block g' (by obtain ⟨_, cur, hcc⟩ := row_block r2 hg'; exact (Array.getElem?_eq_some_iff.1 hcc).1) (by have : g' = g := (Option.some.inj hg').symm; subst this; simpa using hgp))
     obtain ⟨g', c', he', _, Z, hrunz, rz, ozz⟩ := row_store r2z hlf (.int .i64 t.v) (.string t.fn) (.slice a t.args.length c) (by intro y hy; simp only [List.mem_cons, List.not_mem_nil, or_false] at hy; rcases hy with rfl | rfl | rfl <;> rfl)
     obtain rfl : g = g' := by have := (Value.slice.inj he').1; simpa using this
     have hM : Md w0 Xd pb (.slice la ps1.length lc) (.slice ma os1.length mc) (.slice (some ⟨g, 0, none⟩) (ps1.length + 1) c2) ps1.length (flatT ps1 ++ [.int .i64 t.v, .string t.fn, .slice a t.args.length c]) Z := md_of hhd (fun g hg => ⟨(pl1 g hg).1, HE.out.1.ly.there g (by simp [hg])⟩) hb1 g2 (g := g) rfl hb2 ((show Only [g, pb] Y2 Z1 from ⟨oz.os, oz.tape, oz.output, oz.size, fun k hk hn => oz.block k hk (by simp at hn ⊢; exact hn.2)⟩).trans ozz (fun r hr => .inl (by simp at hr; simp [hr]))) ((ozz.block pb (Array.getElem?_eq_some_iff.1 hd1).1 (by simpa using fun e => hgp e.symm)).trans hd1) rz
     have hOz : Only (pbs pb (.slice la ps1.length lc) (.slice ma os1.length mc)) Xd Z1 := hO2.trans oz (fun r hr => .inl (List.mem_cons.2 (.inl (List.mem_singleton.1 hr))))
     refine hK.out _ _ (by rw [hZ1]; exact hOz) (fun _ => ?_)
     rw [hZ1]
     clear hK K hZ1 z0 zf
     try simp only [Act.put, List.setIfInBounds_toArray, List.set_cons_zero, List.set_cons_succ]
     refine wpAnyH_ready (rs := [9]) (by kernel_rfl) (by simp) (AllReadyH.cons (o := ⟨_, _, _, _, _, _⟩) rfl (fun K hK => ?_) AllReadyH.nil)
     rw [if_pos (by rfl)]
     refine wp_store_run 30 _ _ rfl (.pointer (some ⟨g, ps1.length * 3, none⟩)) (tval t (.slice a t.args.length c)) rfl rfl hrunz ?_
     refine hK.out _ _ (hOz.trans ozz (fun r hr => by
      have : r = g := by simpa using hr
      subst this
      rcases hb2 with e | e
      ·exact .inl (by simp only [pbs, List.mem_cons, List.mem_append, Option.mem_toList]; exact .inr (.inl e.symm))
      ·have : r = _ := Option.some.inj e
       exact .inr (by simp at this; omega))) (fun _ => ?_)
     clear hK K
     refine wpAnyH_done (by kernel_rfl) ?_ _
     try simp only [Act.put]
     have HM : Hid (Md w0 Xd pb (.slice la ps1.length lc) (.slice ma os1.length mc) (.slice (some ⟨g, 0, none⟩) (ps1.length + 1) c2) ps1.length (flatT ps1 ++ [.int .i64 t.v, .string t.fn, .slice a t.args.length c]) Z) := hM
     have c0 : Z.cell? ⟨pb, 0, none⟩ = some (.slice (some ⟨g, 0, none⟩) (ps1.length + 1) c2) := by have := hM.head; simp [World.cell?, this]
     have c1 : Z.cell? ⟨pb, 1, none⟩ = some (.slice ma os1.length mc) := by have := hM.head; simp [World.cell?, this]
     have hb7 := below_box Z (.cells #[(.slice oa ids.length oc)] 23)
     have hrow7 : (Z.alloc (.cells #[(.slice oa ids.length oc)] 23)).ownsRow w0.heap.size 23 1 (.slice ma os1.length mc) os1.length (os1.map (·.1)) := rowL_keep HE.out.1.ly.ro (fun g' hg' => by
      obtain ⟨_, cur, hcc⟩ := row_block HE.out.1.ly.ro hg'
      have hlt' := (Array.getElem?_eq_some_iff.1 hcc).1
      exact (hb7.block g' (Nat.lt_of_lt_of_le hlt' hM.sz)).trans (hM.kp g' hlt' (fun e => (pl1 g' e).2 hg') (pl2 g' hg')))
     have hlz : w0.heap.size <= Z.heap.size := Nat.le_trans hlow0 hM.sz
     have HP : Hid (∀ Y6 vo', (Z.alloc (.cells #[(.slice oa ids.length oc)] 23)).grownBy Y6 (Value.slice ma os1.length mc).ownBlock -> Y6.heap[pb]? = some (.cells #[(.slice (some ⟨g, 0, none⟩) (ps1.length + 1) c2), (.slice ma os1.length mc)] 146 (0, 0)) ∧ (Y6.setCell ⟨pb, 1, none⟩ vo').heap[pb]? = some (.cells #[(.slice (some ⟨g, 0, none⟩) (ps1.length + 1) c2), vo'] 146 (0, 0))) := fun Y6 vo' g6 => by
      have e1 := (hb7.block pb (Array.getElem?_eq_some_iff.1 hM.head).1).trans hM.head
      have e2 := (g6.block pb (Array.getElem?_eq_some_iff.1 e1).1 (fun e => pl2 pb e.symm rfl)).trans e1
      have := Go.heap_setCell_same Y6 pb 1 _ 146 vo' e2
      exact ⟨e2, by simpa using this⟩
     clear hM r2 g2 hb2 r3 o3 hrun hgl hO2 hO3 hb3 q4 hbox hrow1 hb1 hHeld hhd hpbl n0 n1 nf0 nf1
     go_wp2_with (first
      | (at_builtin; refine wpList_append_own_at _ rfl _ _ 144 rfl w0.heap.size 23 i23 _ 1 24 Tryz.underlying144 hi23 hz23a hz23b hz23c rfl (by decide) _ _ _ rfl hrow7 ⟨Z.heap.size, 0, none⟩ 1 1 [(.slice oa ids.length oc)] rfl rfl (fun j u hj => by { rw [Addr.add_mid, Nat.zero_add, cell_of_row _ _ _ _ 23 (0, 0) (MapKept.heap_alloc Z _).1]; simpa using hj }) (by intro u hu; obtain rfl : u = (.slice oa ids.length oc) := (by simpa using hu); rfl) (by unfold maxLen; omega) (by omega) (by simp; omega) ?_; intro v6 Y6 r6 g6 hnil6 hb6; obtain ⟨a6, c6, rfl⟩ := row_slice r6; obtain ⟨u1, u2⟩ := HP.out Y6 (.slice a6 (os1.length + 1) c6) g6; have y1 : Y6.cell? ⟨pb, 1, none⟩ = some (.slice ma os1.length mc) := (by simp [World.cell?, u1]); have yf : Y6.frozen? ⟨pb, 1, none⟩ = false := (by simp [World.frozen?, u1]); have y0 : Y6.cell? ⟨pb, 0, none⟩ = some (.slice (some ⟨g, 0, none⟩) (ps1.length + 1) c2) := (by simp [World.cell?, u1])))
     go_ret
     have hsz := sizs_arg t
     obtain ⟨e1, e2, e3, e4, e5, e6⟩ := HE.out
     have hWX := e1.on.size
     obtain ⟨w1, w2, w3, w4⟩ := e1.ly.snocM e5 e2 e3 (row_base e1.ow e6) HM.out hb7 g6 hb6 r6
     refine ⟨ps1.length, _, _, _, _, rfl, w1, e1.prp.trans (List.prefix_append _ _), e1.pro.trans (List.prefix_append _ _), by simp, by simp; omega, ⟨by simp, by simp⟩, e1.on.trans w2 e1.bs, fun g' hg' => ?_, fun g' hg' => ?_, fun o ho => ?_⟩
     ·rcases w3 g' hg' with k | k
      ·rcases e1.hvl g' k with k | k
       ·exact .inl k
       ·exact .inr (by omega)
      ·exact .inr (by omega)
     ·rcases w4 g' hg' with k | k
      ·rcases e1.hvo g' k with k | k
       ·exact .inl k
       ·exact .inr (by omega)
      ·exact .inr (by omega)
     ·rcases List.mem_append.1 ho with ho | ho
      ·exact e1.nw o ho
      ·obtain rfl : o = ((.slice oa ids.length oc), ids) := by simpa using ho
       exact .inr fun g' hg' => (row_block e1.ow hg').1
   ·rw [if_pos (by rfl)]
    go_simp
    refine hK.out _ _ (Only.of_below hb1) (fun _ => ?_)
    clear hK K
    try simp only [Act.put, List.setIfInBounds_toArray, List.set_cons_zero, List.set_cons_succ]
    refine wpAnyH_ready (rs := [3]) (by kernel_rfl) (by simp) (AllReadyH.cons (o := ⟨_, _, _, _, _, _⟩) rfl (fun K hK => ?_) AllReadyH.nil)
    have n0' := kc hb1 hpbl n0
    rw [if_pos (by rfl)]
    go_simp
    refine hK.out _ _ (Only.of_below hb1) (fun _ => ?_)
    clear hK K
    try simp only [Act.put, List.setIfInBounds_toArray, List.set_cons_zero, List.set_cons_succ]
    refine take_mk 5 (.int .i64 (ps1.length : Int)) rfl (by kernel_rfl) (by kernel_rfl) (by kernel_rfl) (fun _ _ _ h => h) (Or.inl ⟨by rfl, fun X hX => by go_simp⟩) (by assumption) ?_
    try simp only [Act.put, List.setIfInBounds_toArray, List.set_cons_zero, List.set_cons_succ]
    refine wpAnyH_ready (rs := [7]) (by kernel_rfl) (by simp) (AllReadyH.cons (o := ⟨_, _, _, _, _, _⟩) rfl (fun K hK => ?_) AllReadyH.nil)
    refine step_append_own (Xd.alloc (.cells #[.int .i64 0, .string ⟨#[]⟩, .slice none 0 0] 30)) rfl (.tmp 27) (.tmp 30) 28 rfl w0.heap.size 30 i28 _ 3 48 Tryz.underlying28 hi28 hz28a hz28b hz28c rfl (by decide) (.slice la ps1.length lc) ps1.length (flatT ps1) rfl hrow1 ⟨Xd.heap.size, 0, none⟩ 1 1 [.int .i64 0, .string ⟨#[]⟩, .slice none 0 0] rfl rfl (fun j y hj => by rw [Addr.add_mid, Nat.zero_add, cell_of_row _ _ _ _ 30 (0, 0) (MapKept.heap_alloc Xd _).1]; simpa using hj) (by intro y hy; simp only [List.mem_cons, List.not_mem_nil, or_false] at hy; rcases hy with rfl | rfl | rfl <;> rfl) (by unfold maxLen; omega) (by omega) (by simp; omega) ?_
    intro v' Y2 r2 g2 hb2
    obtain ⟨g, c2, rfl, hgl, Y3, hrun, r3, o3⟩ := row_store r2 hlf (.int .i64 t.v) (.string t.fn) (.slice a t.args.length c) (by intro y hy; simp only [List.mem_cons, List.not_mem_nil, or_false] at hy; rcases hy with rfl | rfl | rfl <;> rfl)
    have hgp : g ≠ pb := by
     rcases hb2 with e | e
     ·exact (pl1 g (e ▸ rfl)).1
     ·have : g = _ := Option.some.inj e
      simp at this
      omega
    have hb3 := hbox Y2 Y3 g g2 hgp o3
    have hO2 : Only (pbs pb (.slice la ps1.length lc) (.slice ma os1.length mc)) Xd Y2 := (Only.of_below (B := pbs pb (.slice la ps1.length lc) (.slice ma os1.length mc)) hb1).trans (Only.of_grown (B := pbs pb (.slice la ps1.length lc) (.slice ma os1.length mc)) g2 (fun r e => by simp [pbs, e])) (fun r hr => .inl hr)
    have hO3 : Only (pbs pb (.slice la ps1.length lc) (.slice ma os1.length mc)) Xd Y3 := hO2.trans o3 (fun r hr => by
     have : r = g := by simpa using hr
     subst this
     rcases hb2 with e | e
     ·exact .inl (by simp only [pbs, List.mem_cons, List.mem_append, Option.mem_toList]; exact .inr (.inl e.symm))
     ·have : r = _ := Option.some.inj e
      exact .inr (by simp at this; omega))
    refine hK.out _ _ hO2 (fun _ => ?_)
    clear hK K
    try simp only [Act.put, List.setIfInBounds_toArray, List.set_cons_zero, List.set_cons_succ]
    refine take_mk 8 (.pointer (some ⟨g, ps1.length * 3, none⟩)) rfl (by kernel_rfl) (by kernel_rfl) (by kernel_rfl) (fun _ _ _ h => h) (Or.inl ⟨by rfl, fun X hX => by go_simp; intro hh; exact absurd hh (by omega)⟩) (by assumption) ?_
    try simp only [Act.put, List.setIfInBounds_toArray, List.set_cons_zero, List.set_cons_succ]
    refine take_mk 10 (.pointer (some ⟨pb, 0, none⟩)) rfl (by kernel_rfl) (by kernel_rfl) (by kernel_rfl) (fun _ _ _ h => h) (Or.inl ⟨by rfl, fun X hX => by go_simp⟩) (by assumption) ?_
    try simp only [Act.put, List.setIfInBounds_toArray, List.set_cons_zero, List.set_cons_succ]
    refine take_mk 11 (.pointer (some ⟨pb, 0, none⟩)) rfl (by kernel_rfl) (by kernel_rfl) (by kernel_rfl) (fun _ _ _ h => h) (Or.inl ⟨by rfl, fun X hX => by go_simp⟩) (by assumption) ?_
    try simp only [Act.put, List.setIfInBounds_toArray, List.set_cons_zero, List.set_cons_succ]
    refine wpAnyH_ready (rs := [9, 12]) (by kernel_rfl) (by simp) (AllReadyH.cons (o := ⟨_, _, _, _, _, _⟩) rfl (fun K hK => ?_) (AllReadyH.cons (o := ⟨_, _, _, _, _, _⟩) rfl (fun K hK => ?_) AllReadyH.nil))
    ·rw [if_pos (by rfl)]
     refine wp_store_run 30 _ _ rfl (.pointer (some ⟨g, ps1.length * 3, none⟩)) (tval t (.slice a t.args.length c)) rfl rfl hrun ?_
     refine hK.out _ _ hO3 (fun _ => ?_)
     clear hK K
     try simp only [Act.put]
     refine wpAnyH_ready (rs := [12]) (by kernel_rfl) (by simp) (AllReadyH.cons (o := ⟨_, _, _, _, _, _⟩) rfl (fun K hK => ?_) AllReadyH.nil)
     have z0 : Y3.cell? ⟨pb, 0, none⟩ = some (.slice la ps1.length lc) := by simp [World.cell?, hb3]
     have zf : Y3.frozen? ⟨pb, 0, none⟩ = false := by simp [World.frozen?, hb3]
     rw [if_pos (by rfl)]
     go_simp
     obtain ⟨Z, hZ⟩ : ∃ Z, Y3.setCell ⟨pb, 0, none⟩ (.slice (some ⟨g, 0, none⟩) (ps1.length + 1) c2) = Z := ⟨_, rfl⟩
     have hM : Md w0 Xd pb (.slice la ps1.length lc) (.slice ma os1.length mc) (.slice (some ⟨g, 0, none⟩) (ps1.length + 1) c2) ps1.length (flatT ps1 ++ [.int .i64 t.v, .string t.fn, .slice a t.args.length c]) Z := by
      have hd : Z.heap[pb]? = some (.cells #[(.slice (some ⟨g, 0, none⟩) (ps1.length + 1) c2), (.slice ma os1.length mc)] 146 (0, 0)) := by
       rw [<- hZ]
       have := Go.heap_setCell_same Y3 pb 0 _ 146 (.slice (some ⟨g, 0, none⟩) (ps1.length + 1) c2) hb3
       simpa using this
      have oz := only_setCell Y3 pb 0 (.slice (some ⟨g, 0, none⟩) (ps1.length + 1) c2)
      rw [hZ] at oz
      refine md_of hhd (fun g hg => ⟨(pl1 g hg).1, HE.out.1.ly.there g (by simp [hg])⟩) hb1 g2 (g := g) rfl hb2 ((show Only [g, pb] Y2 Y3 from ⟨o3.os, o3.tape, o3.output, o3.size, fun k hk hn => o3.block k hk (by simp at hn ⊢; exact hn.1)⟩).trans oz (fun r hr => .inl (by simp at hr; simp [hr]))) hd (rowL_keep r3 (fun g' hg' => oz.block g' ?_ ?_))
      ·obtain ⟨_, cur, hcc⟩ := row_block r3 hg'
       exact (Array.getElem?_eq_some_iff.1 hcc).1
      ·have : g' = g := (Option.some.inj hg').symm
       subst this
       simpa using hgp
     refine hK.out _ _ (hO3.trans (only_setCell Y3 pb 0 _) (fun r hr => .inl (List.mem_cons.2 (.inl (List.mem_singleton.1 hr))))) (fun _ => ?_)
     rw [hZ]
     clear hK K hZ z0 zf
     refine wpAnyH_done (by kernel_rfl) ?_ _
     try simp only [Act.put]
     have HM : Hid (Md w0 Xd pb (.slice la ps1.length lc) (.slice ma os1.length mc) (.slice (some ⟨g, 0, none⟩) (ps1.length + 1) c2) ps1.length (flatT ps1 ++ [.int .i64 t.v, .string t.fn, .slice a t.args.length c]) Z) := hM
     have c0 : Z.cell? ⟨pb, 0, none⟩ = some (.slice (some ⟨g, 0, none⟩) (ps1.length + 1) c2) := by have := hM.head; simp [World.cell?, this]
     have c1 : Z.cell? ⟨pb, 1, none⟩ = some (.slice ma os1.length mc) := by have := hM.head; simp [World.cell?, this]
     have hb7 := below_box Z (.cells #[(.slice oa ids.length oc)] 23)
     have hrow7 : (Z.alloc (.cells #[(.slice oa ids.length oc)] 23)).ownsRow w0.heap.size 23 1 (.slice ma os1.length mc) os1.length (os1.map (·.1)) := rowL_keep HE.out.1.ly.ro (fun g' hg' => by
      obtain ⟨_, cur, hcc⟩ := row_block HE.out.1.ly.ro hg'
      have hlt' := (Array.getElem?_eq_some_iff.1 hcc).1
      exact (hb7.block g' (Nat.lt_of_lt_of_le hlt' hM.sz)).trans (hM.kp g' hlt' (fun e => (pl1 g' e).2 hg') (pl2 g' hg')))
     have hlz : w0.heap.size <= Z.heap.size := Nat.le_trans hlow0 hM.sz
     have HP : Hid (∀ Y6 vo', (Z.alloc (.cells #[(.slice oa ids.length oc)] 23)).grownBy Y6 (Value.slice ma os1.length mc).ownBlock -> Y6.heap[pb]? = some (.cells #[(.slice (some ⟨g, 0, none⟩) (ps1.length + 1) c2), (.slice ma os1.length mc)] 146 (0, 0)) ∧ (Y6.setCell ⟨pb, 1, none⟩ vo').heap[pb]? = some (.cells #[(.slice (some ⟨g, 0, none⟩) (ps1.length + 1) c2), vo'] 146 (0, 0))) := fun Y6 vo' g6 => by
      have e1 := (hb7.block pb (Array.getElem?_eq_some_iff.1 hM.head).1).trans hM.head
      have e2 := (g6.block pb (Array.getElem?_eq_some_iff.1 e1).1 (fun e => pl2 pb e.symm rfl)).trans e1
      have := Go.heap_setCell_same Y6 pb 1 _ 146 vo' e2
      exact ⟨e2, by simpa using this⟩
     clear hM r2 g2 hb2 r3 o3 hrun hgl hO2 hO3 hb3 q4 hbox hrow1 hb1 hHeld hhd hpbl n0 n1 nf0 nf1
     go_wp2_with (first
      | (at_builtin; refine wpList_append_own_at _ rfl _ _ 144 rfl w0.heap.size 23 i23 _ 1 24 Tryz.underlying144 hi23 hz23a hz23b hz23c rfl (by decide) _ _ _ rfl hrow7 ⟨Z.heap.size, 0, none⟩ 1 1 [(.slice oa ids.length oc)] rfl rfl (fun j u hj => by { rw [Addr.add_mid, Nat.zero_add, cell_of_row _ _ _ _ 23 (0, 0) (MapKept.heap_alloc Z _).1]; simpa using hj }) (by intro u hu; obtain rfl : u = (.slice oa ids.length oc) := (by simpa using hu); rfl) (by unfold maxLen; omega) (by omega) (by simp; omega) ?_; intro v6 Y6 r6 g6 hnil6 hb6; obtain ⟨a6, c6, rfl⟩ := row_slice r6; obtain ⟨u1, u2⟩ := HP.out Y6 (.slice a6 (os1.length + 1) c6) g6; have y1 : Y6.cell? ⟨pb, 1, none⟩ = some (.slice ma os1.length mc) := (by simp [World.cell?, u1]); have yf : Y6.frozen? ⟨pb, 1, none⟩ = false := (by simp [World.frozen?, u1]); have y0 : Y6.cell? ⟨pb, 0, none⟩ = some (.slice (some ⟨g, 0, none⟩) (ps1.length + 1) c2) := (by simp [World.cell?, u1])))
     go_ret
     have hsz := sizs_arg t
     obtain ⟨e1, e2, e3, e4, e5, e6⟩ := HE.out
     have hWX := e1.on.size
     obtain ⟨w1, w2, w3, w4⟩ := e1.ly.snocM e5 e2 e3 (row_base e1.ow e6) HM.out hb7 g6 hb6 r6
     refine ⟨ps1.length, _, _, _, _, rfl, w1, e1.prp.trans (List.prefix_append _ _), e1.pro.trans (List.prefix_append _ _), by simp, by simp; omega, ⟨by simp, by simp⟩, e1.on.trans w2 e1.bs, fun g' hg' => ?_, fun g' hg' => ?_, fun o ho => ?_⟩
     ·rcases w3 g' hg' with k | k
      ·rcases e1.hvl g' k with k | k
       ·exact .inl k
       ·exact .inr (by omega)
      ·exact .inr (by omega)
     ·rcases w4 g' hg' with k | k
      ·rcases e1.hvo g' k with k | k
       ·exact .inl k
       ·exact .inr (by omega)
      ·exact .inr (by omega)
     ·rcases List.mem_append.1 ho with ho | ho
      ·exact e1.nw o ho
      ·obtain rfl : o = ((.slice oa ids.length oc), ids) := by simpa using ho
       exact .inr fun g' hg' => (row_block e1.ow hg').1
    ·have hb2h : Y2.heap[pb]? = some (.cells #[(.slice la ps1.length lc), (.slice ma os1.length mc)] 146 (0, 0)) := hbox Y2 Y2 g g2 hgp (Only.refl _ _)
     have z0 : Y2.cell? ⟨pb, 0, none⟩ = some (.slice la ps1.length lc) := by simp [World.cell?, hb2h]
     have zf : Y2.frozen? ⟨pb, 0, none⟩ = false := by simp [World.frozen?, hb2h]
     rw [if_pos (by rfl)]
     go_simp
     obtain ⟨Z1, hZ1⟩ : ∃ Z, Y2.setCell ⟨pb, 0, none⟩ (.slice (some ⟨g, 0, none⟩) (ps1.length + 1) c2) = Z := ⟨_, rfl⟩
     have hd1 : Z1.heap[pb]? = some (.cells #[(.slice (some ⟨g, 0, none⟩) (ps1.length + 1) c2), (.slice ma os1.length mc)] 146 (0, 0)) := by
      rw [<- hZ1]
      have := Go.heap_setCell_same Y2 pb 0 _ 146 (.slice (some ⟨g, 0, none⟩) (ps1.length + 1) c2) hb2h
      simpa using this
     have oz := only_setCell Y2 pb 0 (.slice (some ⟨g, 0, none⟩) (ps1.length + 1) c2)
     rw [hZ1] at oz
     have r2z : Z1.ownsRow w0.heap.size 30 3 (.slice (some ⟨g, 0, none⟩) (ps1.length + 1) c2) (ps1.length + 1) (flatT ps1 ++ [.int .i64 0, .string ⟨#[]⟩, .slice none 0 0]) := rowL_keep r2 (fun g' hg' => oz.block g' (by obtain ⟨_, cur, hcc⟩ := row_block r2 hg'; exact (Array.getElem?_eq_some_iff.1 hcc).1) (by have : g' = g := (Option.some.inj hg').symm; subst this; simpa using hgp))
     obtain ⟨g', c', he', _, Z, hrunz, rz, ozz⟩ := row_store r2z hlf (.int .i64 t.v) (.string t.fn) (.slice a t.args.length c) (by intro y hy; simp only [List.mem_cons, List.not_mem_nil, or_false] at hy; rcases hy with rfl | rfl | rfl <;> rfl)
     obtain rfl : g = g' := by have := (Value.slice.inj he').1; simpa using this
     have hM : Md w0 Xd pb (.slice la ps1.length lc) (.slice ma os1.length mc) (.slice (some ⟨g, 0, none⟩) (ps1.length + 1) c2) ps1.length (flatT ps1 ++ [.int .i64 t.v, .string t.fn, .slice a t.args.length c]) Z := md_of hhd (fun g hg => ⟨(pl1 g hg).1, HE.out.1.ly.there g (by simp [hg])⟩) hb1 g2 (g := g) rfl hb2 ((show Only [g, pb] Y2 Z1 from ⟨oz.os, oz.tape, oz.output, oz.size, fun k hk hn => oz.block k hk (by simp at hn ⊢; exact hn.2)⟩).trans ozz (fun r hr => .inl (by simp at hr; simp [hr]))) ((ozz.block pb (Array.getElem?_eq_some_iff.1 hd1).1 (by simpa using fun e => hgp e.symm)).trans hd1) rz
     have hOz : Only (pbs pb (.slice la ps1.length lc) (.slice ma os1.length mc)) Xd Z1 := hO2.trans oz (fun r hr => .inl (List.mem_cons.2 (.inl (List.mem_singleton.1 hr))))
     refine hK.out _ _ (by rw [hZ1]; exact hOz) (fun _ => ?_)
     rw [hZ1]
     clear hK K hZ1 z0 zf
     try simp only [Act.put, List.setIfInBounds_toArray, List.set_cons_zero, List.set_cons_succ]
     refine wpAnyH_ready (rs := [9]) (by kernel_rfl) (by simp) (AllReadyH.cons (o := ⟨_, _, _, _, _, _⟩) rfl (fun K hK => ?_) AllReadyH.nil)
     rw [if_pos (by rfl)]
     refine wp_store_run 30 _ _ rfl (.pointer (some ⟨g, ps1.length * 3, none⟩)) (tval t (.slice a t.args.length c)) rfl rfl hrunz ?_
     refine hK.out _ _ (hOz.trans ozz (fun r hr => by
      have : r = g := by simpa using hr
      subst this
      rcases hb2 with e | e
      ·exact .inl (by simp only [pbs, List.mem_cons, List.mem_append, Option.mem_toList]; exact .inr (.inl e.symm))
      ·have : r = _ := Option.some.inj e
       exact .inr (by simp at this; omega))) (fun _ => ?_)
     clear hK K
     refine wpAnyH_done (by kernel_rfl) ?_ _
     try simp only [Act.put]
     have HM : Hid (Md w0 Xd pb (.slice la ps1.length lc) (.slice ma os1.length mc) (.slice (some ⟨g, 0, none⟩) (ps1.length + 1) c2) ps1.length (flatT ps1 ++ [.int .i64 t.v, .string t.fn, .slice a t.args.length c]) Z) := hM
     have c0 : Z.cell? ⟨pb, 0, none⟩ = some (.slice (some ⟨g, 0, none⟩) (ps1.length + 1) c2) := by have := hM.head; simp [World.cell?, this]
     have c1 : Z.cell? ⟨pb, 1, none⟩ = some (.slice ma os1.length mc) := by have := hM.head; simp [World.cell?, this]
     have hb7 := below_box Z (.cells #[(.slice oa ids.length oc)] 23)
     have hrow7 : (Z.alloc (.cells #[(.slice oa ids.length oc)] 23)).ownsRow w0.heap.size 23 1 (.slice ma os1.length mc) os1.length (os1.map (·.1)) := rowL_keep HE.out.1.ly.ro (fun g' hg' => by
      obtain ⟨_, cur, hcc⟩ := row_block HE.out.1.ly.ro hg'
      have hlt' := (Array.getElem?_eq_some_iff.1 hcc).1
      exact (hb7.block g' (Nat.lt_of_lt_of_le hlt' hM.sz)).trans (hM.kp g' hlt' (fun e => (pl1 g' e).2 hg') (pl2 g' hg')))
     have hlz : w0.heap.size <= Z.heap.size := Nat.le_trans hlow0 hM.sz
     have HP : Hid (∀ Y6 vo', (Z.alloc (.cells #[(.slice oa ids.length oc)] 23)).grownBy Y6 (Value.slice ma os1.length mc).ownBlock -> Y6.heap[pb]? = some (.cells #[(.slice (some ⟨g, 0, none⟩) (ps1.length + 1) c2), (.slice ma os1.length mc)] 146 (0, 0)) ∧ (Y6.setCell ⟨pb, 1, none⟩ vo').heap[pb]? = some (.cells #[(.slice (some ⟨g, 0, none⟩) (ps1.length + 1) c2), vo'] 146 (0, 0))) := fun Y6 vo' g6 => by
      have e1 := (hb7.block pb (Array.getElem?_eq_some_iff.1 hM.head).1).trans hM.head
      have e2 := (g6.block pb (Array.getElem?_eq_some_iff.1 e1).1 (fun e => pl2 pb e.symm rfl)).trans e1
      have := Go.heap_setCell_same Y6 pb 1 _ 146 vo' e2
      exact ⟨e2, by simpa using this⟩
     clear hM r2 g2 hb2 r3 o3 hrun hgl hO2 hO3 hb3 q4 hbox hrow1 hb1 hHeld hhd hpbl n0 n1 nf0 nf1
     go_wp2_with (first
      | (at_builtin; refine wpList_append_own_at _ rfl _ _ 144 rfl w0.heap.size 23 i23 _ 1 24 Tryz.underlying144 hi23 hz23a hz23b hz23c rfl (by decide) _ _ _ rfl hrow7 ⟨Z.heap.size, 0, none⟩ 1 1 [(.slice oa ids.length oc)] rfl rfl (fun j u hj => by { rw [Addr.add_mid, Nat.zero_add, cell_of_row _ _ _ _ 23 (0, 0) (MapKept.heap_alloc Z _).1]; simpa using hj }) (by intro u hu; obtain rfl : u = (.slice oa ids.length oc) := (by simpa using hu); rfl) (by unfold maxLen; omega) (by omega) (by simp; omega) ?_; intro v6 Y6 r6 g6 hnil6 hb6; obtain ⟨a6, c6, rfl⟩ := row_slice r6; obtain ⟨u1, u2⟩ := HP.out Y6 (.slice a6 (os1.length + 1) c6) g6; have y1 : Y6.cell? ⟨pb, 1, none⟩ = some (.slice ma os1.length mc) := (by simp [World.cell?, u1]); have yf : Y6.frozen? ⟨pb, 1, none⟩ = false := (by simp [World.frozen?, u1]); have y0 : Y6.cell? ⟨pb, 0, none⟩ = some (.slice (some ⟨g, 0, none⟩) (ps1.length + 1) c2) := (by simp [World.cell?, u1])))
     go_ret
     have hsz := sizs_arg t
     obtain ⟨e1, e2, e3, e4, e5, e6⟩ := HE.out
     have hWX := e1.on.size
     obtain ⟨w1, w2, w3, w4⟩ := e1.ly.snocM e5 e2 e3 (row_base e1.ow e6) HM.out hb7 g6 hb6 r6
     refine ⟨ps1.length, _, _, _, _, rfl, w1, e1.prp.trans (List.prefix_append _ _), e1.pro.trans (List.prefix_append _ _), by simp, by simp; omega, ⟨by simp, by simp⟩, e1.on.trans w2 e1.bs, fun g' hg' => ?_, fun g' hg' => ?_, fun o ho => ?_⟩
     ·rcases w3 g' hg' with k | k
      ·rcases e1.hvl g' k with k | k
       ·exact .inl k
       ·exact .inr (by omega)
      ·exact .inr (by omega)
     ·rcases w4 g' hg' with k | k
      ·rcases e1.hvo g' k with k | k
       ·exact .inl k
       ·exact .inr (by omega)
      ·exact .inr (by omega)
     ·rcases List.mem_append.1 ho with ho | ho
      ·exact e1.nw o ho
      ·obtain rfl : o = ((.slice oa ids.length oc), ids) := by simpa using ho
       exact .inr fun g' hg' => (row_block e1.ow hg').1
theorem rlay_any (w0 : World) (pb : Nat) (t : T) : LayOk w0 pb t := by
 induction t using T.ind with
 | _ t ih => exact lay_one w0 pb t ih
open Classical in
noncomputable def fdB (g : Sg) : List T -> List T -> Bool
 | x :: r, y :: s => if x = y then fdB g r s else lgB g x y
 | _, _ => false
theorem fdB_iff {g : Sg} : ∀ {A B : List T}, fdB g A B = true ↔ lx (lg g) A B
 | [], B => by simp [fdB, lx]
 | x :: r, [] => by simp [fdB, lx]
 | x :: r, y :: s => by
  unfold fdB lx
  by_cases h : x = y
  ·rw [if_pos h, fdB_iff]
   exact ⟨fun k => .inl ⟨h, k⟩, fun k => by
    rcases k with k | k
    ·exact k.2
    ·exact absurd h k.1⟩
  ·rw [if_neg h, lgB_iff]
   exact ⟨fun k => .inr ⟨h, k⟩, fun k => by
    rcases k with k | k
    ·exact absurd k.1 h
    ·exact k.2⟩
theorem one_step (g : Sg) (s t : T) :
  (s.fn.size = 0 -> lgB g s t = false) ∧
  (s.fn.size ≠ 0 -> (∃ a ∈ s.args, a = t ∨ lg g a t) -> lgB g s t = true) ∧
  (s.fn.size ≠ 0 -> (¬ ∃ a ∈ s.args, a = t ∨ lg g a t) -> t.fn.size = 0 -> lgB g s t = false) ∧
  (s.fn.size ≠ 0 -> (¬ ∃ a ∈ s.args, a = t ∨ lg g a t) -> t.fn.size ≠ 0 -> (¬ ∀ b ∈ t.args, lg g s b) -> lgB g s t = false) ∧
  (s.fn.size ≠ 0 -> (¬ ∃ a ∈ s.args, a = t ∨ lg g a t) -> t.fn.size ≠ 0 -> (∀ b ∈ t.args, lg g s b) -> (s.fn ≠ t.fn ∨ s.args.length ≠ t.args.length) -> lgB g s t = tsymB g s t) ∧
  (s.fn.size ≠ 0 -> (¬ ∃ a ∈ s.args, a = t ∨ lg g a t) -> t.fn.size ≠ 0 -> (∀ b ∈ t.args, lg g s b) -> s.fn = t.fn -> s.args.length = t.args.length -> lgB g s t = fdB g s.args t.args) := by
 have no : ∀ {x y : T}, ¬ lg g x y -> lgB g x y = false := fun {x y} h => by
  cases e : lgB g x y
  ·rfl
  ·exact absurd (lgB_iff.1 e) h
 refine ⟨fun h0 => no fun h => (lg_iff.1 h).1 h0, fun h0 h1 => lgB_iff.2 (lg_iff.2 ⟨h0, .inl h1⟩), fun h0 h1 h2 => no fun h => ?_, fun h0 h1 h2 h3 => no fun h => ?_, fun h0 h1 h2 h3 h4 => ?_, fun h0 h1 h2 h3 h4 h5 => ?_⟩
 ·rcases (lg_iff.1 h).2 with k | k
  ·exact h1 k
  ·exact k.1 h2
 ·rcases (lg_iff.1 h).2 with k | k
  ·exact h1 k
  ·exact h3 k.2.1
 ·cases e : tsymB g s t
  ·refine no fun h => ?_
   rcases (lg_iff.1 h).2 with k | ⟨_, _, k | ⟨k1, k2, _⟩⟩
   ·exact h1 k
   ·rw [tsymB_iff.2 k] at e; cases e
   ·rcases h4 with h4 | h4
    ·exact h4 k1
    ·exact h4 k2
  ·exact lgB_iff.2 (lg_iff.2 ⟨h0, .inr ⟨h2, h3, .inl (tsymB_iff.1 e)⟩⟩)
 ·cases e : fdB g s.args t.args
  ·refine no fun h => ?_
   rcases (lg_iff.1 h).2 with k | ⟨_, _, k | ⟨_, _, k⟩⟩
   ·exact h1 k
   ·rw [h4, h5] at k
    exact sym_irrefl g _ _ k
   ·rw [fdB_iff.2 k] at e; cases e
  ·exact lgB_iff.2 (lg_iff.2 ⟨h0, .inr ⟨h2, h3, .inr ⟨h4, h5, fdB_iff.1 e⟩⟩⟩)
end Go.Proofs.YtglphfhlpobgcaaGreat
