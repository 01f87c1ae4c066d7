/-
  subst.Compose, where what comes is sorted as it is joined.
-/
import Derived.Test.YthinbkpjggihdaaSQ
namespace Go.Proofs.Ythinbkpjggihdaa
open Go.RowKit Go.Maps

theorem BindsFr.keep {W W' : World} {g n : Nat} {l : List Bd} (h : BindsFr W g n l) (hb : Below W.heap.size W W') : BindsFr W' g n l := by
  obtain ⟨arr, h1, h2⟩ := h.blk
  have hlt : g < W.heap.size := (Array.getElem?_eq_some_iff.1 h1).1
  refine ⟨h.len, ⟨arr, (hb.block g hlt).trans h1, h2⟩, fun j hj => ?_⟩
  obtain ⟨s, c0, c1, c2, c3, hs⟩ := h.el j hj
  exact ⟨s, kc hb hlt c0, kc hb hlt c1, kc hb hlt c2, kc hb hlt c3, hs.keep hb.size (fun k _ hk => hb.block k hk)⟩

/-- What s does, then r, as it is joined. -/
noncomputable def joined (s r : List Bd) : List Bd := (s.filter (lastB r)).map (fun x => (x.1, x.2.app (img r))) ++ (r.filter fun x => !boundB s x.1).map (fun x => (x.1, x.2.app var))

/-- What stands in Compose. -/
structure CoI (w : World) (s r : List Bd) (v u : Value) (X : World) : Prop where
  bs : BindsAt X v s
  br : BindsAt X u r
  bel : Below w.heap.size w X

theorem CoI.keep {w : World} {s r : List Bd} {v u : Value} {X X' : World} (h : CoI w s r v u X) (hb : Below X.heap.size X X') : CoI w s r v u X' := ⟨h.bs.keep hb, h.br.keep hb, h.bel.trans (hb.mono h.bel.size)⟩

theorem append_binds {W w' : World} {base g1 g2 n1 n2 : Nat} {l1 l2 : List Bd} {v' : Value} {ps1 ps2 : List (Bd × Value)} (e1 : ps1.map (·.1) = l1) (e2 : ps2.map (·.1) = l2) (a1 : ∀ p ∈ ps1, ArgsFr (g1 + 1) W p.2 p.1.2.args) (a2 : ∀ p ∈ ps2, ArgsFr (g2 + 1) W p.2 p.1.2.args) (hg : g1 ≤ g2) (hn1 : l1.length = n1) (hn2 : l2.length = n2)
    (hown : w'.ownsRow base 35 4 v' (n1 + n2) (flatB ps1 ++ flatB ps2)) (hgr : W.grownBy w' (some g1)) : BindsAt w' v' (l1 ++ l2) := by
  have hl : (ps1 ++ ps2).length = n1 + n2 := by rw [List.length_append, ← hn1, ← hn2, ← e1, ← e2, List.length_map, List.length_map]
  have h := binds_of_row (W := w') (base := base) (v := v') (ps := ps1 ++ ps2) (by rw [hl, flatB_append]; exact hown) (fun p hp => by
    have hk : ∀ {n}, g1 + 1 ≤ n → ArgsFr n W p.2 p.1.2.args → ArgsAt w' p.2 p.1.2.args := fun hn h => (h.keep hgr.size (fun k hk hlt => hgr.block k hlt (fun e => by have := Option.some.inj e; omega))).args
    rcases List.mem_append.1 hp with hp | hp
    · exact hk (Nat.le_refl _) (a1 p hp)
    · exact hk (by omega) (a2 p hp))
  rw [List.map_append, e1, e2] at h
  exact h

set_option maxRecDepth 100000 in
set_option maxHeartbeats 8000000 in
theorem compose_ok (s r : List Bd) (hs : Sb s) (hr : Sb r) (hfit : ∀ x ∈ s, fitsW (x.2.app (img r)) = 0) (h12 : (joined s r).length ≤ 12) (hris : Rising (joined s r)) (v u : Value) (w : World) (hv : BindsAt w v s) (hu : BindsAt w u r) :
    Calls Try.prog 16 #[v, u] w fun e W' => ∃ v', e = .returned (.tuple #[v', .int .i64 0]) ∧ BindsAt W' v' (joined s r) ∧ Below w.heap.size w W' := by
  have h13s : ∀ X, CoI w s r v u X → Calls Try.prog 13 #[v] X fun e X' => e = .returned (.int .i64 0) ∧ CoI w s r v u X' := fun X hX => (sright_any s v X hX.bs (fun x hx => (hs.rt x hx).short)).mono fun e X' ⟨he, hb⟩ => ⟨by rw [he, subW_t (isSub_iff.2 hs.sub)], hX.keep hb⟩
  have h13r : ∀ X, CoI w s r v u X → Calls Try.prog 13 #[u] X fun e X' => e = .returned (.int .i64 0) ∧ CoI w s r v u X' := fun X hX => (sright_any r u X hX.br (fun x hx => (hr.rt x hx).short)).mono fun e X' ⟨he, hb⟩ => ⟨by rw [he, subW_t (isSub_iff.2 hr.sub)], hX.keep hb⟩
  have h30 : ∀ X, CoI w s r v u X → Calls Try.prog 30 #[u] X fun e X' => ∃ B1 B2 g, e = .returned (.func (.func 57) #[] #[.pointer (some ⟨B1, 0, none⟩), .pointer (some ⟨B2, 0, none⟩)]) ∧ ExtAt X' r u B1 B2 g ∧ CoI w s r v u X' := fun X hX => (extents_any r u X hX.br hr.rt hr.sub.1).mono fun e X' ⟨⟨B1, B2, g, he, hE⟩, hb⟩ => ⟨B1, B2, g, he, hE, hX.keep hb⟩
  have h29 : ∀ X B1 B2 g x sl, x ∈ s → ExtAt X r u B1 B2 g → CoI w s r v u X → ArgsAt X sl x.2.args → Calls Try.prog 29 #[tval x.2 sl, .func (.func 57) #[] #[.pointer (some ⟨B1, 0, none⟩), .pointer (some ⟨B2, 0, none⟩)]] X fun e X' => e = .returned (.int .i64 0) ∧ ExtAt X' r u B1 B2 g ∧ CoI w s r v u X' := fun X B1 B2 g x sl hx hE hX ha => (fits_any X 57 _ (img r) eg57 (extents_of r hr.sub u B1 B2 g X hE) (img_size r hr.rt) x.2 sl X (Below.refl _ _) ha (hs.rt x hx).size).mono fun e X' ⟨he, hb⟩ => ⟨by rw [he, hfit x hx], hE.keep hb, hX.keep hb⟩
  have h35 : ∀ X, CoI w s r v u X → Calls Try.prog 35 #[v, u] X fun e X' => ∃ pa pc, e = .returned (.slice pa (s.filter (lastB r)).length pc) ∧ BindsAt X' (.slice pa (s.filter (lastB r)).length pc) (s.filter (lastB r)) ∧ CoI w s r v u X' := fun X hX => (lasting_any s r hr.sub hs.sub.1 v u X hX.bs hX.br).mono fun e X' ⟨v', he, hB, hb⟩ => by
    obtain ⟨pa, pc, rfl⟩ := hB.slice
    exact ⟨pa, pc, he, hB, hX.keep hb⟩
  have h36 : ∀ X, CoI w s r v u X → ∀ v1 l1, BindsAt X v1 l1 → Calls Try.prog 36 #[v, u] X fun e X' => ∃ pa pc, e = .returned (.slice pa (r.filter fun x => !boundB s x.1).length pc) ∧ BindsAt X' (.slice pa (r.filter fun x => !boundB s x.1).length pc) (r.filter fun x => !boundB s x.1) ∧ BindsAt X' v1 l1 ∧ CoI w s r v u X' := fun X hX v1 l1 h1 => (besides_any s r hs.sub hr.sub.1 v u X hX.bs hX.br).mono fun e X' ⟨v', he, hB, hb⟩ => by
    obtain ⟨pa, pc, rfl⟩ := hB.slice
    exact ⟨pa, pc, he, hB, h1.keep hb, hX.keep hb⟩
  obtain ⟨l1, hl1⟩ : ∃ l1, s.filter (lastB r) = l1 := ⟨_, rfl⟩
  obtain ⟨l2, hl2⟩ : ∃ l2, (r.filter fun x => !boundB s x.1) = l2 := ⟨_, rfl⟩
  have m1 : ∀ x ∈ l1, x ∈ s := fun x hx => (List.mem_filter.1 (hl1 ▸ hx)).1
  have m2 : ∀ x ∈ l2, x ∈ r := fun x hx => (List.mem_filter.1 (hl2 ▸ hx)).1
  rw [hl1] at h35
  rw [hl2] at h36
  have hj : joined s r = l1.map (fun x => (x.1, x.2.app (img r))) ++ l2.map (fun x => (x.1, x.2.app var)) := by unfold joined; rw [hl1, hl2]
  rw [hj] at h12 hris ⊢
  have n12 : l1.length + l2.length ≤ 12 := by simpa using h12
  have h38a : ∀ X B, CoI w s r v u X → ∀ v1, BindsAt X v1 l1 → ∀ v2, BindsAt X v2 l2 → X.cell? ⟨B, 0, none⟩ = some u → Calls Try.prog 38 #[v1, .func (.func 59) #[] #[.pointer (some ⟨B, 0, none⟩)]] X fun e X' => ∃ g, e = .returned (.slice (some ⟨g, 0, none⟩) l1.length l1.length) ∧ BindsFr X' g l1.length (l1.map fun x => (x.1, x.2.app (img r))) ∧ w.heap.size ≤ g ∧ g < X'.heap.size ∧ BindsAt X' v2 l2 ∧ CoI w s r v u X' := fun X B hX v1 h1 v2 h2 hB => (rebound_any X 59 _ (img r) eg59 (copies_stand r hr.sub u B X hX.br hB) l1 v1 X (Below.refl _ _) h1 (by omega) (fun x hx => (hs.rt x (m1 x hx)).shape)).mono fun e X' ⟨he, hF, hb⟩ => ⟨X.heap.size, he, hF, hX.bel.size, by obtain ⟨arr, ha, _⟩ := hF.blk; exact (Array.getElem?_eq_some_iff.1 ha).1, h2.keep hb, hX.keep hb⟩
  have h38b : ∀ X g, CoI w s r v u X → BindsFr X g l1.length (l1.map fun x => (x.1, x.2.app (img r))) → g < X.heap.size → ∀ v2, BindsAt X v2 l2 → Calls Try.prog 38 #[v2, .func (.func 39) #[] #[]] X fun e X' => ∃ g2, e = .returned (.slice (some ⟨g2, 0, none⟩) l2.length l2.length) ∧ BindsFr X' g2 l2.length (l2.map fun x => (x.1, x.2.app var)) ∧ g ≤ g2 ∧ BindsFr X' g l1.length (l1.map fun x => (x.1, x.2.app (img r))) ∧ CoI w s r v u X' := fun X g hX hF hg v2 h2 => (rebound_any X 39 #[] var eg39 (itself_stand X) l2 v2 X (Below.refl _ _) h2 (by omega) (fun x hx => (hr.rt x (m2 x hx)).shape)).mono fun e X' ⟨he, hF2, hb⟩ => ⟨X.heap.size, he, hF2, Nat.le_of_lt hg, hF.keep hb, hX.keep hb⟩
  have h0 : CoI w s r v u w := ⟨hv, hu, Below.refl _ _⟩
  have HS : Hid (BindsAt w v s) := hv
  obtain ⟨a, c, rfl⟩ := hv.slice
  obtain ⟨a', c', rfl⟩ := hu.slice
  have hlen := hs.sub.1
  obtain ⟨i0, hi0, hz0, hz1, hz2⟩ := info_parts Try.info35
  clear hl1 hl2 m1 m2 hj hfit hs hr hv hu h12
  go_enter Try.func16, Try.ntmps16
  go_wp2_with (first
    | (go_at_call 30; refine (h30 _ HW3).mono ?_; rintro e W4 ⟨B1, B2, ge, rfl, hE4, HW4⟩)
    | (go_at_call 13; refine (h13r _ HW2).mono ?_; rintro e W3 ⟨rfl, HW3⟩)
    | (go_at_call 13; refine (h13s _ h0).mono ?_; rintro e W2 ⟨rfl, HW2⟩))
  have HE4 : Hid (ExtAt W4 r (.slice a' r.length c') B1 B2 ge ∧ CoI w s r (.slice a s.length c) (.slice a' r.length c') W4) := ⟨hE4, HW4⟩
  clear hE4 HW4 HW2 HW3 h13s h13r h30 h0
  go_loopw [24] (fun vi wr => ∃ i : Nat, vi = .int .i64 i ∧ i ≤ s.length ∧ ExtAt wr r (.slice a' r.length c') B1 B2 ge ∧ CoI w s r (.slice a s.length c) (.slice a' r.length c') wr) (fun vi _ => s.length - (intOf vi).toNat)
  case atStart => exact ⟨0, rfl, Nat.zero_le _, HE4.out.1, HE4.out.2⟩
  case round =>
    obtain ⟨i, rfl, hi, hE, hX⟩ := hrel
    by_cases hlt : i < s.length
    · obtain ⟨b, o, sl, e', hB⟩ := hX.bs.nth hlt
      cases e'
      have hmem := List.getElem_mem hlt
      obtain ⟨x, hx⟩ : ∃ x, s[i] = x := ⟨_, rfl⟩
      rw [hx] at hB hmem
      obtain ⟨sa, sc, rfl, _, _⟩ := hB.sub.slice
      obtain ⟨g0, g1, g2, g3⟩ : wr.cell? ⟨b, o + i * 4, none⟩ = some (.int .i64 x.1) ∧ wr.cell? ⟨b, o + i * 4 + 1, none⟩ = some (.int .i64 x.2.v) ∧ wr.cell? ⟨b, o + i * 4 + 2, none⟩ = some (.string x.2.fn) ∧ wr.cell? ⟨b, o + i * 4 + 3, none⟩ = some (.slice sa x.2.args.length sc) := ⟨hB.c0, hB.c1, hB.c2, hB.c3⟩
      have hb1 := below_box wr (bbox x (.slice sa x.2.args.length sc))
      obtain ⟨k0, k1, k2, k3⟩ := bbox_cells wr x (.slice sa x.2.args.length sc)
      have hc := h29 _ B1 B2 ge x (.slice sa x.2.args.length sc) hmem (hE.keep hb1) (hX.keep hb1) (ArgsAt.keep hb1 (Nat.le_refl _) hB.sub)
      clear hB hx hmem hb1 hE hX h29 h35 h36 h38a h38b
      go_wp2_with (first | (go_at_call 29; refine hc.mono ?_; rintro e W5 ⟨rfl, hE5, HW5⟩))
      go_roundw
      case rel => exact ⟨i + 1, by go_num, by omega, hE5, HW5⟩
      case measure => simp [intOf]; omega
    · clear hE h29
      have h32 : ∀ X, CoI w s r (.slice a s.length c) (.slice a' r.length c') X → ∀ v1, BindsAt X v1 l1 → ∀ v2, BindsAt X v2 l2 → Calls Try.prog 32 #[.slice a' r.length c'] X fun e X' => ∃ B, e = .returned (.func (.func 59) #[] #[.pointer (some ⟨B, 0, none⟩)]) ∧ X'.cell? ⟨B, 0, none⟩ = some (.slice a' r.length c') ∧ BindsAt X' v1 l1 ∧ BindsAt X' v2 l2 ∧ CoI w s r (.slice a s.length c) (.slice a' r.length c') X' := fun X hX v1 h1 v2 h2 => (copies_any a' r.length c' X).mono fun e X' ⟨he, hx⟩ => by
        subst hx
        exact ⟨X.heap.size, he, by rw [World.cell?_alloc_new]; rfl, h1.keep (below_box X _), h2.keep (below_box X _), hX.keep (below_box X _)⟩
      have hrs : ∀ X v', BindsAt X v' (l1.map (fun x => (x.1, x.2.app (img r))) ++ l2.map (fun x => (x.1, x.2.app var))) → Calls Try.prog 37 #[v'] X fun e X' => e = .returned v' ∧ Below X.heap.size X X' := fun X v' h => rising_any _ v' X h hris (by simp; omega)
      go_wp2_with (first
        | (go_at_call 37; refine (hrs _ _ HB9.out.1).mono ?_; rintro e W10 ⟨rfl, hb10⟩)
        | (at_builtin; refine wpList_append_own_at _ rfl _ _ 22 rfl w.heap.size 35 i0 (.agg #[.int .i64 0, .int .i64 0, .string ⟨#[]⟩, .slice none 0 0]) 4 56 Try.underlying22 hi0 hz0 hz1 hz2 rfl (by decide) _ _ _ rfl HP1.out.2.2 ⟨gB, 0, none⟩ l2.length l2.length (flatB ps2) rfl HP2.out.2.2.1 HP2.out.2.2.2.1 HP2.out.2.2.2.2 (by unfold maxLen; omega) (by omega) HW8.bel.size ?_; intro v9 W9 h2 h3 _ _; obtain ⟨pa9, pc9, rfl⟩ := rowB_form h2; have HB9 : Hid (BindsAt W9 (.slice pa9 (l1.length + l2.length) pc9) (l1.map (fun x => (x.1, x.2.app (img r))) ++ l2.map (fun x => (x.1, x.2.app var))) ∧ Below w.heap.size w W9) := ⟨append_binds HP1.out.1 HP2.out.1 HP1.out.2.1 HP2.out.2.1 hgg (by simp) (by simp) h2 h3, HW8.bel.trans ⟨h3.os, h3.tape, h3.output, h3.size, fun k hk => h3.block k (Nat.lt_of_lt_of_le hk HW8.bel.size) (fun e => by have h5 : k = gA := Option.some.inj e; omega)⟩⟩; clear h2 h3)
        | (go_at_call 38; refine (h38b _ gA HW7 hF7 hgl7 _ hB27).mono ?_; rintro e W8 ⟨gB, rfl, hF8, hgg, hF8a, HW8⟩; obtain ⟨ps1, e1, a1, o1⟩ := hF8a.flat (base := w.heap.size) (by omega) hgw; obtain ⟨ps2, e2, a2, o2⟩ := hF8.flat (base := w.heap.size) (by omega) (Nat.le_trans hgw hgg); have HP1 : Hid (ps1.map (·.1) = _ ∧ (∀ p ∈ ps1, ArgsFr (gA + 1) W8 p.2 p.1.2.args) ∧ W8.ownsRow w.heap.size 35 4 (.slice (some ⟨gA, 0, none⟩) l1.length l1.length) l1.length (flatB ps1)) := ⟨e1, a1, o1⟩; have HP2 : Hid (ps2.map (·.1) = _ ∧ (∀ p ∈ ps2, ArgsFr (gB + 1) W8 p.2 p.1.2.args) ∧ (flatB ps2).length = l2.length * 4 ∧ (∀ j q, (flatB ps2)[j]? = some q → W8.cell? ((⟨gB, 0, none⟩ : Addr).add j) = some q) ∧ (∀ q ∈ flatB ps2, q.oneCell' = true)) := ⟨e2, a2, o2.1, o2.cells rfl, oneB ps2 (fun p hp => by { obtain ⟨pa, pc, hq⟩ := (a2 p hp).slice; exact ⟨pa, _, pc, hq⟩ })⟩; clear e1 a1 o1 e2 a2 o2)
        | (go_at_call 38; refine (h38a _ B HW6c _ hB16 _ hB26 hBc).mono ?_; rintro e W7 ⟨gA, rfl, hF7, hgw, hgl7, hB27, HW7⟩)
        | (go_at_call 32; refine (h32 _ HW6 _ hB16' _ hB26').mono ?_; rintro e W6c ⟨B, rfl, hBc, hB16, hB26, HW6c⟩)
        | (go_at_call 36; refine (h36 _ HW5 _ _ hB15).mono ?_; rintro e W6 ⟨pa2, pc2, rfl, hB26', hB16', HW6⟩)
        | (go_at_call 35; refine (h35 _ hX).mono ?_; rintro e W5 ⟨pa1, pc1, rfl, hB15, HW5⟩))
      go_ret2
      exact ⟨_, rfl, HB9.out.1.keep hb10, HB9.out.2.trans (hb10.mono HB9.out.2.size)⟩

end Go.Proofs.Ythinbkpjggihdaa
