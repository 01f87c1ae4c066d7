import Derived.Test.YtglphfhlpobgcaaGreatWR
import Derived.Test.YtglphfhlpobgcaaGreatWS
import Derived.Test.YtglphfhlpobgcaaGreatShelfB
import Derived.Shelf.SlSortCmp.InsertionK
import Derived.Test.YtglphfhlpobgcaaGreatWP
import Derived.Test.YtglphfhlpobgcaaGreatWM
namespace Go.Proofs.YtglphfhlpobgcaaGreat
set_option maxRecDepth 100000
set_option maxHeartbeats 4000000
open Go.RowKit Go.Maps Go.Sort Go.Lib
def encS (s : Sym) : List Value := [.string s.1, .int .i64 (s.2 : Int)]
theorem flatS_len (ss : List Sym) : (flatS ss).length = ss.length * 2 := by
 induction ss with
 | nil => rfl
 | cons s r ih =>
  have e : flatS (s :: r) = [.string s.1, .int .i64 (s.2 : Int)] ++ flatS r := rfl
  rw [e, List.length_append, ih]
  simp
  omega
theorem flatS_get : ∀ (ss : List Sym) (i : Nat) (h : i < ss.length), (flatS ss)[i * 2]? = some (.string ss[i].1) ∧ (flatS ss)[i * 2 + 1]? = some (.int .i64 (ss[i].2 : Int))
 | [], i, h => absurd h (by simp)
 | p :: r, 0, _ => by simp [flatS]
 | p :: r, i + 1, h => by
  have ih := flatS_get r i (by simpa using h)
  have e : flatS (p :: r) = [.string p.1, .int .i64 (p.2 : Int)] ++ flatS r := rfl
  have hs : ∀ k, (flatS (p :: r))[2 + k]? = (flatS r)[k]? := fun k => by
   rw [e, List.getElem?_append_right (by simp)]
   simp
  have e0 : (i + 1) * 2 = 2 + i * 2 := by omega
  rw [e0, show 2 + i * 2 + 1 = 2 + (i * 2 + 1) by omega, hs, hs]
  simpa using ih
section
variable [Inhabited Sym]
theorem flatK_encS (d : Array Sym) : flatK encS 2 d = (flatS d.toList).toArray := by
 refine ext_get! (by simp [flatS_len]) fun t ht => ?_
 have ht' : t < d.size * 2 := by simpa using ht
 rw [get_flatK encS 2 d t ht']
 have hi : t / 2 < d.size := by omega
 obtain ⟨f0, f1⟩ := flatS_get d.toList (t / 2) (by simpa using hi)
 have hx : d.toList[t / 2]'(by simpa using hi) = d[t / 2]! := by simp [hi]
 rw [hx] at f0 f1
 obtain ⟨x, hd⟩ : ∃ x, d[t / 2]! = x := ⟨_, rfl⟩
 rw [hd] at f0 f1 ⊢
 have hg : ∀ v, (flatS d.toList)[t]? = some v -> (flatS d.toList).toArray[t]! = v := fun v h => by simp [Array.getElem!_eq_getD, Array.getD_eq_getD_getElem?, h]
 have hr : t = t / 2 * 2 ∧ t % 2 = 0 ∨ t = t / 2 * 2 + 1 ∧ t % 2 = 1 := by omega
 rcases hr with ⟨h1, h2⟩ | ⟨h1, h2⟩
 ·rw [<- h1] at f0; rw [hg _ f0, h2]; rfl
 ·rw [<- h1] at f1; rw [hg _ f1, h2]; rfl
theorem rowS_holds {W : World} {base g cap n : Nat} {d : Array Sym} (h : W.ownsRow base 113 2 (.slice (some ⟨g, 0, none⟩) n cap) n (flatS d.toList)) : HoldsK encS 2 W g 0 d ∧ g < W.heap.size := by
 have hc := h.cells rfl
 rcases h.2 with ⟨e, _⟩ | ⟨g', cap', cur, e, hb, hg, hn, hm, hsz, ht⟩
 ·cases e
 ·cases e
  refine ⟨fun j hj => ?_, (Array.getElem?_eq_some_iff.1 hg).1⟩
  rw [flatK_encS] at hj ⊢
  have hj' : j < (flatS d.toList).length := by simpa using hj
  have h1 := hc j _ (List.getElem?_eq_getElem hj')
  have ea : (⟨g, 0, none⟩ : Addr).add j = ⟨g, j, none⟩ := by unfold Addr.add; split <;> simp_all
  rw [ea] at h1
  rw [Nat.zero_add]
  refine ⟨?_, by simp [World.frozen?, hg]⟩
  rw [h1]
  simp [hj']
theorem sortS_row {W : World} {base g cap n : Nat} {d d' : Array Sym} (h : W.ownsRow base 113 2 (.slice (some ⟨g, 0, none⟩) n cap) n (flatS d.toList)) (hs : d'.size = d.size) (m : Nat) (os : Array Obj) :
  (sortWorldK encS 2 W g 0 m d' os).ownsRow base 113 2 (.slice (some ⟨g, 0, none⟩) n cap) n (flatS d'.toList) ∧ W.grownBy (sortWorldK encS 2 W g 0 m d' os) (some g) := by
 have hlen : (flatS d.toList).length = n * 2 := h.1
 have hlen' : (flatS d'.toList).length = n * 2 := by rw [flatS_len] at hlen ⊢; simp at hlen ⊢; omega
 rcases h.2 with ⟨e, _⟩ | ⟨g', cap', cur, e, hb, hg, hn, hm, hsz, ht⟩
 ·cases e
 ·cases e
  have hlt : g < W.heap.size := (Array.getElem?_eq_some_iff.1 hg).1
  have hsz2 : (putRowK encS 2 (Sort.ahead W m) g 0 d').heap.size = W.heap.size := by unfold putRowK putRow mapBlock; simp [Sort.ahead]
  have hk : ∀ k, k < W.heap.size -> (sortWorldK encS 2 W g 0 m d' os).heap[k]? = (putRowK encS 2 (Sort.ahead W m) g 0 d').heap[k]? := fun k hk => by
   unfold sortWorldK grow
   exact Array.getElem?_append_left (by rw [hsz2]; exact hk)
  have ho : ∀ k, k < W.heap.size -> k ≠ g -> (sortWorldK encS 2 W g 0 m d' os).heap[k]? = W.heap[k]? := fun k h1 h2 => by
   rw [hk k h1]
   unfold putRowK putRow mapBlock
   simp only [Array.getElem?_modify]
   rw [if_neg (Ne.symm h2)]
   rfl
  have hgg : (sortWorldK encS 2 W g 0 m d' os).heap[g]? = some (.cells (putCells id 0 (flatK encS 2 d') cur) 113 (0, 0)) := by
   rw [hk g hlt]
   unfold putRowK putRow mapBlock
   simp only [Array.getElem?_modify, if_true]
   have : (Sort.ahead W m).heap[g]? = W.heap[g]? := rfl
   rw [this, hg]
   rfl
  refine ⟨⟨hlen', .inr ⟨g, cap, _, rfl, hb, hgg, hn, hm, by unfold putCells; simp [hsz], ?_⟩⟩, ⟨rfl, rfl, rfl, ?_, fun k h1 h2 => ho k h1 (fun e => h2 (by rw [e]))⟩⟩
  ·have hn4 : n * 2 <= cur.size := by rw [hsz]; omega
   refine List.ext_getElem? fun k => ?_
   by_cases hk4 : k < n * 2
   ·rw [List.getElem?_take, if_pos hk4, flatK_encS]
    unfold putCells
    have hz : k < 0 + (flatS d'.toList).length := by omega
    simp only [Array.getElem?_toList, Array.getElem?_mapIdx, List.size_toArray, Nat.zero_le, true_and, hz, if_true, Nat.sub_zero]
    rw [Array.getElem?_eq_getElem (by omega), Option.map_some, List.getElem?_eq_getElem (by omega)]
    simp [show k < (flatS d'.toList).length by omega]
   ·rw [List.getElem?_eq_none (by simp; omega), List.getElem?_eq_none (by omega)]
  ·unfold sortWorldK grow
   show W.heap.size <= ((putRowK encS 2 (Sort.ahead W m) g 0 d').heap ++ os).size
   rw [Array.size_append, hsz2]
   omega
end
theorem ltS (G : Sg) (x y : Sym) : ltOf (scmp G) x y = symB G y x := by
 unfold ltOf scmp
 by_cases h1 : symB G x y = true
 ·rw [if_pos h1]
  cases h2 : symB G y x
  ·rfl
  ·exact absurd (sym_trans (symB_iff.1 h1) (symB_iff.1 h2)) (sym_irrefl G _ _)
 ·rw [if_neg h1]
  cases h2 : symB G y x
  ·simp
  ·simp
theorem swoS (G : Sg) : SWO (ltOf (scmp G)) where
 irrefl x := by
  rw [ltS]
  cases h : symB G x x
  ·rfl
  ·exact absurd (symB_iff.1 h) (sym_irrefl G _ _)
 trans x y z h1 h2 := by
  rw [ltS] at *
  exact symB_iff.2 (sym_trans (symB_iff.1 h2) (symB_iff.1 h1))
 ntrans x y z h1 h2 := by
  rw [ltS] at *
  cases h : symB G z x
  ·rfl
  ·exfalso
   by_cases e : x.1 ≠ y.1 ∨ x.2 ≠ y.2
   ·rcases sym_total G e with k | k
    ·have := symB_iff.2 (sym_trans (symB_iff.1 h) k)
     rw [this] at h2; cases h2
    ·rw [symB_iff.2 k] at h1; cases h1
   ·have e1 : x.1 = y.1 := Classical.byContradiction fun k => e (.inl k)
    have e2 : x.2 = y.2 := Classical.byContradiction fun k => e (.inr k)
    have : x = y := Prod.ext e1 e2
    subst this
    rw [h] at h2; cases h2
theorem encS_one (x : Sym) : ∀ v ∈ encS x, v.oneCell' = true := by
 intro v hv
 unfold encS at hv
 simp only [List.mem_cons, List.not_mem_nil, or_false] at hv
 rcases hv with rfl | rfl <;> rfl
theorem eg43 : ∀ args w, (callFunc 80 args).run Tryz.prog w = .ok (.enter 80 args) w := enters_of Tryz.func80 (by kernel_rfl) rfl
def SortedS (G : Sg) (ss : List Sym) : Prop := ∀ i j (hj : j < ss.length) (hij : i < j), symB G ss[i] ss[j] = false
theorem insertS_none (a : Option Addr) (c : Nat) (fv : Value) (w : World) : Calls Tryz.prog 154 #[.slice a 0 c, .int .i64 0, .int .i64 0, fv] w fun e w' => e = .returned (.tuple #[]) ∧ w' = w := by
 go_enter Tryz.func154, Tryz.ntmps154
 go_wp2
 refine wp_loop_rounds 1 ?_
 rw [rounds_succ]
 go_wp2
 go_end0
 exact ⟨rfl, rfl⟩
theorem pdqS_none (a : Option Addr) (c : Nat) (l : Int) (fv : Value) (w : World) : Calls Tryz.prog 146 #[.slice a 0 c, .int .i64 0, .int .i64 0, .int .i64 l, fv] w fun e w' => e = .returned (.tuple #[]) ∧ w' = w := by
 go_enter Tryz.func146, Tryz.ntmps146
 go_wp2
 refine wp_loop_rounds 1 ?_
 rw [rounds_succ]
 go_wp2_with (first | (go_at_call 154; refine (insertS_none _ _ _ _).mono ?_; rintro e w' ⟨rfl, rfl⟩))
 (try simp only [Exit.inBlock, Exit.then]); refine bodyPost_ret (results_none rfl _ _ _) rfl ?_
 exact ⟨rfl, rfl⟩
theorem sortS_none (a : Option Addr) (c : Nat) (fv : Value) (w : World) : Calls Tryz.prog 120 #[.slice a 0 c, fv] w fun e w' => e = .returned (.tuple #[]) ∧ w' = w := by
 have hl : ∀ W, Calls Tryz.prog 147 #[.int .u64 0] W fun e w' => e = .returned (.int .i64 (Lib.bitLen 0 : Nat)) ∧ w' = W := fun W => by
  have h := Any.bits_Len (SlLaysF0.n15.bits (P := Tryz.prog) (ρ := Tryz.sortL_ren) { Tryz.sortL with }) (0 : Int) W (by omega) (by omega)
  exact h
 go_enter Tryz.func120, Tryz.ntmps120
 go_wp2_with (first | (go_at_call 147; refine (hl _).mono ?_; rintro e w' ⟨rfl, rfl⟩) | (go_at_call 146; refine (pdqS_none _ _ _ _ _).mono ?_; rintro e w' ⟨rfl, rfl⟩))
 go_end0
 exact ⟨rfl, rfl⟩
theorem sortS_any (G : Sg) (vn vw : Value) (gb : Nat) (wB : World) (hg : SgAt wB G vn vw) (g0 : wB.cell? ⟨gb, 0, none⟩ = some vn) (g1 : wB.cell? ⟨gb, 1, none⟩ = some vw) (hgb : gb < wB.heap.size)
  (ss : List Sym) (v : Value) (n : Nat) (W : World) (hb : Below wB.heap.size wB W) (h : W.ownsRow wB.heap.size 113 2 v n (flatS ss)) (hn : n <= 1000000) :
  Calls Tryz.prog 120 #[v, .func (.func 80) #[] #[.pointer (some ⟨gb, 0, none⟩)]] W fun e W' => e = .returned (.tuple #[]) ∧ ∃ ss' : List Sym, ss'.Perm ss ∧ SortedS G ss' ∧ W'.ownsRow wB.heap.size 113 2 v n (flatS ss') ∧ W.grownBy W' v.ownBlock := by
 haveI : Inhabited Sym := ⟨(⟨#[]⟩, 0)⟩
 have hlen : ss.length = n := by have := h.1; rw [flatS_len] at this; omega
 have h2 := h.2
 rcases h2 with ⟨rfl, h0⟩ | ⟨g, cap, cur, rfl, hbase, _, _, _, _, _⟩
 ·have e : ss = [] := List.eq_nil_of_length_eq_zero (by omega)
  subst e
  refine (sortS_none none 0 _ W).mono fun e W' ⟨he, hw⟩ => ⟨he, [], List.Perm.refl _, fun i j hj => absurd hj (by simp), ?_, ?_⟩
  ·subst hw; exact h
  ·subst hw
   exact ⟨rfl, rfl, rfl, Nat.le_refl _, fun _ _ _ => rfl⟩
 ·have hd : ss.toArray.toList = ss := by simp
  have h' : W.ownsRow wB.heap.size 113 2 (.slice (some ⟨g, 0, none⟩) n cap) n (flatS ss.toArray.toList) := by rw [hd]; exact h
  obtain ⟨hH, hlt⟩ := rowS_holds h'
  have hs : ss.toArray.size = n := by simpa using hlen
  have hcmp : CmpLays Tryz.prog 80 #[.pointer (some ⟨gb, 0, none⟩)] encS 2 (scmp G) g 0 ss.toArray.size W := fun m os dk hdk x y => by
   obtain ⟨_, hgr⟩ := sortS_row (d' := dk) h' hdk m os
   have hbX : Below wB.heap.size wB (sortWorldK encS 2 W g 0 m dk os) := hb.grown hgr hb.size (fun k e => by cases e; exact hbase)
   refine (scmpG_any G x y gb vn vw _ (hg.keep hbX (Nat.le_refl _)) (kc hbX hgb g0) (kc hbX hgb g1) (Nat.lt_of_lt_of_le hgb hbX.size)).mono ?_
   rintro e w' ⟨rfl, p, rfl⟩
   exact ⟨rfl, p.q, p.os, rfl⟩
  have hcon := AnyQ.slices_SortFunc Tryz.sortL 2 Tryz.isAgg113 Tryz.sizeOf113 encS (fun _ => rfl) encS_one (scmp G) (swoS G) 80 #[.pointer (some ⟨gb, 0, none⟩)] g 0 cap ss.toArray W eg43 hcmp hH hlt (by omega)
  rw [hs] at hcon
  refine Calls.mono (P := Tryz.prog) hcon fun e W' ⟨he, d', m, os, hp, hso, hw⟩ => ?_
  subst hw
  have hsz : d'.size = ss.toArray.size := hp.1
  obtain ⟨hr1, hr2⟩ := sortS_row h' hsz m os
  refine ⟨he, d'.toList, ?_, ?_, hr1, hr2⟩
  ·have := hp.2.2
   rw [<- hs, Array.extract_size] at this
   have e2 : d'.extract 0 ss.toArray.size = d' := by rw [<- hsz, Array.extract_size]
   rw [e2] at this
   simpa using this
  ·intro i j hj hij
   have hj' : j < d'.size := by simpa using hj
   have := hso i j (Nat.zero_le _) hij (by omega)
   rw [ltS] at this
   rw [getElem!_pos d' j hj', getElem!_pos d' i (by omega)] at this
   simpa using this
theorem eg62 : ∀ args w, (callFunc 121 args).run Tryz.prog w = .ok (.enter 121 args) w := enters_of Tryz.func121 (by kernel_rfl) rfl
theorem sortedFunc_any (G : Sg) (vn vw : Value) (gb Bm b : Nat) (Sy : List Sym) (ρ : Sym -> Nat) (w : World) (hg : SgAt w G vn vw) (g0 : w.cell? ⟨gb, 0, none⟩ = some vn) (g1 : w.cell? ⟨gb, 1, none⟩ = some vw) (hgb : gb < w.heap.size)
  (hn : Sy.Nodup) (hf : ∀ s ∈ Sy, s.1.size <= 64 ∧ s.2 <= 16) (hM : MapIs w 113 b (smap Sy ρ) Sy.length) (hBm : Bm < w.heap.size) (hm : w.cell? ⟨Bm, 0, none⟩ = some (.map (some b))) (hl : Sy.length <= 1000000) :
  Calls Tryz.prog 78 #[.func (.func 121) #[] #[.pointer (some ⟨Bm, 0, none⟩)], .func (.func 80) #[] #[.pointer (some ⟨gb, 0, none⟩)]] w fun e W' => ∃ v ss, e = .returned v ∧ ss.Perm Sy ∧ SortedS G ss ∧ W'.ownsRow w.heap.size 113 2 v ss.length (flatS ss) ∧ Below w.heap.size w W' := by
 have hcol := collect_any 121 #[.pointer (some ⟨Bm, 0, none⟩)] eg62 (fun ss => ss.Perm Sy) Sy.length hl w (fun W hW => keys1_any w Bm b Sy ρ hn hf hM.lt hM W hW (kc hW hBm hm))
 have hsort : ∀ (W : World) (v : Value) (ss : List Sym), ss.Perm Sy -> W.ownsRow w.heap.size 113 2 v ss.length (flatS ss) -> Below w.heap.size w W -> Calls Tryz.prog 120 #[v, .func (.func 80) #[] #[.pointer (some ⟨gb, 0, none⟩)]] W fun e W' => e = .returned (.tuple #[]) ∧ Hid (∃ ss', ss'.Perm Sy ∧ SortedS G ss' ∧ W'.ownsRow w.heap.size 113 2 v ss'.length (flatS ss') ∧ Below w.heap.size w W') := fun W v ss hp hr hb => by
  have hlen : ss.length <= 1000000 := by rw [hp.length_eq]; exact hl
  refine (sortS_any G vn vw gb w hg g0 g1 hgb ss v ss.length W hb hr hlen).mono ?_
  rintro e W' ⟨he, ss', hp', hs', hr', hgr⟩
  refine ⟨he, ss', hp'.trans hp, hs', by rw [hp'.length_eq]; exact hr', hb.grown hgr hb.size (fun k e => (hr.lt k e).1)⟩
 clear hg g0 g1 hM hm
 go_enter Tryz.func78, Tryz.ntmps78
 go_wp2_with fail
 refine hcol.mono ?_
 rintro e W2 ⟨v, ss, rfl, h1, h2, h3⟩
 have hs := hsort W2 v ss h1 h2 h3
 obtain ⟨va, vc, rfl⟩ := row_slice h2
 clear hsort hcol h1 h2 h3
 go_wp2_with fail
 refine hs.mono ?_
 rintro e W3 ⟨rfl, HF⟩
 go_wp2
 go_ret
 obtain ⟨ss', q1, q2, q3, q4⟩ := HF.out
 exact ⟨_, ss', rfl, q1, q2, q3, q4⟩
def ixS (l : List Sym) (s : Sym) : Option Nat := l.findIdx? (fun x => decide (x = s))
def rkL (l : List Sym) (s : Sym) : Nat := match ixS l s with
 | some i => i + 1
 | none => 0
theorem ixS_none {l : List Sym} {x : Sym} : ixS l x = none ↔ x ∉ l := by
 unfold ixS
 rw [List.findIdx?_eq_none_iff]
 constructor
 ·intro h hx
  have := h x hx
  simp at this
 ·intro h y hy
  simp only [decide_eq_false_iff_not]
  exact fun e => h (e ▸ hy)
theorem ixS_some {l : List Sym} {x : Sym} (h : x ∈ l) : ∃ i, ixS l x = some i ∧ ∃ hi : i < l.length, l[i] = x := by
 cases e : ixS l x with
 | none => exact absurd h (ixS_none.1 e)
 | some i =>
  refine ⟨i, rfl, ?_⟩
  unfold ixS at e
  obtain ⟨h1, h2, _⟩ := List.findIdx?_eq_some_iff_getElem.1 e
  exact ⟨h1, by simpa using h2⟩
theorem rkL_in {l : List Sym} {x : Sym} (h : x ∈ l) : ∃ i, rkL l x = i + 1 ∧ ∃ hi : i < l.length, l[i] = x := by
 obtain ⟨i, e, hi⟩ := ixS_some h
 exact ⟨i, by unfold rkL; rw [e], hi⟩
theorem rkL_le (l : List Sym) (x : Sym) : rkL l x <= l.length := by
 by_cases h : x ∈ l
 ·obtain ⟨i, e, hi, _⟩ := rkL_in h
  omega
 ·unfold rkL
  rw [ixS_none.2 h]
  simp
theorem rkL_snoc {l : List Sym} {s : Sym} (h : s ∉ l) : rkL (l ++ [s]) = fun r => if r = s then l.length + 1 else rkL l r := by
 funext r
 unfold rkL ixS
 rw [List.findIdx?_append]
 by_cases e : r = s
 ·subst e
  rw [if_pos rfl]
  have : List.findIdx? (fun x => decide (x = r)) l = none := ixS_none.2 h
  rw [this]
  simp [List.findIdx?_cons]
 ·rw [if_neg e]
  cases hf : List.findIdx? (fun x => decide (x = r)) l with
  | some i => simp
  | none => simp [List.findIdx?_cons, Ne.symm e]
theorem ranks_of {G : Sg} {Sy ss : List Sym} (hp : ss.Perm Sy) (hn : Sy.Nodup) (hs : SortedS G ss) : Ranks G Sy (rkL ss) := by
 have hnd : ss.Nodup := hp.nodup_iff.2 hn
 have main : ∀ (i j : Nat) (hj : j < ss.length) (hij : i < j), G.sym ss[j].1 ss[i].1 ss[j].2 ss[i].2 := fun i j hj hij => by
  have hno := hs i j hj hij
  have hne : ss[j] ≠ ss[i] := fun e => List.pairwise_iff_getElem.1 hnd i j (by omega) hj hij e.symm
  have ht : ss[j].1 ≠ ss[i].1 ∨ ss[j].2 ≠ ss[i].2 := by
   refine Classical.byContradiction fun k => hne (Prod.ext ?_ ?_)
   ·exact Classical.byContradiction fun e => k (.inl e)
   ·exact Classical.byContradiction fun e => k (.inr e)
  rcases sym_total G ht with k | k
  ·exact k
  ·rw [symB_iff.2 k] at hno; cases hno
 refine ⟨fun s hs' => ?_, fun s hs' r hr => ?_⟩
 ·obtain ⟨i, e, _⟩ := rkL_in (hp.mem_iff.2 hs')
  omega
 ·obtain ⟨j, ej, hj, hjs⟩ := rkL_in (hp.mem_iff.2 hs')
  obtain ⟨i, ei, hi, his⟩ := rkL_in (hp.mem_iff.2 hr)
  subst hjs his
  rw [ej, ei]
  constructor
  ·intro h
   exact main i j hj (by omega)
  ·intro h
   rcases Nat.lt_trichotomy i j with k | k | k
   ·omega
   ·subst k
    exact absurd h (sym_irrefl G _ _)
   ·exact absurd (sym_trans h (main j i hi k)) (sym_irrefl G _ _)
structure Heads (G : Sg) (ts : List T) (W : World) (br bv : Nat) (Sy : List Sym) (V : List Int) (ρ : Sym -> Nat) : Prop where
 mr : MapIs W 113 br (smap Sy ρ) Sy.length
 mv : MapIs W 3 bv (vmap V) V.length
 ne : br ≠ bv
 ns : Sy.Nodup
 nv : V.Nodup
 fs : ∀ s ∈ Sy, s.1.size <= 64 ∧ s.2 <= 16
 fv : ∀ v ∈ V, 0 <= v ∧ v < 1000000
 rk : Ranks G Sy ρ
 le : ∀ s, ρ s <= Sy.length
 st : ∀ t ∈ ts, ∀ s ∈ t.sy, s ∈ Sy
 vt : ∀ t ∈ ts, ∀ x ∈ t.vs, x ∈ V
 ln : Sy.length + V.length <= szs ts
 fe : ∀ s ∈ Sy, s.1.size ≠ 0
theorem box2_facts {W : World} {b : Nat} {x y : Value} {ty : TypeId} (h : W.heap[b]? = some (.cells #[x, y] ty (0, 0))) : (W.cell? ⟨b, 0, none⟩ = some x ∧ W.cell? ⟨b, 1, none⟩ = some y) ∧ W.frozen? ⟨b, 0, none⟩ = false ∧ W.frozen? ⟨b, 1, none⟩ = false := by
 refine ⟨⟨?_, ?_⟩, ?_, ?_⟩ <;> simp [World.cell?, World.frozen?, h]
theorem rowS_cells {W : World} {base g cap : Nat} {ss : List Sym} (h : W.ownsRow base 113 2 (.slice (some ⟨g, 0, none⟩) ss.length cap) ss.length (flatS ss)) (i : Nat) (hi : i < ss.length) : W.cell? ⟨g, i * 2, none⟩ = some (.string ss[i].1) ∧ W.cell? ⟨g, i * 2 + 1, none⟩ = some (.int .i64 (ss[i].2 : Int)) := by
 have hc := h.cells rfl
 obtain ⟨f0, f1⟩ := flatS_get ss i hi
 have h0 := hc _ _ f0
 have h1 := hc _ _ f1
 have ea : ∀ j, (⟨g, 0, none⟩ : Addr).add j = ⟨g, j, none⟩ := fun j => by unfold Addr.add; split <;> simp_all
 rw [ea] at h0 h1
 exact ⟨h0, h1⟩
theorem heads_any (G : Sg) (ts : List T) (vn vw sl : Value) (w : World) (hg : SgAt w G vn vw) (ha : ArgsAt w sl ts) (hsh : ∀ t ∈ ts, t.shape = true) (hsz : szs ts <= 100000) :
  Calls Tryz.prog 49 #[gval vn vw, sl] w fun e W' => ∃ br bv, e = .returned (.agg #[.map (some br), .map (some bv)]) ∧ (∃ Sy V ρ, Heads G ts W' br bv Sy V ρ) ∧ (w.heap.size <= br ∧ w.heap.size <= bv) ∧ Below w.heap.size w W' := by
 obtain ⟨an, cn, rfl, _, _⟩ := hg.ns.slice
 obtain ⟨aw, cw, rfl, _, _⟩ := hg.ws.slice
 obtain ⟨a, cc, rfl, hcc, hcm⟩ := ha.slice
 have hm1 := fun w => run_makeMap0 73 113 3 Tryz.underlying73 w
 have hm2 := fun w => run_makeMap0 74 3 3 Tryz.underlying74 w
 obtain ⟨N, hN⟩ : ∃ N, w.heap.size = N := ⟨_, rfl⟩
 obtain ⟨W1, e1⟩ : ∃ W, w.alloc (.cells #[.slice an G.ns.length cn, .slice aw G.ws.length cw] 38) = W := ⟨_, rfl⟩
 obtain ⟨W2, e2⟩ : ∃ W, W1.alloc (.cells #[.map none, .map none] 76) = W := ⟨_, rfl⟩
 obtain ⟨W3, e3⟩ : ∃ W, W2.alloc (.map #[] 0) = W := ⟨_, rfl⟩
 obtain ⟨W4, e4⟩ : ∃ W, W3.alloc (.map #[] 0) = W := ⟨_, rfl⟩
 obtain ⟨W5, e5⟩ : ∃ W, W4.alloc (.cells #[.map (some (N + 2)), .map (some (N + 3))] 76) = W := ⟨_, rfl⟩
 have s1 : W1.heap.size = N + 1 := by rw [<- e1]; simp [hN]
 have s2 : W2.heap.size = N + 2 := by rw [<- e2]; simp [s1]
 have s3 : W3.heap.size = N + 3 := by rw [<- e3]; simp [s2]
 have s4 : W4.heap.size = N + 4 := by rw [<- e4]; simp [s3]
 have s5 : W5.heap.size = N + 5 := by rw [<- e5]; simp [s4]
 have b1 : Below w.heap.size w W1 := by rw [<- e1]; exact below_box w _
 have b2 : Below W1.heap.size W1 W2 := by rw [<- e2]; exact below_box W1 _
 have b3 : Below W2.heap.size W2 W3 := by rw [<- e3]; exact below_box W2 _
 have b4 : Below W3.heap.size W3 W4 := by rw [<- e4]; exact below_box W3 _
 have b5 : Below W4.heap.size W4 W5 := by rw [<- e5]; exact below_box W4 _
 have b35 := b4.trans (b5.mono (by omega))
 have b25 := b3.trans (b35.mono (by omega))
 have b15 := b2.trans (b25.mono (by omega))
 have b05 := b1.trans (b15.mono (by omega))
 have hR2 : W2.heap[N + 1]? = some (.cells #[.map none, .map none] 76 (0, 0)) := by
  have := (MapKept.heap_alloc W1 (.cells #[.map none, .map none] 76)).1
  rw [e2, s1] at this
  exact this
 have hR5 : W5.heap[N + 1]? = some (.cells #[.map none, .map none] 76 (0, 0)) := (b25.block _ (by omega)).trans hR2
 have m3 : MapIs W3 113 (N + 2) (fun _ => none) 0 := by
  have := MapIs.made W2 113
  rw [e3, s2] at this
  exact this
 have m4 : MapIs W4 3 (N + 3) (fun _ => none) 0 := by
  have := MapIs.made W3 3
  rw [e4, s3] at this
  exact this
 have hH5 : Hd W5 (N + 2) (N + 3) [] [] := by
  have q1 : smap [] (fun _ => 0) = fun _ => none := by
   funext k
   unfold smap
   rw [dif_neg]
   rintro ⟨s, h, _⟩
   cases h
  have q2 : vmap [] = fun _ => none := by
   funext k
   cases k with
   | int kd x => cases kd <;> rfl
   | _ => rfl
  refine ⟨?_, ?_, by omega, List.nodup_nil, List.nodup_nil, fun _ h => (by cases h), fun _ h => (by cases h), fun _ h => (by cases h)⟩
  ·rw [q1]; exact m3.same (b35.block _ (by omega))
  ·rw [q2]; exact m4.same (b5.block _ (by omega))
 obtain ⟨c0, c1⟩ := box2_cells w (.slice an G.ns.length cn) (.slice aw G.ws.length cw) 38
 rw [e1, hN] at c0 c1
 have c05 := kc b15 (by omega) c0
 have c15 := kc b15 (by omega) c1
 obtain ⟨d05, d15⟩ := box2_cells W4 (.map (some (N + 2))) (.map (some (N + 3))) 76
 rw [e5, s4] at d05 d15
 have hP5 : ArgsP (Off (N + 2) (N + 3)) W5 (.slice a ts.length cc) ts := ha.belowP.keep b05.size (fun k hk hlt => ⟨⟨by omega, by omega⟩, b05.block k (by omega)⟩)
 have hcall := meet_any (N + 2) (N + 3) ts _ [] [] W5 hH5 hP5 hsh (by simpa using hsz)
 have HG : Hid (SgAt w G (.slice an G.ns.length cn) (.slice aw G.ws.length cw) ∧ Below w.heap.size w W5 ∧ W5.heap.size = N + 5 ∧ w.heap.size = N ∧ szs ts <= 100000 ∧ W5.heap[N + 1]? = some (.cells #[.map none, .map none] 76 (0, 0))) := ⟨hg, b05, s5, hN, hsz, hR5⟩
 clear hg ha hsh hsz b1 b2 b3 b4 b5 b35 b25 b15 b05 hR2 hR5 m3 m4 hH5 c0 c1 hP5 s5
 go_enter Tryz.func49, Tryz.ntmps49
 go_wp2_with fail
 refine hcall.mono ?_
 rintro e W6 ⟨⟨v6, rfl⟩, Sy, V, hM6⟩
 have hO6 := hM6.on
 have sz6 := hO6.size
 have g6 := HG.out
 have f0 : W6.cell? ⟨N, 0, none⟩ = some (.slice an G.ns.length cn) := cell_only hO6 (by omega) (by simp) c05
 have f1 : W6.cell? ⟨N, 1, none⟩ = some (.slice aw G.ws.length cw) := cell_only hO6 (by omega) (by simp) c15
 have k0 : W6.cell? ⟨N + 4, 0, none⟩ = some (.map (some (N + 2))) := cell_only hO6 (by omega) (by simp) d05
 have k1 : W6.cell? ⟨N + 4, 1, none⟩ = some (.map (some (N + 3))) := cell_only hO6 (by omega) (by simp) d15
 have hr6 : W6.heap[N + 1]? = some (.cells #[.map none, .map none] 76 (0, 0)) := (hO6.block _ (by omega) (by simp)).trans g6.2.2.2.2.2
 have hb6 : Below w.heap.size w W6 := g6.2.1.trans (hO6.below g6.2.1.size (by simp; omega))
 have ln6 := hM6.ln
 obtain ⟨W7, e7⟩ : ∃ W, W6.alloc (.cells #[.map (some (N + 2))] 73) = W := ⟨_, rfl⟩
 have hb7 : Below W6.heap.size W6 W7 := by rw [<- e7]; exact below_box W6 _
 have s7 : W7.heap.size = W6.heap.size + 1 := by rw [<- e7]; simp
 have hB7 : W7.cell? ⟨W6.heap.size, 0, none⟩ = some (.map (some (N + 2))) := by rw [<- e7]; exact box1_cell W6 _ 73
 have hH7 := hM6.hd.below hb7
 have hsf := sortedFunc_any G (.slice an G.ns.length cn) (.slice aw G.ws.length cw) N W6.heap.size (N + 2) Sy (fun _ => 0) W7 (g6.1.keep (hb6.trans (hb7.mono hb6.size)) (Nat.le_refl _)) (kc hb7 (by omega) f0) (kc hb7 (by omega) f1) (by omega) hM6.hd.ns hM6.hd.fs hH7.mr (by omega) hB7 (by simp at ln6; omega)
 have j0 := kc hb7 (by omega) k0
 have j1 := kc hb7 (by omega) k1
 have HM : Hid (Mt W5 (N + 2) (N + 3) [] [] ts W6 Sy V ∧ Below w.heap.size w W7 ∧ W7.heap.size = W6.heap.size + 1 ∧ N + 5 <= W6.heap.size ∧ Hd W7 (N + 2) (N + 3) Sy V ∧ W7.heap[N + 1]? = some (.cells #[.map none, .map none] 76 (0, 0))) := ⟨hM6, hb6.trans (hb7.mono hb6.size), s7, by omega, hH7, (hb7.block _ (by omega)).trans hr6⟩
 clear hM6 hO6 sz6 g6 hb6 hb7 s7 hH7 ln6 hr6 c05 c15 d05 d15
 go_wp2_with (first
  | (go_at_call 78; refine hsf.mono ?_; rintro e W8 ⟨v, ss, rfl, hp, hso, hrow, hb8⟩; obtain ⟨va, vc, rfl⟩ := row_slice hrow; have HR : Hid (ss.Perm Sy ∧ SortedS G ss ∧ W8.ownsRow W7.heap.size 113 2 (.slice va ss.length vc) ss.length (flatS ss) ∧ Below W7.heap.size W7 W8) := ⟨hp, hso, hrow, hb8⟩; have i0 := kc hb8 (by have := HM.out; omega) j0; have i1 := kc hb8 (by have := HM.out; omega) j1; clear hp hso hrow hb8 j0 j1)
  | (go_at_call 79; refine (keys_any _ _).mono ?_; rintro e w' ⟨rfl, rfl⟩))
 clear hsf hB7 f0 f1 k0 k1
 have hcapS : ss.length <= 1000000 := by
  have h1 := HR.out.1.length_eq
  have h2 := HM.out.1.ln
  have h3 := HG.out
  simp at h2
  omega
 go_loopw [22] (fun vi wr => ∃ k : Nat, vi = .int .i64 k ∧ k <= ss.length ∧ Hid (MapIs wr 113 (N + 2) (smap Sy (rkL (ss.take k))) Sy.length ∧ Only [N + 2] W8 wr)) (fun vi _ => ss.length - (intOf vi).toNat)
 case atStart =>
  refine ⟨0, rfl, Nat.zero_le _, ?_, Only.refl _ _⟩
  have h5 := HM.out.2.2.2.2.1.mr.same (HR.out.2.2.2.block (N + 2) (by have := HM.out; omega))
  have e : (rkL (ss.take 0)) = fun _ => 0 := by funext r; simp [rkL, ixS]
  rw [e]
  exact h5
 case round =>
  obtain ⟨k, rfl, hk, HI⟩ := hrel
  have hszr := HI.out.2.size
  have hb8s := HR.out.2.2.2.size
  have l0 : wr.cell? ⟨N + 4, 0, none⟩ = some (.map (some (N + 2))) := cell_only HI.out.2 (by have := HM.out; omega) (by simp) i0
  have l1 : wr.cell? ⟨N + 4, 1, none⟩ = some (.map (some (N + 3))) := cell_only HI.out.2 (by have := HM.out; omega) (by simp) i1
  by_cases hlt : k < ss.length
  ·obtain ⟨g, rfl, hgb, hg8⟩ : ∃ g, va = some ⟨g, 0, none⟩ ∧ W7.heap.size <= g ∧ g < W8.heap.size := by
    rcases HR.out.2.2.1.2 with ⟨e, h0⟩ | ⟨g, cap, cur, e, hb, hg, _⟩
    ·omega
    ·simp only [Value.slice.injEq] at e
     exact ⟨g, e.1, hb, (Array.getElem?_eq_some_iff.1 hg).1⟩
   obtain ⟨r0, r1⟩ := rowS_cells HR.out.2.2.1 k hlt
   have r0' := cell_only HI.out.2 hg8 (by simp; have := HM.out; omega) r0
   have r1' := cell_only HI.out.2 hg8 (by simp; have := HM.out; omega) r1
   have hmem : ss[k] ∈ Sy := HR.out.1.mem_iff.1 (List.getElem_mem hlt)
   have hnd : ss.Nodup := HR.out.1.nodup_iff.2 HM.out.2.2.2.2.1.ns
   have hnew : ss[k] ∉ ss.take k := fun h => by
    obtain ⟨j, hj, e⟩ := List.getElem_of_mem h
    rw [List.getElem_take] at e
    have hj' : j < k := by simp at hj; omega
    exact List.pairwise_iff_getElem.1 hnd j k (by omega) hlt hj' e
   have ht : ss.take (k + 1) = ss.take k ++ [ss[k]] := List.take_succ_eq_append_getElem hlt
   have hlk : (ss.take k).length = k := by simp; omega
   obtain ⟨kl, hkey⟩ := sym_key (HM.out.2.2.2.2.1.fs _ hmem).1 (by have := (HM.out.2.2.2.2.1.fs _ hmem).2; omega)
   obtain ⟨X, eX⟩ : ∃ X, wr.alloc (.cells #[.string ss[k].1, .int .i64 (ss[k].2 : Int)] 113) = X := ⟨_, rfl⟩
   have hbX : Below wr.heap.size wr X := by rw [<- eX]; exact below_box wr _
   obtain ⟨x0, x1⟩ := box2_cells wr (.string ss[k].1) (.int .i64 (ss[k].2 : Int)) 113
   rw [eX] at x0 x1
   have hSl : Sy.length <= 1000000 := by have := HR.out.1.length_eq; omega
   obtain ⟨Y, hrun, hMY, hgY⟩ := (HI.out.1.same (hbX.block _ HI.out.1.lt)).put keyed87 Tryz.underlying73 (by unfold maxLen; omega) hkey (.int .i64 ((k + 1 : Nat) : Int))
   have HN : Hid (MapIs Y 113 (N + 2) (smap Sy (rkL (ss.take (k + 1)))) Sy.length ∧ Only [N + 2] W8 Y) := by
    refine ⟨?_, (HI.out.2.trans (Only.of_below (B := [N + 2]) hbX) (by simp)).trans (Only.of_grown (B := [N + 2]) hgY (fun r e => by cases e; simp)) (by simp)⟩
    rw [smap_in hmem, smap_set hmem] at hMY
    rw [ht, rkL_snoc hnew, hlk]
    exact hMY
   have l0X := kc hbX (by have := HM.out; omega) l0
   clear r0 r1 hmem hnd hnew ht hlk hkey hbX hMY hgY
   generalize ss[k] = s at *
   go_wp2_with (first | (refine wpList_mapUpdate_run rfl 73 _ _ _ rfl (.map (some (N + 2))) (symv s) (.int .i64 ((k + 1 : Nat) : Int)) rfl rfl (by go_num) hrun ?_))
   go_roundw
   case rel => exact ⟨k + 1, by go_num, by omega, HN⟩
   case measure => simp [intOf]; omega
  ·have hR8 : W8.heap[N + 1]? = some (.cells #[.map none, .map none] 76 (0, 0)) := (HR.out.2.2.2.block _ (by have := HM.out; omega)).trans HM.out.2.2.2.2.2
   have hRr : wr.heap[N + 1]? = some (.cells #[.map none, .map none] 76 (0, 0)) := (HI.out.2.block _ (by have := HM.out; omega) (by simp)).trans hR8
   obtain ⟨⟨y0, y1⟩, z0, z1⟩ := box2_facts hRr
   have hall : ss.take k = ss := List.take_of_length_le (by omega)
   obtain ⟨Z, eZ⟩ : ∃ Z, (wr.setCell ⟨N + 1, 0, none⟩ (.map (some (N + 2)))).setCell ⟨N + 1, 1, none⟩ (.map (some (N + 3))) = Z := ⟨_, rfl⟩
   have hZ : Z.heap[N + 1]? = some (.cells #[.map (some (N + 2)), .map (some (N + 3))] 76 (0, 0)) := by
    have q1 := heap_setCell_same wr (N + 1) 0 _ 76 (.map (some (N + 2))) hRr
    have q2 := heap_setCell_same (wr.setCell ⟨N + 1, 0, none⟩ (.map (some (N + 2)))) (N + 1) 1 _ 76 (.map (some (N + 3))) q1
    rw [eZ] at q2
    simpa using q2
   obtain ⟨⟨v0, v1⟩, _, _⟩ := box2_facts hZ
   have hO : ∀ j, j ≠ N + 1 -> Z.heap[j]? = wr.heap[j]? := fun j hj => by
    rw [<- eZ, Below.heap_setCell _ ⟨N + 1, 1, none⟩ _ j hj, Below.heap_setCell _ ⟨N + 1, 0, none⟩ _ j hj]
   have HF : Hid ((∃ Sy V ρ, Heads G ts Z (N + 2) (N + 3) Sy V ρ) ∧ (w.heap.size <= N + 2 ∧ w.heap.size <= N + 3) ∧ Below w.heap.size w Z) := by
    have hd := HM.out.2.2.2.2.1
    have hmt := HM.out.1
    have hln := hmt.ln
    have hgo := HG.out
    refine ⟨⟨Sy, V, rkL ss, ?_, ?_, hd.ne, hd.ns, hd.nv, hd.fs, hd.fv, ranks_of HR.out.1 hd.ns HR.out.2.1, fun s => ?_, hmt.st, hmt.vt, by simpa using hln, hd.fe⟩, ⟨by omega, by omega⟩, ?_⟩
    ·have := HI.out.1
     rw [hall] at this
     exact this.same (hO _ (by omega))
    ·have h8 := hd.mv.same (HR.out.2.2.2.block (N + 3) (by have := HM.out; omega))
     have hr := h8.same (HI.out.2.block (N + 3) (by have := HM.out; omega) (by simp))
     exact hr.same (hO _ (by omega))
    ·have := rkL_le ss s
     have := HR.out.1.length_eq
     omega
    ·have hb8 : Below w.heap.size w W8 := HM.out.2.1.trans (HR.out.2.2.2.mono HM.out.2.1.size)
     have hbr : Below w.heap.size w wr := hb8.trans (HI.out.2.below hb8.size (by simp; omega))
     rw [<- eZ]
     exact (hbr.setCell (p := ⟨N + 1, 0, none⟩) (by show w.heap.size <= N + 1; omega) _).setCell (p := ⟨N + 1, 1, none⟩) (by show w.heap.size <= N + 1; omega) _
   clear hall hZ hO hRr hR8
   go_wp2
   try rw [eZ]
   refine bodyPost_ret (v := .agg #[.map (some (N + 2)), .map (some (N + 3))]) (by simp [results, Tryz.results49, go_sem, v0, v1]) rfl ⟨N + 2, N + 3, rfl, HF.out⟩
end Go.Proofs.YtglphfhlpobgcaaGreat
