/-
  Symbols are sorted.
-/
import Derived.Test.YtpahgmidofacaaaWR
import Derived.Test.YtpahgmidofacaaaWS
import Derived.Test.YtpahgmidofacaaaShelfB
import Derived.Shelf.SlSortCmp.InsertionK
namespace Go.Proofs.Ytpahgmidofacaaa
open Go.RowKit Go.Maps Go.Sort Go.Lib

/-- A symbol's two cells. -/
def encS (s : Sym) : List Value := [.string s.1, .int .i64 (s.2 : Int)]
theorem flatS_enc (ss : List Sym) : flatS ss = ss.flatMap encS := rfl
theorem flatS_len (ss : List Sym) : (flatS ss).length = ss.length * 2 := by
  induction ss with
  | nil => rfl
  | cons s r ih =>
    have e : flatS (s :: r) = [.string s.1, .int .i64 (s.2 : Int)] ++ flatS r := rfl
    rw [e, List.length_append, ih]
    simp
    omega
theorem flatS_get : ∀ (ss : List Sym) (i : Nat) (h : i < ss.length), (flatS ss)[i * 2]? = some (.string ss[i].1) ∧ (flatS ss)[i * 2 + 1]? = some (.int .i64 (ss[i].2 : Int))
  | [], i, h => absurd h (by simp)
  | p :: r, 0, _ => by simp [flatS]
  | p :: r, i + 1, h => by
    have ih := flatS_get r i (by simpa using h)
    have e : flatS (p :: r) = [.string p.1, .int .i64 (p.2 : Int)] ++ flatS r := rfl
    have hs : ∀ k, (flatS (p :: r))[2 + k]? = (flatS r)[k]? := fun k => by
      rw [e, List.getElem?_append_right (by simp)]
      simp
    have e0 : (i + 1) * 2 = 2 + i * 2 := by omega
    rw [e0, show 2 + i * 2 + 1 = 2 + (i * 2 + 1) by omega, hs, hs]
    simpa using ih

section
variable [Inhabited Sym]
theorem flatK_encS (d : Array Sym) : flatK encS 2 d = (flatS d.toList).toArray := by
  refine ext_get! (by simp [flatS_len]) fun t ht => ?_
  have ht' : t < d.size * 2 := by simpa using ht
  rw [get_flatK encS 2 d t ht']
  have hi : t / 2 < d.size := by omega
  obtain ⟨f0, f1⟩ := flatS_get d.toList (t / 2) (by simpa using hi)
  have hx : d.toList[t / 2]'(by simpa using hi) = d[t / 2]! := by simp [hi]
  rw [hx] at f0 f1
  obtain ⟨x, hd⟩ : ∃ x, d[t / 2]! = x := ⟨_, rfl⟩
  rw [hd] at f0 f1 ⊢
  have hg : ∀ v, (flatS d.toList)[t]? = some v → (flatS d.toList).toArray[t]! = v := fun v h => by simp [Array.getElem!_eq_getD, Array.getD_eq_getD_getElem?, h]
  have hr : t = t / 2 * 2 ∧ t % 2 = 0 ∨ t = t / 2 * 2 + 1 ∧ t % 2 = 1 := by omega
  rcases hr with ⟨h1, h2⟩ | ⟨h1, h2⟩
  · rw [← h1] at f0; rw [hg _ f0, h2]; rfl
  · rw [← h1] at f1; rw [hg _ f1, h2]; rfl

theorem rowS_holds {W : World} {base g cap n : Nat} {d : Array Sym} (h : W.ownsRow base 87 2 (.slice (some ⟨g, 0, none⟩) n cap) n (flatS d.toList)) : HoldsK encS 2 W g 0 d ∧ g < W.heap.size := by
  have hc := h.cells rfl
  rcases h.2 with ⟨e, _⟩ | ⟨g', cap', cur, e, hb, hg, hn, hm, hsz, ht⟩
  · cases e
  · cases e
    refine ⟨fun j hj => ?_, (Array.getElem?_eq_some_iff.1 hg).1⟩
    rw [flatK_encS] at hj ⊢
    have hj' : j < (flatS d.toList).length := by simpa using hj
    have h1 := hc j _ (List.getElem?_eq_getElem hj')
    have ea : (⟨g, 0, none⟩ : Addr).add j = ⟨g, j, none⟩ := by unfold Addr.add; split <;> simp_all
    rw [ea] at h1
    rw [Nat.zero_add]
    refine ⟨?_, by simp [World.frozen?, hg]⟩
    rw [h1]
    simp [hj']

theorem sortS_row {W : World} {base g cap n : Nat} {d d' : Array Sym} (h : W.ownsRow base 87 2 (.slice (some ⟨g, 0, none⟩) n cap) n (flatS d.toList)) (hs : d'.size = d.size) (m : Nat) (os : Array Obj) :
    (sortWorldK encS 2 W g 0 m d' os).ownsRow base 87 2 (.slice (some ⟨g, 0, none⟩) n cap) n (flatS d'.toList) ∧ W.grownBy (sortWorldK encS 2 W g 0 m d' os) (some g) := by
  have hlen : (flatS d.toList).length = n * 2 := h.1
  have hlen' : (flatS d'.toList).length = n * 2 := by rw [flatS_len] at hlen ⊢; simp at hlen ⊢; omega
  rcases h.2 with ⟨e, _⟩ | ⟨g', cap', cur, e, hb, hg, hn, hm, hsz, ht⟩
  · cases e
  · cases e
    have hlt : g < W.heap.size := (Array.getElem?_eq_some_iff.1 hg).1
    have hsz2 : (putRowK encS 2 (Sort.ahead W m) g 0 d').heap.size = W.heap.size := by unfold putRowK putRow mapBlock; simp [Sort.ahead]
    have hk : ∀ k, k < W.heap.size → (sortWorldK encS 2 W g 0 m d' os).heap[k]? = (putRowK encS 2 (Sort.ahead W m) g 0 d').heap[k]? := fun k hk => by
      unfold sortWorldK grow
      exact Array.getElem?_append_left (by rw [hsz2]; exact hk)
    have ho : ∀ k, k < W.heap.size → k ≠ g → (sortWorldK encS 2 W g 0 m d' os).heap[k]? = W.heap[k]? := fun k h1 h2 => by
      rw [hk k h1]
      unfold putRowK putRow mapBlock
      simp only [Array.getElem?_modify]
      rw [if_neg (Ne.symm h2)]
      rfl
    have hgg : (sortWorldK encS 2 W g 0 m d' os).heap[g]? = some (.cells (putCells id 0 (flatK encS 2 d') cur) 87 (0, 0)) := by
      rw [hk g hlt]
      unfold putRowK putRow mapBlock
      simp only [Array.getElem?_modify, if_true]
      have : (Sort.ahead W m).heap[g]? = W.heap[g]? := rfl
      rw [this, hg]
      rfl
    refine ⟨⟨hlen', .inr ⟨g, cap, _, rfl, hb, hgg, hn, hm, by unfold putCells; simp [hsz], ?_⟩⟩, ⟨rfl, rfl, rfl, ?_, fun k h1 h2 => ho k h1 (fun e => h2 (by rw [e]))⟩⟩
    · have hn4 : n * 2 ≤ cur.size := by rw [hsz]; omega
      refine List.ext_getElem? fun k => ?_
      by_cases hk4 : k < n * 2
      · rw [List.getElem?_take, if_pos hk4, flatK_encS]
        unfold putCells
        have hz : k < 0 + (flatS d'.toList).length := by omega
        simp only [Array.getElem?_toList, Array.getElem?_mapIdx, List.size_toArray, Nat.zero_le, true_and, hz, if_true, Nat.sub_zero]
        rw [Array.getElem?_eq_getElem (by omega), Option.map_some, List.getElem?_eq_getElem (by omega)]
        simp [show k < (flatS d'.toList).length by omega]
      · rw [List.getElem?_eq_none (by simp; omega), List.getElem?_eq_none (by omega)]
    · unfold sortWorldK grow
      show W.heap.size ≤ ((putRowK encS 2 (Sort.ahead W m) g 0 d').heap ++ os).size
      rw [Array.size_append, hsz2]
      omega
end

theorem ltS (G : Sg) (x y : Sym) : ltOf (scmp G) x y = symB G y x := by
  unfold ltOf scmp
  by_cases h1 : symB G x y = true
  · rw [if_pos h1]
    cases h2 : symB G y x
    · rfl
    · exact absurd (sym_trans (symB_iff.1 h1) (symB_iff.1 h2)) (sym_irrefl G _ _)
  · rw [if_neg h1]
    cases h2 : symB G y x
    · simp
    · simp
theorem swoS (G : Sg) : SWO (ltOf (scmp G)) where
  irrefl x := by
    rw [ltS]
    cases h : symB G x x
    · rfl
    · exact absurd (symB_iff.1 h) (sym_irrefl G _ _)
  trans x y z h1 h2 := by
    rw [ltS] at *
    exact symB_iff.2 (sym_trans (symB_iff.1 h2) (symB_iff.1 h1))
  ntrans x y z h1 h2 := by
    rw [ltS] at *
    cases h : symB G z x
    · rfl
    · exfalso
      by_cases e : x.1 ≠ y.1 ∨ x.2 ≠ y.2
      · rcases sym_total G e with k | k
        · have := symB_iff.2 (sym_trans (symB_iff.1 h) k)
          rw [this] at h2; cases h2
        · rw [symB_iff.2 k] at h1; cases h1
      · have e1 : x.1 = y.1 := Classical.byContradiction fun k => e (.inl k)
        have e2 : x.2 = y.2 := Classical.byContradiction fun k => e (.inr k)
        have : x = y := Prod.ext e1 e2
        subst this
        rw [h] at h2; cases h2

theorem encS_one (x : Sym) : ∀ v ∈ encS x, v.oneCell' = true := by
  intro v hv
  unfold encS at hv
  simp only [List.mem_cons, List.not_mem_nil, or_false] at hv
  rcases hv with rfl | rfl <;> rfl

theorem eg43 : ∀ args w, (callFunc 43 args).run Try.prog w = .ok (.enter 43 args) w := enters_of Try.func43 (by kernel_rfl) rfl

/-- None behind is below. -/
def SortedS (G : Sg) (ss : List Sym) : Prop := ∀ i j (hj : j < ss.length) (hij : i < j), symB G ss[i] ss[j] = false

set_option maxHeartbeats 1000000 in
theorem insertS_none (a : Option Addr) (c : Nat) (fv : Value) (w : World) : Calls Try.prog 82 #[.slice a 0 c, .int .i64 0, .int .i64 0, fv] w fun e w' => e = .returned (.tuple #[]) ∧ w' = w := by
  go_enter Try.func82, Try.ntmps82
  go_wp2
  refine wp_loop_rounds 1 ?_
  rw [rounds_succ]
  go_wp2
  go_end0
  exact ⟨rfl, rfl⟩
set_option maxRecDepth 100000 in
set_option maxHeartbeats 1000000 in
theorem pdqS_none (a : Option Addr) (c : Nat) (l : Int) (fv : Value) (w : World) : Calls Try.prog 75 #[.slice a 0 c, .int .i64 0, .int .i64 0, .int .i64 l, fv] w fun e w' => e = .returned (.tuple #[]) ∧ w' = w := by
  go_enter Try.func75, Try.ntmps75
  go_wp2
  refine wp_loop_rounds 1 ?_
  rw [rounds_succ]
  go_wp2_with (first | (go_at_call 82; refine (insertS_none _ _ _ _).mono ?_; rintro e w' ⟨rfl, rfl⟩))
  (try simp only [Exit.inBlock, Exit.then]); refine bodyPost_ret (results_none rfl _ _ _) rfl ?_
  exact ⟨rfl, rfl⟩
set_option maxHeartbeats 1000000 in
theorem sortS_none (a : Option Addr) (c : Nat) (fv : Value) (w : World) : Calls Try.prog 61 #[.slice a 0 c, fv] w fun e w' => e = .returned (.tuple #[]) ∧ w' = w := by
  have hl : ∀ W, Calls Try.prog 76 #[.int .u64 0] W fun e w' => e = .returned (.int .i64 (Lib.bitLen 0 : Nat)) ∧ w' = W := fun W => by
    have h := Any.bits_Len (SlLaysF0.n15.bits (P := Try.prog) (ρ := Try.sortL_ren) { Try.sortL with }) (0 : Int) W (by omega) (by omega)
    exact h
  go_enter Try.func61, Try.ntmps61
  go_wp2_with (first | (go_at_call 76; refine (hl _).mono ?_; rintro e w' ⟨rfl, rfl⟩) | (go_at_call 75; refine (pdqS_none _ _ _ _ _).mono ?_; rintro e w' ⟨rfl, rfl⟩))
  go_end0
  exact ⟨rfl, rfl⟩

theorem sortS_any (G : Sg) (vn vw : Value) (gb : Nat) (wB : World) (hg : SgAt wB G vn vw) (g0 : wB.cell? ⟨gb, 0, none⟩ = some vn) (g1 : wB.cell? ⟨gb, 1, none⟩ = some vw) (hgb : gb < wB.heap.size)
    (ss : List Sym) (v : Value) (n : Nat) (W : World) (hb : Below wB.heap.size wB W) (h : W.ownsRow wB.heap.size 87 2 v n (flatS ss)) (hn : n ≤ 1000000) :
    Calls Try.prog 61 #[v, .func (.func 43) #[] #[.pointer (some ⟨gb, 0, none⟩)]] W fun e W' => e = .returned (.tuple #[]) ∧ ∃ ss' : List Sym, ss'.Perm ss ∧ SortedS G ss' ∧ W'.ownsRow wB.heap.size 87 2 v n (flatS ss') ∧ W.grownBy W' v.ownBlock := by
  haveI : Inhabited Sym := ⟨(⟨#[]⟩, 0)⟩
  have hlen : ss.length = n := by have := h.1; rw [flatS_len] at this; omega
  have h2 := h.2
  rcases h2 with ⟨rfl, h0⟩ | ⟨g, cap, cur, rfl, hbase, _, _, _, _, _⟩
  · have e : ss = [] := List.eq_nil_of_length_eq_zero (by omega)
    subst e
    refine (sortS_none none 0 _ W).mono fun e W' ⟨he, hw⟩ => ⟨he, [], List.Perm.refl _, fun i j hj => absurd hj (by simp), ?_, ?_⟩
    · subst hw; exact h
    · subst hw
      exact ⟨rfl, rfl, rfl, Nat.le_refl _, fun _ _ _ => rfl⟩
  · have hd : ss.toArray.toList = ss := by simp
    have h' : W.ownsRow wB.heap.size 87 2 (.slice (some ⟨g, 0, none⟩) n cap) n (flatS ss.toArray.toList) := by rw [hd]; exact h
    obtain ⟨hH, hlt⟩ := rowS_holds h'
    have hs : ss.toArray.size = n := by simpa using hlen
    have hcmp : CmpLays Try.prog 43 #[.pointer (some ⟨gb, 0, none⟩)] encS 2 (scmp G) g 0 ss.toArray.size W := fun m os dk hdk x y => by
      obtain ⟨_, hgr⟩ := sortS_row (d' := dk) h' hdk m os
      have hbX : Below wB.heap.size wB (sortWorldK encS 2 W g 0 m dk os) := hb.grown hgr hb.size (fun k e => by cases e; exact hbase)
      refine (scmpG_any G x y gb vn vw _ (hg.keep hbX (Nat.le_refl _)) (kc hbX hgb g0) (kc hbX hgb g1) (Nat.lt_of_lt_of_le hgb hbX.size)).mono ?_
      rintro e w' ⟨rfl, p, rfl⟩
      exact ⟨rfl, p.q, p.os, rfl⟩
    have hcon := AnyQ.slices_SortFunc Try.sortL 2 Try.isAgg87 Try.sizeOf87 encS (fun _ => rfl) encS_one (scmp G) (swoS G) 43 #[.pointer (some ⟨gb, 0, none⟩)] g 0 cap ss.toArray W eg43 hcmp hH hlt (by omega)
    rw [hs] at hcon
    refine Calls.mono (P := Try.prog) hcon fun e W' ⟨he, d', m, os, hp, hso, hw⟩ => ?_
    subst hw
    have hsz : d'.size = ss.toArray.size := hp.1
    obtain ⟨hr1, hr2⟩ := sortS_row h' hsz m os
    refine ⟨he, d'.toList, ?_, ?_, hr1, hr2⟩
    · have := hp.2.2
      rw [← hs, Array.extract_size] at this
      have e2 : d'.extract 0 ss.toArray.size = d' := by rw [← hsz, Array.extract_size]
      rw [e2] at this
      simpa using this
    · intro i j hj hij
      have hj' : j < d'.size := by simpa using hj
      have := hso i j (Nat.zero_le _) hij (by omega)
      rw [ltS] at this
      rw [getElem!_pos d' j hj', getElem!_pos d' i (by omega)] at this
      simpa using this

end Go.Proofs.Ytpahgmidofacaaa
