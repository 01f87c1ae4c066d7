import Derived.Test.YtglphfhlpobgcaaGreatWN
import Derived.Test.YtglphfhlpobgcaaGreatWL
import Derived.Deep.RegionLaw
namespace Go.Proofs.YtglphfhlpobgcaaGreat
set_option maxRecDepth 100000
set_option maxHeartbeats 4000000
open Go.RowKit Go.Maps
theorem symv_inj {s r : ByteArray × Nat} (h : symv s = symv r) : s = r := by
 have := Value.agg.inj h
 simp only [Array.mk.injEq, List.cons.injEq, Value.string.injEq, Value.int.injEq, true_and, and_true] at this
 obtain ⟨s1, s2⟩ := s
 obtain ⟨r1, r2⟩ := r
 simp only at this
 rw [this.1, show s2 = r2 by omega]
open Classical in
noncomputable def smap (Sy : List (ByteArray × Nat)) (ρ : ByteArray × Nat -> Nat) : Value -> Option Value := fun key => if h : ∃ s, s ∈ Sy ∧ key = symv s then some (.int .i64 (ρ (Classical.choose h) : Int)) else none
theorem smap_in {Sy : List (ByteArray × Nat)} {ρ : ByteArray × Nat -> Nat} {s : ByteArray × Nat} (h : s ∈ Sy) : smap Sy ρ (symv s) = some (.int .i64 (ρ s : Int)) := by
 have hx : ∃ r, r ∈ Sy ∧ symv s = symv r := ⟨s, h, rfl⟩
 unfold smap
 rw [dif_pos hx]
 have := symv_inj (Classical.choose_spec hx).2
 rw [<- this]
theorem smap_out {Sy : List (ByteArray × Nat)} {ρ : ByteArray × Nat -> Nat} {s : ByteArray × Nat} (h : s ∉ Sy) : smap Sy ρ (symv s) = none := by
 unfold smap
 rw [dif_neg]
 rintro ⟨r, hr, e⟩
 exact h (symv_inj e ▸ hr)
theorem smap_no {Sy : List (ByteArray × Nat)} {ρ : ByteArray × Nat -> Nat} {key : Value} (h : ∀ s, key ≠ symv s) : smap Sy ρ key = none := by
 unfold smap
 rw [dif_neg]
 rintro ⟨r, hr, e⟩
 exact h r e
open Classical in
theorem smap_set {Sy : List (ByteArray × Nat)} {ρ : ByteArray × Nat -> Nat} {s : ByteArray × Nat} (h : s ∈ Sy) (n : Nat) : upd (smap Sy ρ) (symv s) (.int .i64 (n : Int)) = smap Sy (fun r => if r = s then n else ρ r) := by
 funext key
 unfold upd
 by_cases hk : ∃ r, key = symv r
 ·obtain ⟨r, rfl⟩ := hk
  by_cases e : r = s
  ·subst e
   rw [if_pos rfl, smap_in h, if_pos rfl]
  ·rw [if_neg (fun k => e (symv_inj k))]
   by_cases hr : r ∈ Sy
   ·rw [smap_in hr, smap_in hr, if_neg e]
   ·rw [smap_out hr, smap_out hr]
 ·rw [if_neg (fun k => hk ⟨s, k⟩), smap_no (fun r e => hk ⟨r, e⟩), smap_no (fun r e => hk ⟨r, e⟩)]
theorem smap_old {Sy : List (ByteArray × Nat)} {s : ByteArray × Nat} (h : s ∈ Sy) : upd (smap Sy (fun _ => 0)) (symv s) (.int .i64 0) = smap Sy (fun _ => 0) := by
 have := smap_set (ρ := fun _ => 0) h 0
 simpa using this
theorem smap_new {Sy : List (ByteArray × Nat)} {s : ByteArray × Nat} : upd (smap Sy (fun _ => 0)) (symv s) (.int .i64 0) = smap (Sy ++ [s]) (fun _ => 0) := by
 funext key
 unfold upd
 by_cases hk : ∃ r, key = symv r
 ·obtain ⟨r, rfl⟩ := hk
  by_cases e : r = s
  ·subst e
   rw [if_pos rfl, smap_in (by simp)]
   rfl
  ·rw [if_neg (fun k => e (symv_inj k))]
   by_cases hr : r ∈ Sy
   ·rw [smap_in hr, smap_in (List.mem_append_left _ hr)]
   ·rw [smap_out hr, smap_out (by simp only [List.mem_append, List.mem_singleton, not_or]; exact ⟨hr, e⟩)]
 ·rw [if_neg (fun k => hk ⟨s, k⟩), smap_no (fun r e => hk ⟨r, e⟩), smap_no (fun r e => hk ⟨r, e⟩)]
def ixI (l : List Int) (a : Int) : Option Nat := l.findIdx? (fun x => decide (x = a))
theorem ixI_snoc (l : List Int) (s x : Int) : ixI (l ++ [s]) x = match ixI l x with
  | some i => some i
  | none => if s = x then some l.length else none := by
 unfold ixI
 rw [List.findIdx?_append]
 cases h : List.findIdx? (fun y => decide (y = x)) l with
 | some i => simp
 | none =>
  by_cases e : s = x
  ·simp [List.findIdx?_cons, e]
  ·simp [List.findIdx?_cons, e]
theorem ixI_none {l : List Int} {x : Int} : ixI l x = none ↔ x ∉ l := by
 unfold ixI
 rw [List.findIdx?_eq_none_iff]
 constructor
 ·intro h hx
  have := h x hx
  simp at this
 ·intro h y hy
  simp only [decide_eq_false_iff_not]
  exact fun e => h (e ▸ hy)
theorem ixI_some {l : List Int} {x : Int} (h : x ∈ l) : ∃ i, ixI l x = some i ∧ ∃ hi : i < l.length, l[i] = x := by
 cases e : ixI l x with
 | none => exact absurd h (ixI_none.1 e)
 | some i =>
  refine ⟨i, rfl, ?_⟩
  unfold ixI at e
  obtain ⟨h1, h2, _⟩ := List.findIdx?_eq_some_iff_getElem.1 e
  exact ⟨h1, by simpa using h2⟩
def vmap (V : List Int) : Value -> Option Value
 | .int .i64 v => (ixI V v).map fun (j : Nat) => Value.int .i64 (j : Int)
 | _ => none
theorem vmap_new {V : List Int} {v : Int} (h : v ∉ V) : upd (vmap V) (.int .i64 v) (.int .i64 (V.length : Int)) = vmap (V ++ [v]) := by
 funext key
 unfold upd
 by_cases e : key = .int .i64 v
 ·subst e
  rw [if_pos rfl]
  simp only [vmap, ixI_snoc, ixI_none.2 h, if_true, Option.map_some]
 ·rw [if_neg e]
  cases key with
  | int k x =>
   cases k with
   | i64 =>
    simp only [vmap, ixI_snoc]
    have : ¬ v = x := fun h => e (by rw [h])
    cases hi : ixI V x with
    | some i => rfl
    | none => simp [this]
   | _ => rfl
  | _ => rfl
structure Hd (W : World) (br bv : Nat) (Sy : List (ByteArray × Nat)) (V : List Int) : Prop where
 mr : MapIs W 113 br (smap Sy (fun _ => 0)) Sy.length
 mv : MapIs W 3 bv (vmap V) V.length
 ne : br ≠ bv
 ns : Sy.Nodup
 nv : V.Nodup
 fs : ∀ s ∈ Sy, s.1.size <= 64 ∧ s.2 <= 16
 fv : ∀ v ∈ V, 0 <= v ∧ v < 1000000
 fe : ∀ s ∈ Sy, s.1.size ≠ 0
section
variable {W W' : World} {br bv : Nat} {Sy : List (ByteArray × Nat)} {V : List Int}
theorem Hd.keep (h : Hd W br bv Sy V) (h1 : W'.heap[br]? = W.heap[br]?) (h2 : W'.heap[bv]? = W.heap[bv]?) : Hd W' br bv Sy V := ⟨h.mr.same h1, h.mv.same h2, h.ne, h.ns, h.nv, h.fs, h.fv, h.fe⟩
theorem Hd.below (h : Hd W br bv Sy V) (hb : Below W.heap.size W W') : Hd W' br bv Sy V := h.keep (hb.block _ h.mr.lt) (hb.block _ h.mv.lt)
theorem Hd.putS (h : Hd W br bv Sy V) (hl : Sy.length <= 1000000) {s : ByteArray × Nat} (h1 : s.1.size <= 64) (h2 : s.2 <= 16) (h3 : s.1.size ≠ 0) :
  ∃ W', (Instr.mapUpdate 73 (.map (some br)) (symv s) (.int .i64 0)).run Tryz.prog W = .ok () W' ∧ Only [br] W W' ∧ ∃ Sy2, Hd W' br bv Sy2 V ∧ s ∈ Sy2 ∧ (∀ r ∈ Sy, r ∈ Sy2) ∧ Sy2.length <= Sy.length + 1 := by
 obtain ⟨kl, hk⟩ := sym_key (s := s) h1 (by omega)
 obtain ⟨W', r1, r2, r3⟩ := h.mr.put keyed87 Tryz.underlying73 (by unfold maxLen; omega) hk (.int .i64 0)
 have ho : Only [br] W W' := Only.of_grown r3 (fun r e => by cases e; simp)
 have hv := ho.block bv h.mv.lt (by simp; exact fun e => h.ne e.symm)
 refine ⟨W', r1, ho, ?_⟩
 by_cases e : s ∈ Sy
 ·rw [smap_old e, smap_in e] at r2
  exact ⟨Sy, ⟨r2, h.mv.same hv, h.ne, h.ns, h.nv, h.fs, h.fv, h.fe⟩, e, fun _ h => h, by omega⟩
 ·rw [smap_new, smap_out e] at r2
  refine ⟨Sy ++ [s], ⟨by simpa using r2, h.mv.same hv, h.ne, ?_, h.nv, ?_, h.fv, ?_⟩, by simp, fun _ h => List.mem_append_left _ h, by simp⟩
  ·rw [List.nodup_append]
   refine ⟨h.ns, by simp, fun x hx y hy => ?_⟩
   have : y = s := by simpa using hy
   subst this
   exact fun k => e (k ▸ hx)
  ·intro r hr
   rcases List.mem_append.1 hr with hr | hr
   ·exact h.fs r hr
   ·have : r = s := by simpa using hr
    subst this
    exact ⟨h1, h2⟩
  ·intro r hr
   rcases List.mem_append.1 hr with hr | hr
   ·exact h.fe r hr
   ·have : r = s := by simpa using hr
    subst this
    exact h3
theorem fit_v {v : Int} (h : 0 <= v ∧ v < 1000000) : Fit64 v := ⟨by omega, by omega⟩
theorem Hd.lookV (h : Hd W br bv Sy V) {v : Int} (hv : 0 <= v ∧ v < 1000000) :
  (v ∈ V -> ∃ k : Nat, (Instr.lookup 74 (.map (some bv)) (.int .i64 v) true).run Tryz.prog W = .ok (.tuple #[.int .i64 (k : Int), .bool true]) W) ∧ (v ∉ V -> (Instr.lookup 74 (.map (some bv)) (.int .i64 v) true).run Tryz.prog W = .ok (.tuple #[.int .i64 0, .bool false]) W) := by
 have hl := h.mv.look keyed3 Tryz.underlying74 (zeroI W) (key3 (fit_v hv))
 refine ⟨fun hm => ?_, fun hm => ?_⟩
 ·obtain ⟨i, e, _⟩ := ixI_some hm
  exact ⟨i, (hl.1 (.int .i64 (i : Int)) (by simp [vmap, e])).1⟩
 ·exact (hl.2 (by simp [vmap, ixI_none.2 hm])).1
theorem Hd.putV (h : Hd W br bv Sy V) (hl : V.length <= 1000000) {v : Int} (hv : 0 <= v ∧ v < 1000000) (hm : v ∉ V) :
  ∃ W', (Instr.mapUpdate 74 (.map (some bv)) (.int .i64 v) (.int .i64 (V.length : Int))).run Tryz.prog W = .ok () W' ∧ Only [bv] W W' ∧ Hd W' br bv Sy (V ++ [v]) := by
 obtain ⟨W', r1, r2, r3⟩ := h.mv.put keyed3 Tryz.underlying74 (by unfold maxLen; omega) (key3 (fit_v hv)) (.int .i64 (V.length : Int))
 have ho : Only [bv] W W' := Only.of_grown r3 (fun r e => by cases e; simp)
 have hr := ho.block br h.mr.lt (by simp; exact h.ne)
 have hno : vmap V (.int .i64 v) = none := by simp [vmap, ixI_none.2 hm]
 rw [vmap_new hm, hno] at r2
 refine ⟨W', r1, ho, h.mr.same hr, by simpa using r2, h.ne, h.ns, ?_, h.fs, ?_, h.fe⟩
 ·rw [List.nodup_append]
  refine ⟨h.nv, by simp, fun x hx y hy => ?_⟩
  have : y = v := by simpa using hy
  subst this
  exact fun k => hm (k ▸ hx)
 ·intro r hr
  rcases List.mem_append.1 hr with hr | hr
  ·exact h.fv r hr
  ·have : r = v := by simpa using hr
   subst this
   exact hv
end
def szs (l : List T) : Nat := (l.map (fun t => 2 * t.size.toNat)).sum
theorem szs_arg (t : T) : 2 * t.size.toNat = 2 + szs t.args := by
 have : ∀ l : List T, ((l.map T.size).sum.toNat : Int) = (l.map T.size).sum ∧ szs l = 2 * (l.map T.size).sum.toNat := by
  intro l
  induction l with
  | nil => simp [szs]
  | cons a r ih =>
   have := size_pos a
   obtain ⟨h1, h2⟩ := ih
   simp only [szs, List.map_cons, List.sum_cons] at *
   omega
 have h := this t.args
 rw [t.size_eq]
 omega
theorem szs_snoc (l : List T) (t : T) : szs (l ++ [t]) = szs l + 2 * t.size.toNat := by simp [szs]
theorem szs_take {ts : List T} {i : Nat} (h : i < ts.length) : szs (ts.take i) + 2 * ts[i].size.toNat <= szs ts := by
 have ht : ts.take (i + 1) = ts.take i ++ [ts[i]] := List.take_succ_eq_append_getElem h
 have e : szs ts = szs (ts.take (i + 1)) + szs (ts.drop (i + 1)) := by
  unfold szs
  rw [<- List.sum_append, <- List.map_append, List.take_append_drop]
 rw [ht, szs_snoc] at e
 omega
abbrev Off (p bc : Nat) : Nat -> Prop := fun b => b ≠ p ∧ b ≠ bc
theorem ArgsP.only {p bc : Nat} {W W' : World} {sl : Value} {l : List T} (h : ArgsP (Off p bc) W sl l) (ho : Only [p, bc] W W') : ArgsP (Off p bc) W' sl l :=
 h.keep ho.size (fun k hk hlt => ⟨hk, ho.block k hlt (by simp; exact hk)⟩)
structure Mt (w : World) (br bv : Nat) (Sy : List (ByteArray × Nat)) (V : List Int) (ts : List T) (W : World) (Sy1 : List (ByteArray × Nat)) (V1 : List Int) : Prop where
 hd : Hd W br bv Sy1 V1
 on : Only [br, bv] w W
 ss : ∀ s ∈ Sy, s ∈ Sy1
 vv : ∀ v ∈ V, v ∈ V1
 st : ∀ t ∈ ts, ∀ s ∈ t.sy, s ∈ Sy1
 vt : ∀ t ∈ ts, ∀ x ∈ t.vs, x ∈ V1
 ln : Sy1.length + V1.length <= Sy.length + V.length + szs ts
theorem Mt.snoc {w wr W4 W5 : World} {br bv : Nat} {Sy Sy1 Sy2 Sy3 : List (ByteArray × Nat)} {V V1 V2 V3 : List Int} {l : List T} {t : T} (h : Mt w br bv Sy V l wr Sy1 V1) (hp : Only [br, bv] wr W4) (s12 : ∀ s ∈ Sy1, s ∈ Sy2) (v12 : ∀ v ∈ V1, v ∈ V2) (hl : Sy2.length + V2.length <= Sy1.length + V1.length + 1)
  (hf : t.fn.size ≠ 0 -> (t.fn, t.args.length) ∈ Sy2) (hv : t.fn.size = 0 -> t.v ∈ V2) (k : Mt W4 br bv Sy2 V2 t.args W5 Sy3 V3) : Mt w br bv Sy V (l ++ [t]) W5 Sy3 V3 := by
 have hz := szs_arg t
 have h1 := h.ln
 have h2 := k.ln
 refine ⟨k.hd, (h.on.trans hp (by simp)).trans k.on (by simp), fun s hs => k.ss s (s12 s (h.ss s hs)), fun v hv => k.vv v (v12 v (h.vv v hv)), fun u hu s hs => ?_, fun u hu x hx => ?_, by rw [szs_snoc]; omega⟩
 ·rcases List.mem_append.1 hu with hu | hu
  ·exact k.ss s (s12 s (h.st u hu s hs))
  ·have : u = t := by simpa using hu
   subst this
   rw [u.sy_eq] at hs
   rcases List.mem_append.1 hs with hs | hs
   ·by_cases e : u.fn.size = 0
    ·rw [if_pos e] at hs; cases hs
    ·rw [if_neg e] at hs
     have : s = (u.fn, u.args.length) := by simpa using hs
     exact k.ss s (this ▸ hf e)
   ·obtain ⟨m, hm, hsm⟩ := List.mem_flatten.1 hs
    obtain ⟨a, ha, rfl⟩ := List.mem_map.1 hm
    exact k.st a ha s hsm
 ·rcases List.mem_append.1 hu with hu | hu
  ·exact k.vv x (v12 x (h.vt u hu x hx))
  ·have : u = t := by simpa using hu
   subst this
   rw [u.vs_eq] at hx
   rcases List.mem_append.1 hx with hx | hx
   ·by_cases e : u.fn.size = 0
    ·rw [if_pos e] at hx
     have : x = u.v := by simpa using hx
     exact k.vv x (this ▸ hv e)
    ·rw [if_neg e] at hx; cases hx
   ·obtain ⟨m, hm, hsm⟩ := List.mem_flatten.1 hx
    obtain ⟨a, ha, rfl⟩ := List.mem_map.1 hm
    exact k.vt a ha x hsm
def Meet (br bv : Nat) (ts : List T) : Prop :=
 ∀ (sl : Value) (Sy : List (ByteArray × Nat)) (V : List Int) (W : World), Hd W br bv Sy V -> ArgsP (Off br bv) W sl ts -> (∀ t ∈ ts, t.shape = true) -> Sy.length + V.length + szs ts <= 100000 ->
  Calls Tryz.prog 77 #[.agg #[.map (some br), .map (some bv)], sl] W fun e W' => (∃ v, e = .returned v) ∧ ∃ Sy' V', Mt W br bv Sy V ts W' Sy' V'
theorem meet_list (br bv : Nat) (ts : List T) (ih : ∀ t ∈ ts, Meet br bv t.args) : Meet br bv ts := by
 intro sl Sy V w hH hA hsh hL
 obtain ⟨a, cc, rfl⟩ := hA.slice
 have hlen := hA.len
 obtain ⟨W0, hW0⟩ : ∃ W0, w.alloc (.cells #[.map (some br), .map (some bv)] 76) = W0 := ⟨_, rfl⟩
 have hb0 : Below w.heap.size w W0 := by rw [<- hW0]; exact below_box w _
 obtain ⟨x0, x1⟩ := box2_cells w (.map (some br)) (.map (some bv)) 76
 rw [hW0] at x0 x1
 have hs0 : W0.heap.size = w.heap.size + 1 := by rw [<- hW0]; simp
 have hbr := hH.mr.lt
 have hbv := hH.mv.lt
 have HS : Hid (Mt w br bv Sy V [] W0 Sy V ∧ ArgsP (Off br bv) w (.slice a ts.length cc) ts ∧ (∀ t ∈ ts, t.shape = true) ∧ (∀ t ∈ ts, Meet br bv t.args) ∧ (W0.cell? ⟨w.heap.size, 0, none⟩ = some (.map (some br)) ∧ W0.cell? ⟨w.heap.size, 1, none⟩ = some (.map (some bv)) ∧ w.heap.size < W0.heap.size) ∧ br < w.heap.size ∧ bv < w.heap.size ∧ Sy.length + V.length + szs ts <= 100000) :=
  ⟨⟨hH.below hb0, Only.of_below hb0, fun _ h => h, fun _ h => h, fun _ h => (by cases h), fun _ h => (by cases h), by simp [szs]⟩, hA, hsh, ih, ⟨x0, x1, by omega⟩, hbr, hbv, hL⟩
 clear hH hA hsh ih hb0 x0 x1 hs0 hbr hbv hL
 go_enter Tryz.func77, Tryz.ntmps77
 try rw [hW0]
 go_wp2
 try rw [hW0]
 go_loopw [10] (fun vi wr => ∃ i : Nat, vi = .int .i64 i ∧ i <= ts.length ∧ Hid (∃ Sy1 V1, Mt w br bv Sy V (ts.take i) wr Sy1 V1 ∧ wr.cell? ⟨w.heap.size, 0, none⟩ = some (.map (some br)) ∧ wr.cell? ⟨w.heap.size, 1, none⟩ = some (.map (some bv)) ∧ w.heap.size < wr.heap.size)) (fun vi _ => ts.length - (intOf vi).toNat)
 case atStart => exact ⟨0, rfl, Nat.zero_le _, Sy, V, by simpa using HS.out.1, HS.out.2.2.2.2.1⟩
 case round =>
  obtain ⟨i, rfl, hi, HI⟩ := hrel
  obtain ⟨Sy1, V1, hM, m0, m1, hsz⟩ := HI.out
  clear HI
  by_cases hlt : i < ts.length
  ·obtain ⟨b, o, s, rfl, hP, hbl, c0, c1, c2, hs⟩ := (HS.out.2.1.only hM.on).nth hlt
   obtain ⟨sa, sc, rfl⟩ := hs.slice
   have ht : ts.take (i + 1) = ts.take i ++ [ts[i]] := List.take_succ_eq_append_getElem hlt
   have hle := szs_take hlt
   have hln := hM.ln
   have hza := szs_arg ts[i]
   have hLL := HS.out.2.2.2.2.2.2.2
   have HM : Hid (Mt w br bv Sy V (ts.take i) wr Sy1 V1 ∧ ArgsP (Off br bv) wr (.slice sa ts[i].args.length sc) ts[i].args ∧ Meet br bv ts[i].args ∧ ts[i].shape = true ∧ ts.take (i + 1) = ts.take i ++ [ts[i]] ∧ Sy1.length + V1.length + 2 * ts[i].size.toNat <= 100000) := ⟨hM, hs, HS.out.2.2.2.1 _ (List.getElem_mem hlt), HS.out.2.2.1 _ (List.getElem_mem hlt), ht, by omega⟩
   clear hM hs ht hle hln hza hLL
   obtain ⟨t, hti⟩ : ∃ t, ts[i] = t := ⟨_, rfl⟩
   rw [hti] at HM c0 c1 c2
   clear hti
   obtain ⟨W2, hW2⟩ : ∃ W2, wr.alloc (tbox t (.slice sa t.args.length sc)) = W2 := ⟨_, rfl⟩
   have hb2 : Below wr.heap.size wr W2 := by rw [<- hW2]; exact below_box wr _
   obtain ⟨b0, b1, b2⟩ := tbox_cells wr t (.slice sa t.args.length sc)
   rw [hW2] at b0 b1 b2
   have n0 := kc hb2 hsz m0
   have n1 := kc hb2 hsz m1
   have hs2 : W2.heap.size = wr.heap.size + 1 := by rw [<- hW2]; simp
   have HB2 : Hid (Below wr.heap.size wr W2 ∧ W2.heap.size = wr.heap.size + 1 ∧ w.heap.size < wr.heap.size ∧ Hd W2 br bv Sy1 V1) := ⟨hb2, hs2, hsz, HM.out.1.hd.below hb2⟩
   clear hb2 hs2 m0 m1
   have hza := szs_arg t
   rcases shape_cases HM.out.2.2.2.1 with ⟨h0, hv0, hv1, hargs⟩ | ⟨h0, hv, h64, h16, hsub⟩
   ·-- a variable
    have hdd : t.fn.toList.isEmpty = true := by rw [ba_isEmpty]; exact decide_eq_true h0
    have fin : ∀ (V2 : List Int) (W4 : World), Hd W4 br bv Sy1 V2 -> Only [br, bv] W2 W4 -> t.v ∈ V2 -> (∀ v ∈ V1, v ∈ V2) -> V2.length <= V1.length + 1 -> Calls Tryz.prog 77 #[.agg #[.map (some br), .map (some bv)], .slice sa t.args.length sc] W4 fun e W' => (∃ v, e = .returned v) ∧ Hid (∃ Sy3 V3, Mt w br bv Sy V (ts.take (i + 1)) W' Sy3 V3 ∧ W'.cell? ⟨w.heap.size, 0, none⟩ = some (.map (some br)) ∧ W'.cell? ⟨w.heap.size, 1, none⟩ = some (.map (some bv)) ∧ w.heap.size < W'.heap.size) := by
     intro V2 W4 hH4 hO4 hvm hvv hl2
     have hO : Only [br, bv] wr W4 := (Only.of_below (B := [br, bv]) HB2.out.1).trans hO4 (by simp)
     have hq := HM.out.2.2.2.2.2
     refine (HM.out.2.2.1 _ Sy1 V2 W4 hH4 (HM.out.2.1.only hO) (by rw [hargs]; intro t ht; cases ht) (by omega)).mono ?_
     rintro e W' ⟨he, Sy3, V3, hM3⟩
     refine ⟨he, Sy3, V3, ?_, ?_⟩
     ·rw [HM.out.2.2.2.2.1]
      exact HM.out.1.snoc hO (fun _ h => h) hvv (by omega) (fun h => absurd h0 h) (fun _ => hvm) hM3
     ·have hO5 := hO4.trans hM3.on (by simp)
      have := HS.out.2.2.2.2.2
      have hbn : w.heap.size ∉ [br, bv] := by simp; omega
      have := hO5.size
      exact ⟨cell_only hO5 (by have := HB2.out; omega) hbn n0, cell_only hO5 (by have := HB2.out; omega) hbn n1, by have := HB2.out; omega⟩
    obtain ⟨lk1, lk2⟩ := HB2.out.2.2.2.lookV (v := t.v) ⟨hv0, hv1⟩
    by_cases hvm : t.v ∈ V1
    ·obtain ⟨k, hlk⟩ := lk1 hvm
     have hcall := fin V1 W2 HB2.out.2.2.2 (Only.refl _ _) hvm (fun _ h => h) (by omega)
     clear fin lk1 lk2 hvm h0 hargs
     go_wp2_with fail
     try rw [hW2]
     go_wp2_with fail
     refine hcall.mono ?_
     rintro e W3 ⟨⟨v3, rfl⟩, HN⟩
     go_wp2
     go_roundw
     case rel => exact ⟨i + 1, by go_num, by omega, HN⟩
     case measure => simp [intOf]; omega
    ·have hlk := lk2 hvm
     have hq := HM.out.2.2.2.2.2
     obtain ⟨W4, hrun, hO4, hH4⟩ := HB2.out.2.2.2.putV (by omega) ⟨hv0, hv1⟩ hvm
     have hln := HB2.out.2.2.2.mv.len Tryz.underlying74 3
     have hcall := fin (V1 ++ [t.v]) W4 hH4 (hO4.trans (Only.refl [] _) (by simp) |> fun h => ⟨h.os, h.tape, h.output, h.size, fun k hk hn => h.block k hk (by simp at hn ⊢; exact hn.2)⟩) (by simp) (fun _ h => List.mem_append_left _ h) (by simp)
     have HX : Hid (Only [bv] W2 W4) := hO4
     have n0' : W4.cell? ⟨w.heap.size, 0, none⟩ = some (.map (some br)) := cell_only hO4 (by have := HB2.out; omega) (by simp; have := HS.out.2.2.2.2.2; omega) n0
     have n1' : W4.cell? ⟨w.heap.size, 1, none⟩ = some (.map (some bv)) := cell_only hO4 (by have := HB2.out; omega) (by simp; have := HS.out.2.2.2.2.2; omega) n1
     have b2' : W4.cell? ⟨wr.heap.size, 2, none⟩ = some (.slice sa t.args.length sc) := cell_only hO4 (by have := HB2.out; omega) (by simp; have := HS.out.2.2.2.2.2; have := HB2.out; omega) b2
     clear fin lk1 lk2 hvm h0 hargs hO4 hH4 hq hza HX
     go_wp2_with fail
     try rw [hW2]
     go_wp2_with (first | (refine wpList_mapUpdate_run rfl 74 _ _ _ rfl (.map (some bv)) (.int .i64 t.v) (.int .i64 (V1.length : Int)) rfl rfl rfl hrun ?_))
     refine hcall.mono ?_
     rintro e W3 ⟨⟨v3, rfl⟩, HN⟩
     go_wp2
     go_roundw
     case rel => exact ⟨i + 1, by go_num, by omega, HN⟩
     case measure => simp [intOf]; omega
   ·-- a function
    have hdd : t.fn.toList.isEmpty = false := by rw [ba_isEmpty]; exact decide_eq_false h0
    have fin : ∀ (Sy2 : List (ByteArray × Nat)) (W4 : World), Hd W4 br bv Sy2 V1 -> Only [br, bv] W2 W4 -> (t.fn, t.args.length) ∈ Sy2 -> (∀ v ∈ Sy1, v ∈ Sy2) -> Sy2.length <= Sy1.length + 1 -> Calls Tryz.prog 77 #[.agg #[.map (some br), .map (some bv)], .slice sa t.args.length sc] W4 fun e W' => (∃ v, e = .returned v) ∧ Hid (∃ Sy3 V3, Mt w br bv Sy V (ts.take (i + 1)) W' Sy3 V3 ∧ W'.cell? ⟨w.heap.size, 0, none⟩ = some (.map (some br)) ∧ W'.cell? ⟨w.heap.size, 1, none⟩ = some (.map (some bv)) ∧ w.heap.size < W'.heap.size) := by
     intro Sy2 W4 hH4 hO4 hvm hvv hl2
     have hO : Only [br, bv] wr W4 := (Only.of_below (B := [br, bv]) HB2.out.1).trans hO4 (by simp)
     have hq := HM.out.2.2.2.2.2
     refine (HM.out.2.2.1 _ Sy2 V1 W4 hH4 (HM.out.2.1.only hO) hsub (by omega)).mono ?_
     rintro e W' ⟨he, Sy3, V3, hM3⟩
     refine ⟨he, Sy3, V3, ?_, ?_⟩
     ·rw [HM.out.2.2.2.2.1]
      exact HM.out.1.snoc hO hvv (fun _ h => h) (by omega) (fun _ => hvm) (fun h => absurd h h0) hM3
     ·have hO5 := hO4.trans hM3.on (by simp)
      have := HS.out.2.2.2.2.2
      have hbn : w.heap.size ∉ [br, bv] := by simp; omega
      have := hO5.size
      exact ⟨cell_only hO5 (by have := HB2.out; omega) hbn n0, cell_only hO5 (by have := HB2.out; omega) hbn n1, by have := HB2.out; omega⟩
    have hsym := symbolOf_any t (.slice sa t.args.length sc) W2.drew ⟨_, _, rfl⟩
    have n0d : W2.drew.cell? ⟨w.heap.size, 0, none⟩ = some (.map (some br)) := n0
    have b0d : W2.drew.cell? ⟨wr.heap.size, 0, none⟩ = some (.int .i64 t.v) := b0
    have b1d : W2.drew.cell? ⟨wr.heap.size, 1, none⟩ = some (.string t.fn) := b1
    have b2d : W2.drew.cell? ⟨wr.heap.size, 2, none⟩ = some (.slice sa t.args.length sc) := b2
    have put : ∀ W3, Below W2.drew.heap.size W2.drew W3 -> ∃ W4, (Instr.mapUpdate 73 (.map (some br)) (.agg #[.string t.fn, .int .i64 (t.args.length : Int)]) (.int .i64 0)).run Tryz.prog W3 = .ok () W4 ∧ Hid (∃ Sy2, Hd W4 br bv Sy2 V1 ∧ Only [br, bv] W2 W4 ∧ (t.fn, t.args.length) ∈ Sy2 ∧ (∀ v ∈ Sy1, v ∈ Sy2) ∧ Sy2.length <= Sy1.length + 1) ∧ (W3.cell? ⟨w.heap.size, 0, none⟩ = some (.map (some br)) ∧ W4.cell? ⟨w.heap.size, 0, none⟩ = some (.map (some br)) ∧ W4.cell? ⟨w.heap.size, 1, none⟩ = some (.map (some bv)) ∧ W4.cell? ⟨wr.heap.size, 2, none⟩ = some (.slice sa t.args.length sc)) := by
     intro W3 hb3
     have hbw : Below W2.heap.size W2 W3 := (Below.refl _ W2).drew.trans hb3
     have hq := HM.out.2.2.2.2.2
     obtain ⟨W4, hrun, hO4, Sy2, hH4, q1, q2, q3⟩ := (HB2.out.2.2.2.below hbw).putS (by omega) (s := (t.fn, t.args.length)) h64 h16 h0
     have hO24 : Only [br, bv] W2 W4 := (Only.of_below (B := [br, bv]) hbw).trans hO4 (by simp)
     have hbn : w.heap.size ∉ [br, bv] := by simp; have := HS.out.2.2.2.2.2; omega
     have hbn2 : wr.heap.size ∉ [br, bv] := by simp; have := HS.out.2.2.2.2.2; have := HB2.out; omega
     exact ⟨W4, hrun, ⟨Sy2, hH4, hO24, q1, q2, q3⟩, kc hbw (by have := HB2.out; omega) n0, cell_only hO24 (by have := HB2.out; omega) hbn n0, cell_only hO24 (by have := HB2.out; omega) hbn n1, cell_only hO24 (by have := HB2.out; omega) hbn2 b2⟩
    clear h0 hsub hza h64 h16 hv
    go_wp2_with fail
    try rw [hW2]
    go_region_law (first
     | (go_simp; go_at_call 82; refine hsym.mono ?_; rintro e W3 ⟨rfl, hb3⟩; obtain ⟨W4, hrun, HP4, z0, z1, z2, z3⟩ := put W3 hb3; clear hb3; go_simp))
    all_goals (
     obtain ⟨Sy2, hH4, hO4, q1, q2, q3⟩ := HP4.out
     have hcall := fin Sy2 W4 hH4 hO4 q1 q2 q3
     clear hH4 hO4 q1 q2 q3 put
     go_wp2_with fail
     refine hcall.mono ?_
     rintro e W5 ⟨⟨v3, rfl⟩, HN⟩
     go_wp2
     go_roundw
     case rel => exact ⟨i + 1, by go_num, by omega, HN⟩
     case measure => simp [intOf]; omega)
  ·have HN : Hid (∃ Sy' V', Mt w br bv Sy V ts wr Sy' V') := by
    refine ⟨Sy1, V1, ?_⟩
    rwa [List.take_of_length_le (by omega)] at hM
   clear hM m0 m1
   go_wp2
   refine bodyPost_end (results_none rfl _ _ _) rfl ?_
   exact ⟨⟨_, rfl⟩, HN.out⟩
theorem meet_any (br bv : Nat) (ts : List T) : Meet br bv ts := by
 have h : ∀ t : T, Meet br bv t.args := by
  intro t
  induction t using T.ind with
  | _ t ih => exact meet_list br bv t.args ih
 exact meet_list br bv ts (fun t _ => h t)
end Go.Proofs.YtglphfhlpobgcaaGreat
