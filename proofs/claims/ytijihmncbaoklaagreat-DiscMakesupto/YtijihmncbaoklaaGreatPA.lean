/-
  Maps, by what they hold.
-/
import Derived.Test.YtijihmncbaoklaaGreatC
import Derived.Maps.OwnSet
import Derived.DeepKeys4
import Derived.Deep.MidRow
namespace Go.Proofs.YtijihmncbaoklaaGreat
open Go.RowKit Go.Maps

/-- Nothing old has turned but the blocks B. -/
structure Only (B : List Nat) (w w' : World) : Prop where
  os : w'.os = w.os
  tape : w'.tape = w.tape
  output : w'.output = w.output
  size : w.heap.size ≤ w'.heap.size
  block : ∀ k, k < w.heap.size → k ∉ B → w'.heap[k]? = w.heap[k]?

theorem Only.refl (B : List Nat) (w : World) : Only B w w := ⟨rfl, rfl, rfl, Nat.le_refl _, fun _ _ _ => rfl⟩
theorem Only.of_below {B : List Nat} {w w' : World} (h : Below w.heap.size w w') : Only B w w' := ⟨h.os, h.tape, h.output, h.size, fun k hk _ => h.block k hk⟩
theorem Only.of_grown {B : List Nat} {w w' : World} {row : Option Nat} (h : w.grownBy w' row) (hr : ∀ r, row = some r → r ∈ B) : Only B w w' := ⟨h.os, h.tape, h.output, h.size, fun k hk hn => h.block k hk (fun e => hn (hr k e.symm))⟩
/-- Behind one another, where the second's blocks are the first's, or new. -/
theorem Only.trans {B B' : List Nat} {x y z : World} (h : Only B x y) (k : Only B' y z) (hB : ∀ r ∈ B', r ∈ B ∨ x.heap.size ≤ r) : Only B x z :=
  ⟨k.os.trans h.os, k.tape.trans h.tape, k.output.trans h.output, Nat.le_trans h.size k.size, fun i hi hn => (k.block i (Nat.lt_of_lt_of_le hi h.size) (fun hm => by
    rcases hB i hm with h' | h'
    · exact hn h'
    · omega)).trans (h.block i hi hn)⟩
theorem Only.below {B : List Nat} {w w' : World} {n : Nat} (h : Only B w w') (hn : n ≤ w.heap.size) (hB : ∀ r ∈ B, n ≤ r) : Below n w w' :=
  ⟨h.os, h.tape, h.output, h.size, fun k hk => h.block k (by omega) (fun hm => by have := hB k hm; omega)⟩

/-- A number of the machine's. -/
def Fit64 (a : Int) : Prop := -9223372036854775808 ≤ a ∧ a ≤ 9223372036854775807
theorem wf_of {a : Int} (h : Fit64 a) : (Lit.int .i64 a).wf = true := by
  unfold Fit64 at h
  have e : wrap64 a = a := by simp only [wrap64]; omega
  have := wrap64_wf a
  rwa [e] at this

theorem keyed3 : Keyed Tryz.prog 3 := int_keyed Tryz.underlying3

/-- A map's value, as it is. -/
def Rid (v : Value) : Option (DataW Value × List MemPlace) := some (.held v, [])

/-- Block b is a map with n keys; m tells what it holds. -/
def MapIs (W : World) (k : TypeId) (b : Nat) (m : Value → Option Value) (n : Nat) : Prop :=
  ∃ D, W.ownsMap Tryz.prog k Rid b n D ∧ Maps.size D = n ∧ ∀ key kl, keyOf Tryz.prog k key = some kl →
    (∀ v, m key = some v → Maps.has D kl = true ∧ ∀ z, D.atKey kl z = .held v) ∧ (m key = none → Maps.has D kl = false)

open Classical in
noncomputable def upd (m : Value → Option Value) (key v : Value) : Value → Option Value := fun x => if x = key then some v else m x
open Classical in
noncomputable def del (m : Value → Option Value) (key : Value) : Value → Option Value := fun x => if x = key then none else m x

theorem tight {W : World} {k : TypeId} {b n : Nat} {D : DataW Value} (h : W.ownsMap Tryz.prog k Rid b n D) : W.ownsMap Tryz.prog k Rid b (Maps.size D) D := by
  obtain ⟨es, clock, hb, F, hs, rfl⟩ := h
  refine ⟨es, clock, hb, F, ?_, rfl⟩
  simp [Maps.size, length_sorted]

theorem MapIs.made (w : World) (k : TypeId) : MapIs (w.alloc (.map #[] 0)) k w.heap.size (fun _ => none) 0 :=
  ⟨_, World.ownsMap_made w _ _ _, rfl, fun _ _ _ => ⟨fun v h => (by cases h), fun _ => rfl⟩⟩

section
variable {W W' : World} {k : TypeId} {b n : Nat} {m : Value → Option Value}

theorem MapIs.lt (h : MapIs W k b m n) : b < W.heap.size := by
  obtain ⟨D, h1, _⟩ := h
  exact h1.lt
theorem MapIs.same (h : MapIs W k b m n) (hb : W'.heap[b]? = W.heap[b]?) : MapIs W' k b m n := by
  obtain ⟨D, ⟨es, clock, hb', r⟩, h2⟩ := h
  exact ⟨D, ⟨es, clock, hb.trans hb', r⟩, h2⟩

theorem MapIs.look (h : MapIs W k b m n) (K : Keyed Tryz.prog k) {t e : TypeId} (ht : Tryz.prog.underlying t = some (.map k e)) {z : Value} (hz : (zeroValue e).run Tryz.prog W = .ok z W) {key : Value} {kl : Lit} (hkey : keyOf Tryz.prog k key = some kl) :
    (∀ v, m key = some v → (Instr.lookup t (.map (some b)) key true).run Tryz.prog W = .ok (.tuple #[v, .bool true]) W ∧ (Instr.lookup t (.map (some b)) key false).run Tryz.prog W = .ok v W) ∧
    (m key = none → (Instr.lookup t (.map (some b)) key true).run Tryz.prog W = .ok (.tuple #[z, .bool false]) W ∧ (Instr.lookup t (.map (some b)) key false).run Tryz.prog W = .ok z W) := by
  obtain ⟨D, h1, h2, h3⟩ := h
  obtain ⟨v1, p1, r1, q1⟩ := h1.look_ok K ht hz (zd := .held z) (zp := []) rfl hkey
  obtain ⟨v2, p2, r2, q2⟩ := h1.lookup K ht hz (zd := .held z) (zp := []) rfl hkey
  obtain ⟨g1, g2⟩ := h3 key kl hkey
  simp only [Rid, Option.some.injEq, Prod.mk.injEq] at q1 q2
  refine ⟨fun v hv => ?_, fun hn => ?_⟩
  · obtain ⟨a1, a2⟩ := g1 v hv
    rw [a2] at q1 q2
    have e1 := DataW.held.inj q1.1
    have e2 := DataW.held.inj q2.1
    rw [a1, e1] at r1
    rw [e2] at r2
    exact ⟨r1, r2⟩
  · have a1 := g2 hn
    rw [Maps.atKey_of_not_has a1] at q1 q2
    have e1 := DataW.held.inj q1.1
    have e2 := DataW.held.inj q2.1
    rw [a1, e1] at r1
    rw [e2] at r2
    exact ⟨r1, r2⟩

theorem MapIs.len (h : MapIs W k b m n) {t e : TypeId} (ht : Tryz.prog.underlying t = some (.map k e)) (ty : TypeId) : (Builtin.len_ #[t] ty #[.map (some b)]).run Tryz.prog W = .ok (.int .i64 n) W := by
  obtain ⟨D, h1, h2, _⟩ := h
  have := h1.len ht ty
  rwa [h2] at this

theorem MapIs.put (h : MapIs W k b m n) (K : Keyed Tryz.prog k) {t e : TypeId} (ht : Tryz.prog.underlying t = some (.map k e)) (hn : n < maxLen) {key : Value} {kl : Lit} (hkey : keyOf Tryz.prog k key = some kl) (v : Value) :
    ∃ W', (Instr.mapUpdate t (.map (some b)) key v).run Tryz.prog W = .ok () W' ∧ MapIs W' k b (upd m key v) (match m key with | some _ => n | none => n + 1) ∧ W.grownBy W' (some b) := by
  obtain ⟨D, h1, h2, h3⟩ := h
  obtain ⟨W', r1, r2, r3⟩ := h1.update K ht hn hkey (val := v) (d := .held v) (ps := []) rfl
  obtain ⟨g1, g2⟩ := h3 key kl hkey
  have hsz : Maps.size (D.put kl (.held v)) = match m key with | some _ => n | none => n + 1 := by
    rw [Maps.size_put (h1.tidy K)]
    cases hm : m key with
    | none => rw [g2 hm, h2]; rfl
    | some u => rw [(g1 u hm).1, h2]; rfl
  have r2' := tight r2
  rw [hsz] at r2'
  refine ⟨W', r1, ⟨_, r2', hsz, fun key' kl' hk' => ?_⟩, r3⟩
  by_cases hkk : key' = key
  · subst hkk
    rw [hkey] at hk'
    cases hk'
    refine ⟨fun u hu => ?_, fun hu => ?_⟩
    · simp [upd] at hu
      subst hu
      exact ⟨Maps.has_put_same h1.isMap (K.key hkey) _, fun z => Maps.atKey_put_same h1.isMap (K.key hkey) _ z⟩
    · simp [upd] at hu
  · have hne : kl' ≠ kl := fun e => hkk (K.inj hk' (e ▸ hkey))
    obtain ⟨f1, f2⟩ := h3 key' kl' hk'
    refine ⟨fun u hu => ?_, fun hu => ?_⟩
    · rw [upd, if_neg hkk] at hu
      rw [Maps.has_put_other hne]
      exact ⟨(f1 u hu).1, fun z => by rw [Maps.atKey_put_other hne]; exact (f1 u hu).2 z⟩
    · rw [upd, if_neg hkk] at hu
      rw [Maps.has_put_other hne]
      exact f2 hu

theorem MapIs.drop (h : MapIs W k b m n) (K : Keyed Tryz.prog k) {t e : TypeId} (ht : Tryz.prog.underlying t = some (.map k e)) {key : Value} {kl : Lit} (hkey : keyOf Tryz.prog k key = some kl) (ty : TypeId) :
    ∃ W', (Builtin.delete_ #[t, k] ty #[.map (some b), key]).run Tryz.prog W = .ok (.tuple #[]) W' ∧ MapIs W' k b (del m key) (match m key with | some _ => n - 1 | none => n) ∧ W.grownBy W' (some b) := by
  obtain ⟨D, h1, h2, h3⟩ := h
  obtain ⟨W', r1, r2, r3⟩ := h1.drop K ht hkey ty
  obtain ⟨g1, g2⟩ := h3 key kl hkey
  have hsz : Maps.size (D.del kl) = match m key with | some _ => n - 1 | none => n := by
    have := Maps.size_del (k := kl) (h1.tidy K)
    cases hm : m key with
    | none => rw [g2 hm, h2] at this; simpa using this
    | some u => rw [(g1 u hm).1, h2] at this; simp at this ⊢; omega
  have r2' := tight r2
  rw [hsz] at r2'
  refine ⟨W', r1, ⟨_, r2', hsz, fun key' kl' hk' => ?_⟩, r3.grown⟩
  by_cases hkk : key' = key
  · subst hkk
    rw [hkey] at hk'
    cases hk'
    refine ⟨fun u hu => ?_, fun _ => Maps.has_del_same⟩
    simp [del] at hu
  · have hne : kl' ≠ kl := fun e => hkk (K.inj hk' (e ▸ hkey))
    obtain ⟨f1, f2⟩ := h3 key' kl' hk'
    refine ⟨fun u hu => ?_, fun hu => ?_⟩
    · rw [del, if_neg hkk] at hu
      rw [Maps.has_del_other hne]
      exact ⟨(f1 u hu).1, fun z => by rw [Maps.atKey_del_other hne]; exact (f1 u hu).2 z⟩
    · rw [del, if_neg hkk] at hu
      rw [Maps.has_del_other hne]
      exact f2 hu
end

theorem key3 {a : Int} (h : Fit64 a) : keyOf Tryz.prog 3 (.int .i64 a) = some (.int .i64 a) := keyOf_int_mk Tryz.underlying3 (wf_of h)

/-- A store into a map, by its run. -/
theorem wpList_mapUpdate_run {ops : Array Oper} {rest : List Oper} {op : Oper} {a : Act} {w w' : World} {Q : Exit → Act → World → Prop} (hgd : op.guard = none) (t : TypeId) (m x v : Operand) (ho : op.op = .mapUpdate t m x v) (mv kv vv : Value) (hm : a.eval m = mv) (hx : a.eval x = kv) (hv : a.eval v = vv)
    (hrun : (Instr.mapUpdate t mv kv vv).run Tryz.prog w = .ok () w') (h : wpList Tryz.prog ops Q rest (a.put op.dst undef) w') : wpList Tryz.prog ops Q (op :: rest) a w := by
  refine wpList_plain hgd fun _ hK => ?_
  unfold Oper.wp execOp
  simp only [ho, hm, hx, hv, Sem.run_bind, hrun, Result.andThen_ok, Sem.run_pure]
  exact hK _ _ h

end Go.Proofs.YtijihmncbaoklaaGreat
