/-
  Nodes as keys; maps, by what they hold.
-/
import Derived.Test.YtbbfpllffcfmhaaC
import Derived.Maps.OwnSet
import Derived.DeepKeys4
import Derived.Deep.MidRow
namespace Go.Proofs.Ytbbfpllffcfmhaa
open Go.RowKit Go.Maps

/-- Nothing old has turned but the blocks B. -/
structure Only (B : List Nat) (w w' : World) : Prop where
  os : w'.os = w.os
  tape : w'.tape = w.tape
  output : w'.output = w.output
  size : w.heap.size ≤ w'.heap.size
  block : ∀ k, k < w.heap.size → k ∉ B → w'.heap[k]? = w.heap[k]?

theorem Only.refl (B : List Nat) (w : World) : Only B w w := ⟨rfl, rfl, rfl, Nat.le_refl _, fun _ _ _ => rfl⟩
theorem Only.of_below {B : List Nat} {w w' : World} (h : Below w.heap.size w w') : Only B w w' := ⟨h.os, h.tape, h.output, h.size, fun k hk _ => h.block k hk⟩
theorem Only.of_grown {B : List Nat} {w w' : World} {row : Option Nat} (h : w.grownBy w' row) (hr : ∀ r, row = some r → r ∈ B) : Only B w w' := ⟨h.os, h.tape, h.output, h.size, fun k hk hn => h.block k hk (fun e => hn (hr k e.symm))⟩
/-- Behind one another, where the second's blocks are the first's, or new. -/
theorem Only.trans {B B' : List Nat} {x y z : World} (h : Only B x y) (k : Only B' y z) (hB : ∀ r ∈ B', r ∈ B ∨ x.heap.size ≤ r) : Only B x z :=
  ⟨k.os.trans h.os, k.tape.trans h.tape, k.output.trans h.output, Nat.le_trans h.size k.size, fun i hi hn => (k.block i (Nat.lt_of_lt_of_le hi h.size) (fun hm => by
    rcases hB i hm with h' | h'
    · exact hn h'
    · omega)).trans (h.block i hi hn)⟩
theorem Only.below {B : List Nat} {w w' : World} {n : Nat} (h : Only B w w') (hn : n ≤ w.heap.size) (hB : ∀ r ∈ B, n ≤ r) : Below n w w' :=
  ⟨h.os, h.tape, h.output, h.size, fun k hk => h.block k (by omega) (fun hm => by have := hB k hm; omega)⟩

/-- A number of the machine's. -/
def Fit64 (a : Int) : Prop := -9223372036854775808 ≤ a ∧ a ≤ 9223372036854775807
theorem wf_of {a : Int} (h : Fit64 a) : (Lit.int .i64 a).wf = true := by
  unfold Fit64 at h
  have e : wrap64 a = a := by simp only [wrap64]; omega
  have := wrap64_wf a
  rwa [e] at this

/-- A node: its number or name, its arguments by their numbers. -/
structure Nd where
  v : Int
  fn : ByteArray
  args : List Int

/-- Sixteen numbers. -/
def pad (ids : List Int) : List Value := (List.range 16).map fun i => Value.int .i64 (ids.getD i 0)
/-- The cells of a node of so many arguments. -/
def ndCells (v : Int) (fn : ByteArray) (argc : Nat) (ids : List Int) : List Value := [.int .i64 v, .string fn, .int .i64 argc] ++ pad ids
def Nd.cells (nd : Nd) : List Value := ndCells nd.v nd.fn nd.args.length nd.args
abbrev Nd.val (nd : Nd) : Value := .agg nd.cells.toArray

structure Nd.Fine (nd : Nd) : Prop where
  v : Fit64 nd.v
  fn : nd.fn.size ≤ 64
  len : nd.args.length ≤ 16
  each : ∀ a ∈ nd.args, Fit64 a

theorem pad_len (ids : List Int) : (pad ids).length = 16 := by simp [pad]
theorem ndCells_len (v : Int) (fn : ByteArray) (argc : Nat) (ids : List Int) : (ndCells v fn argc ids).length = 19 := by simp [ndCells, pad_len]
theorem pad_at (ids : List Int) (i : Nat) (h : i < 16) : (pad ids)[i]? = some (.int .i64 (ids.getD i 0)) := by simp [pad, h]
theorem pad_snoc (ids : List Int) (x : Int) (h : ids.length < 16) : (pad ids).set ids.length (.int .i64 x) = pad (ids ++ [x]) := by
  apply List.ext_getElem?
  intro i
  by_cases hi : i < 16
  · rw [pad_at _ _ hi, List.getElem?_set]
    by_cases he : ids.length = i
    · subst he
      simp [pad_len, h]
    · rw [if_neg he, pad_at _ _ hi]
      simp only [List.getD_eq_getElem?_getD]
      rw [List.getElem?_append]
      by_cases hlt : i < ids.length
      · rw [if_pos hlt]
      · rw [if_neg hlt, List.getElem?_eq_none (by omega), List.getElem?_eq_none (by simp; omega)]
  · rw [List.getElem?_eq_none (by simp [pad_len]; omega), List.getElem?_eq_none (by simp [pad_len]; omega)]
theorem ndCells_snoc (v : Int) (fn : ByteArray) (argc : Nat) (ids : List Int) (x : Int) (h : ids.length < 16) : (ndCells v fn argc ids).set (3 + ids.length) (.int .i64 x) = ndCells v fn argc (ids ++ [x]) := by
  unfold ndCells
  rw [← pad_snoc ids x h, List.set_append, if_neg (by simp)]
  simp

theorem laidOut : laidOutB Try.prog = true := by kernel_rfl
theorem keyed82 : Keyed Try.prog 82 := Keyed.of_law (deep_law_laid laidOut (m := 4) (by omega) (of_decide_eq_true (by kernel_rfl)) (by kernel_rfl) (by kernel_rfl))
theorem keyed3 : Keyed Try.prog 3 := int_keyed Try.underlying3

theorem Try.cells3 : Try.prog.cellsOf 3 = 1 := by kernel_rfl
theorem Try.cells9 : Try.prog.cellsOf 9 = 1 := by kernel_rfl
theorem Try.cells80 : Try.prog.cellsOf 80 = 16 := by kernel_rfl
theorem Try.cells82 : Try.prog.cellsOf 82 = 19 := by kernel_rfl

theorem mapM_some {α β : Type} {f : α → Option β} : ∀ (l : List α), (∀ a ∈ l, (f a).isSome = true) → (l.mapM f).isSome = true
  | [], _ => rfl
  | a :: r, h => by
    have h1 := h a (by simp)
    have h2 := mapM_some r (fun b hb => h b (by simp [hb]))
    obtain ⟨x, hx⟩ := Option.isSome_iff_exists.1 h1
    obtain ⟨y, hy⟩ := Option.isSome_iff_exists.1 h2
    simp [List.mapM_cons, hx, hy]

theorem keyLits_int (d : Nat) {a : Int} (h : Fit64 a) : (Try.prog.keyLits (d + 1) 3 [.int .i64 a]).isSome = true := by
  simp [Program.keyLits, Try.underlying3, wf_of h]

theorem keyLits_args (d : Nat) (ids : List Int) (h : ∀ a ∈ ids, Fit64 a) : (Try.prog.keyLits (d + 1 + 1) 80 (pad ids)).isSome = true := by
  unfold Program.keyLits
  rw [Try.underlying80]
  simp only [Try.cells80, pad_len, if_true, Try.cells3]
  rw [Option.isSome_map]
  refine mapM_some _ fun i hi => ?_
  have hi' : i < 16 := by simpa using hi
  have e : ((pad ids).drop (i * 1)).take 1 = [.int .i64 (ids.getD i 0)] := by
    have hg := pad_at ids i hi'
    rw [Nat.mul_one]
    have hlt : i < (pad ids).length := by rw [pad_len]; exact hi'
    rw [List.drop_eq_getElem_cons hlt]
    rw [List.getElem?_eq_getElem hlt] at hg
    simp [Option.some.inj hg]
  rw [e]
  refine keyLits_int d ?_
  rw [List.getD_eq_getElem?_getD]
  cases hg : ids[i]? with
  | none => exact ⟨by decide, by decide⟩
  | some x => exact h x (List.mem_of_getElem? hg)

theorem Try.tsize : Try.prog.types.size = 145 + 1 + 1 + 1 := by kernel_rfl
theorem Try.kt82 : Try.prog.keyType 82 = true := by kernel_rfl
theorem formed82 (cs : List Value) (h : cs.length = 19) : (Value.agg cs.toArray).formed Try.prog 82 = true := by
  unfold Value.formed
  rw [Try.underlying82]
  simp [Try.cells82, h]

theorem Nd.key (nd : Nd) (h : nd.Fine) : ∃ kl, keyOf Try.prog 82 nd.val = some kl := by
  have hl := h.len
  have hf : (Value.agg nd.cells.toArray).formed Try.prog 82 = true := formed82 _ (ndCells_len _ _ _ _)
  have h80 := keyLits_args 146 nd.args h.each
  have hv := keyLits_int 147 h.v
  have hc : (Try.prog.keyLits 148 3 [.int .i64 (nd.args.length : Int)]).isSome = true := keyLits_int 147 ⟨by omega, by omega⟩
  have hs : (Try.prog.keyLits 148 9 [.string nd.fn]).isSome = true := by
    have h1 : nd.fn.size ≤ maxLen := by have := h.fn; unfold maxLen; omega
    simp [Program.keyLits, Try.underlying9, h1]
  obtain ⟨x1, e1⟩ := Option.isSome_iff_exists.1 hv
  obtain ⟨x2, e2⟩ := Option.isSome_iff_exists.1 hs
  obtain ⟨x3, e3⟩ := Option.isSome_iff_exists.1 hc
  obtain ⟨x4, e4⟩ := Option.isSome_iff_exists.1 h80
  have hk : (Try.prog.keyLits (148 + 1) 82 nd.cells).isSome = true := by
    unfold Program.keyLits
    rw [Try.underlying82]
    simp only [Try.cells82, Nd.cells, ndCells_len]
    have hp : (pad nd.args).take 16 = pad nd.args := List.take_of_length_le (by rw [pad_len]; omega)
    simp [ndCells, Try.cells3, Try.cells9, Try.cells80, e1, e2, e3, hp, e4]
  obtain ⟨ls, hls⟩ := Option.isSome_iff_exists.1 hk
  refine ⟨.string (keyBytes ls), ?_⟩
  unfold keyOf
  rw [Try.underlying82]
  simp only [Try.kt82, hf, Bool.and_self, if_true, Try.tsize]
  show (Try.prog.keyLits (148 + 1) 82 nd.cells.toArray.toList).map _ = _
  rw [List.toList_toArray, hls]
  rfl

/-- A map's value, as it is. -/
def Rid (v : Value) : Option (DataW Value × List MemPlace) := some (.held v, [])

/-- Block b is a map with n keys; m tells what it holds. -/
def MapIs (W : World) (k : TypeId) (b : Nat) (m : Value → Option Value) (n : Nat) : Prop :=
  ∃ D, W.ownsMap Try.prog k Rid b n D ∧ Maps.size D = n ∧ ∀ key kl, keyOf Try.prog k key = some kl →
    (∀ v, m key = some v → Maps.has D kl = true ∧ ∀ z, D.atKey kl z = .held v) ∧ (m key = none → Maps.has D kl = false)

open Classical in
noncomputable def upd (m : Value → Option Value) (key v : Value) : Value → Option Value := fun x => if x = key then some v else m x
open Classical in
noncomputable def del (m : Value → Option Value) (key : Value) : Value → Option Value := fun x => if x = key then none else m x

theorem tight {W : World} {k : TypeId} {b n : Nat} {D : DataW Value} (h : W.ownsMap Try.prog k Rid b n D) : W.ownsMap Try.prog k Rid b (Maps.size D) D := by
  obtain ⟨es, clock, hb, F, hs, rfl⟩ := h
  refine ⟨es, clock, hb, F, ?_, rfl⟩
  simp [Maps.size, length_sorted]

theorem MapIs.made (w : World) (k : TypeId) : MapIs (w.alloc (.map #[] 0)) k w.heap.size (fun _ => none) 0 :=
  ⟨_, World.ownsMap_made w _ _ _, rfl, fun _ _ _ => ⟨fun v h => (by cases h), fun _ => rfl⟩⟩

section
variable {W W' : World} {k : TypeId} {b n : Nat} {m : Value → Option Value}

theorem MapIs.lt (h : MapIs W k b m n) : b < W.heap.size := by
  obtain ⟨D, h1, _⟩ := h
  exact h1.lt
theorem MapIs.same (h : MapIs W k b m n) (hb : W'.heap[b]? = W.heap[b]?) : MapIs W' k b m n := by
  obtain ⟨D, ⟨es, clock, hb', r⟩, h2⟩ := h
  exact ⟨D, ⟨es, clock, hb.trans hb', r⟩, h2⟩

theorem MapIs.look (h : MapIs W k b m n) (K : Keyed Try.prog k) {t e : TypeId} (ht : Try.prog.underlying t = some (.map k e)) {z : Value} (hz : (zeroValue e).run Try.prog W = .ok z W) {key : Value} {kl : Lit} (hkey : keyOf Try.prog k key = some kl) :
    (∀ v, m key = some v → (Instr.lookup t (.map (some b)) key true).run Try.prog W = .ok (.tuple #[v, .bool true]) W ∧ (Instr.lookup t (.map (some b)) key false).run Try.prog W = .ok v W) ∧
    (m key = none → (Instr.lookup t (.map (some b)) key true).run Try.prog W = .ok (.tuple #[z, .bool false]) W ∧ (Instr.lookup t (.map (some b)) key false).run Try.prog W = .ok z W) := by
  obtain ⟨D, h1, h2, h3⟩ := h
  obtain ⟨v1, p1, r1, q1⟩ := h1.look_ok K ht hz (zd := .held z) (zp := []) rfl hkey
  obtain ⟨v2, p2, r2, q2⟩ := h1.lookup K ht hz (zd := .held z) (zp := []) rfl hkey
  obtain ⟨g1, g2⟩ := h3 key kl hkey
  simp only [Rid, Option.some.injEq, Prod.mk.injEq] at q1 q2
  refine ⟨fun v hv => ?_, fun hn => ?_⟩
  · obtain ⟨a1, a2⟩ := g1 v hv
    rw [a2] at q1 q2
    have e1 := DataW.held.inj q1.1
    have e2 := DataW.held.inj q2.1
    rw [a1, e1] at r1
    rw [e2] at r2
    exact ⟨r1, r2⟩
  · have a1 := g2 hn
    rw [Maps.atKey_of_not_has a1] at q1 q2
    have e1 := DataW.held.inj q1.1
    have e2 := DataW.held.inj q2.1
    rw [a1, e1] at r1
    rw [e2] at r2
    exact ⟨r1, r2⟩

theorem MapIs.len (h : MapIs W k b m n) {t e : TypeId} (ht : Try.prog.underlying t = some (.map k e)) (ty : TypeId) : (Builtin.len_ #[t] ty #[.map (some b)]).run Try.prog W = .ok (.int .i64 n) W := by
  obtain ⟨D, h1, h2, _⟩ := h
  have := h1.len ht ty
  rwa [h2] at this

theorem MapIs.put (h : MapIs W k b m n) (K : Keyed Try.prog k) {t e : TypeId} (ht : Try.prog.underlying t = some (.map k e)) (hn : n < maxLen) {key : Value} {kl : Lit} (hkey : keyOf Try.prog k key = some kl) (v : Value) :
    ∃ W', (Instr.mapUpdate t (.map (some b)) key v).run Try.prog W = .ok () W' ∧ MapIs W' k b (upd m key v) (match m key with | some _ => n | none => n + 1) ∧ W.grownBy W' (some b) := by
  obtain ⟨D, h1, h2, h3⟩ := h
  obtain ⟨W', r1, r2, r3⟩ := h1.update K ht hn hkey (val := v) (d := .held v) (ps := []) rfl
  obtain ⟨g1, g2⟩ := h3 key kl hkey
  have hsz : Maps.size (D.put kl (.held v)) = match m key with | some _ => n | none => n + 1 := by
    rw [Maps.size_put (h1.tidy K)]
    cases hm : m key with
    | none => rw [g2 hm, h2]; rfl
    | some u => rw [(g1 u hm).1, h2]; rfl
  have r2' := tight r2
  rw [hsz] at r2'
  refine ⟨W', r1, ⟨_, r2', hsz, fun key' kl' hk' => ?_⟩, r3⟩
  by_cases hkk : key' = key
  · subst hkk
    rw [hkey] at hk'
    cases hk'
    refine ⟨fun u hu => ?_, fun hu => ?_⟩
    · simp [upd] at hu
      subst hu
      exact ⟨Maps.has_put_same h1.isMap (K.key hkey) _, fun z => Maps.atKey_put_same h1.isMap (K.key hkey) _ z⟩
    · simp [upd] at hu
  · have hne : kl' ≠ kl := fun e => hkk (K.inj hk' (e ▸ hkey))
    obtain ⟨f1, f2⟩ := h3 key' kl' hk'
    refine ⟨fun u hu => ?_, fun hu => ?_⟩
    · rw [upd, if_neg hkk] at hu
      rw [Maps.has_put_other hne]
      exact ⟨(f1 u hu).1, fun z => by rw [Maps.atKey_put_other hne]; exact (f1 u hu).2 z⟩
    · rw [upd, if_neg hkk] at hu
      rw [Maps.has_put_other hne]
      exact f2 hu

theorem MapIs.drop (h : MapIs W k b m n) (K : Keyed Try.prog k) {t e : TypeId} (ht : Try.prog.underlying t = some (.map k e)) {key : Value} {kl : Lit} (hkey : keyOf Try.prog k key = some kl) (ty : TypeId) :
    ∃ W', (Builtin.delete_ #[t, k] ty #[.map (some b), key]).run Try.prog W = .ok (.tuple #[]) W' ∧ MapIs W' k b (del m key) (match m key with | some _ => n - 1 | none => n) ∧ W.grownBy W' (some b) := by
  obtain ⟨D, h1, h2, h3⟩ := h
  obtain ⟨W', r1, r2, r3⟩ := h1.drop K ht hkey ty
  obtain ⟨g1, g2⟩ := h3 key kl hkey
  have hsz : Maps.size (D.del kl) = match m key with | some _ => n - 1 | none => n := by
    have := Maps.size_del (k := kl) (h1.tidy K)
    cases hm : m key with
    | none => rw [g2 hm, h2] at this; simpa using this
    | some u => rw [(g1 u hm).1, h2] at this; simp at this ⊢; omega
  have r2' := tight r2
  rw [hsz] at r2'
  refine ⟨W', r1, ⟨_, r2', hsz, fun key' kl' hk' => ?_⟩, r3.grown⟩
  by_cases hkk : key' = key
  · subst hkk
    rw [hkey] at hk'
    cases hk'
    refine ⟨fun u hu => ?_, fun _ => Maps.has_del_same⟩
    simp [del] at hu
  · have hne : kl' ≠ kl := fun e => hkk (K.inj hk' (e ▸ hkey))
    obtain ⟨f1, f2⟩ := h3 key' kl' hk'
    refine ⟨fun u hu => ?_, fun hu => ?_⟩
    · rw [del, if_neg hkk] at hu
      rw [Maps.has_del_other hne]
      exact ⟨(f1 u hu).1, fun z => by rw [Maps.atKey_del_other hne]; exact (f1 u hu).2 z⟩
    · rw [del, if_neg hkk] at hu
      rw [Maps.has_del_other hne]
      exact f2 hu
end

theorem key3 {a : Int} (h : Fit64 a) : keyOf Try.prog 3 (.int .i64 a) = some (.int .i64 a) := keyOf_int_mk Try.underlying3 (wf_of h)

end Go.Proofs.Ytbbfpllffcfmhaa
