/-
  What an index holds, as a list: mathematics.
-/
import Derived.Test.YtiklbkkimmgbcaaFH
namespace Go.Proofs.Ytiklbkkimmgbcaa
open Go.RowKit Go.Maps

/-- A fingerprint. -/
structure Fp where
  a : Ft
  b : Ft
  c : Ft
  d : Ft
abbrev Fp.list (p : Fp) : List Ft := [p.a, p.b, p.c, p.d]
abbrev kv (p : Fp) : Value := .agg (fcells p.a p.b p.c p.d).toArray
abbrev fpOf (t : T) : Fp := ⟨feat t [], feat t [0], feat t [1], feat t [0, 0]⟩
theorem kv_inj {p q : Fp} (h : kv p = kv q) : p = q := by
  obtain ⟨⟨_, _, _⟩, ⟨_, _, _⟩, ⟨_, _, _⟩, ⟨_, _, _⟩⟩ := p
  obtain ⟨⟨_, _, _⟩, ⟨_, _, _⟩, ⟨_, _, _⟩, ⟨_, _, _⟩⟩ := q
  simp [kv, fcells] at h
  simp [h]

/-- What is kept by a number. -/
def look (L : List (Int × Fp)) (z : Int) : Option Fp := (L.find? (fun e => e.1 == z)).map (·.2)
def Ids (L : List (Int × Fp)) : Prop := (L.map (·.1)).Nodup
theorem look_mem {L : List (Int × Fp)} {z : Int} {p : Fp} (h : look L z = some p) : (z, p) ∈ L := by
  unfold look at h
  obtain ⟨e, he, rfl⟩ := Option.map_eq_some_iff.1 h
  have h1 := List.mem_of_find?_eq_some he
  have h2 := List.find?_some he
  have : e.1 = z := by simpa using h2
  rw [← this]
  exact h1
theorem mem_look : ∀ {L : List (Int × Fp)} {z : Int} {p : Fp}, Ids L → (z, p) ∈ L → look L z = some p
  | [], _, _, _, h => by cases h
  | e :: L, z, p, hd, h => by
    unfold look
    by_cases he : e.1 = z
    · rw [List.find?_cons_of_pos (by simpa using he)]
      rcases List.mem_cons.1 h with rfl | h
      · rfl
      · exfalso
        have : z ∈ L.map (·.1) := List.mem_map.2 ⟨(z, p), h, rfl⟩
        rw [← he] at this
        exact (List.nodup_cons.1 hd).1 this
    · rw [List.find?_cons_of_neg (by simpa using he)]
      rcases List.mem_cons.1 h with rfl | h
      · exact absurd rfl he
      · exact mem_look (List.nodup_cons.1 hd).2 h
theorem look_none {L : List (Int × Fp)} {z : Int} : look L z = none ↔ ∀ p, (z, p) ∉ L := by
  unfold look
  rw [Option.map_eq_none_iff, List.find?_eq_none]
  constructor
  · intro h p hp
    exact h _ hp (by simp)
  · rintro h ⟨x, p⟩ hx e
    have : x = z := by simpa using e
    subst this
    exact h p hx
/-- It is in, and with which fingerprint. -/
theorem look_iff {L : List (Int × Fp)} (hd : Ids L) {z : Int} {p : Fp} : look L z = some p ↔ (z, p) ∈ L := ⟨look_mem, mem_look hd⟩
theorem look_ext {L M : List (Int × Fp)} (_ : Ids L) (hm : Ids M) {z : Int} (h : ∀ p, (z, p) ∈ L ↔ (z, p) ∈ M) : look L z = look M z := by
  cases e : look L z with
  | some p => exact (mem_look hm ((h p).1 (look_mem e))).symm
  | none =>
    symm
    rw [look_none] at e ⊢
    exact fun p hp => e p ((h p).2 hp)

abbrev gptr (γ : Fp → Nat × Nat) (p : Fp) : Value := .pointer (some ⟨(γ p).1, 0, none⟩)
/-- By numbers. -/
def hmap (L : List (Int × Fp)) (γ : Fp → Nat × Nat) : Value → Option Value
  | .int .i64 z => (look L z).map (gptr γ)
  | _ => none
open Classical in
/-- The numbers of a group. -/
noncomputable def nmap (L : List (Int × Fp)) (p : Fp) : Value → Option Value
  | .int .i64 z => if look L z = some p then some (.agg #[]) else none
  | _ => none
def fps (L : List (Int × Fp)) : List Fp := L.map (·.2)
open Classical in
/-- By fingerprints. -/
noncomputable def gmap (L : List (Int × Fp)) (γ : Fp → Nat × Nat) : Value → Option Value := fun v => if h : ∃ p, p ∈ fps L ∧ v = kv p then some (gptr γ h.choose) else none
theorem gmap_in {L : List (Int × Fp)} {γ : Fp → Nat × Nat} {p : Fp} (h : p ∈ fps L) : gmap L γ (kv p) = some (gptr γ p) := by
  unfold gmap
  have hx : ∃ q, q ∈ fps L ∧ kv p = kv q := ⟨p, h, rfl⟩
  rw [dif_pos hx, ← kv_inj hx.choose_spec.2]
theorem gmap_out {L : List (Int × Fp)} {γ : Fp → Nat × Nat} {p : Fp} (h : p ∉ fps L) : gmap L γ (kv p) = none := by
  unfold gmap
  rw [dif_neg]
  rintro ⟨q, hq, e⟩
  exact h (kv_inj e ▸ hq)
theorem gmap_some {L : List (Int × Fp)} {γ : Fp → Nat × Nat} {v u : Value} (h : gmap L γ v = some u) : ∃ p, p ∈ fps L ∧ v = kv p ∧ u = gptr γ p := by
  unfold gmap at h
  split at h
  · rename_i hx
    cases h
    exact ⟨_, hx.choose_spec.1, hx.choose_spec.2, rfl⟩
  · cases h
open Classical in
/-- How many have that fingerprint. -/
noncomputable def cntF (L : List (Int × Fp)) (p : Fp) : Nat := (L.filter (fun e => decide (e.2 = p))).length
theorem cntF_le (L : List (Int × Fp)) (p : Fp) : cntF L p ≤ L.length := List.length_filter_le _ _
theorem cntF_pos {L : List (Int × Fp)} {p : Fp} : 0 < cntF L p ↔ p ∈ fps L := by
  unfold cntF fps
  rw [List.length_pos_iff_exists_mem]
  simp only [List.mem_filter, decide_eq_true_eq, List.mem_map]

/-- One more. -/
structure Add (L M : List (Int × Fp)) (z : Int) (p : Fp) : Prop where
  mem : ∀ e, e ∈ M ↔ e ∈ L ∨ e = (z, p)
  new : look L z = none
  ids : Ids M
  len : M.length = L.length + 1
  cnt : ∀ q, cntF M q = cntF L q + cntF [(z, p)] q
theorem add_look {L M : List (Int × Fp)} {z : Int} {p : Fp} (h : Add L M z p) (hd : Ids L) (x : Int) : look M x = if x = z then some p else look L x := by
  by_cases e : x = z
  · subst e
    rw [if_pos rfl]
    exact mem_look h.ids ((h.mem _).2 (.inr rfl))
  · rw [if_neg e]
    exact look_ext h.ids hd (fun q => by rw [h.mem]; simp [e])
theorem add_hmap {L M : List (Int × Fp)} {z : Int} {p : Fp} (h : Add L M z p) (hd : Ids L) (γ : Fp → Nat × Nat) : upd (hmap L γ) (.int .i64 z) (gptr γ p) = hmap M γ := by
  funext v
  unfold upd
  by_cases e : v = .int .i64 z
  · subst e
    rw [if_pos rfl]
    simp [hmap, add_look h hd]
  · rw [if_neg e]
    unfold hmap
    split
    · rename_i x
      have hx : x ≠ z := fun q => e (by rw [q])
      rw [add_look h hd, if_neg hx]
    · rfl
theorem add_nmap {L M : List (Int × Fp)} {z : Int} {p : Fp} (h : Add L M z p) (hd : Ids L) : upd (nmap L p) (.int .i64 z) (.agg #[]) = nmap M p := by
  funext v
  unfold upd
  by_cases e : v = .int .i64 z
  · subst e
    rw [if_pos rfl]
    simp [nmap, add_look h hd]
  · rw [if_neg e]
    unfold nmap
    split
    · rename_i x
      have hx : x ≠ z := fun q => e (by rw [q])
      rw [add_look h hd, if_neg hx]
    · rfl
theorem add_nmap_ne {L M : List (Int × Fp)} {z : Int} {p q : Fp} (h : Add L M z p) (hd : Ids L) (hq : q ≠ p) : nmap L q = nmap M q := by
  funext v
  unfold nmap
  split
  · rename_i x
    rw [add_look h hd]
    by_cases e : x = z
    · subst e
      rw [if_pos rfl, if_neg (by rw [h.new]; simp), if_neg (by simp; exact fun e => hq e.symm)]
    · rw [if_neg e]
  · rfl
theorem add_fps {L M : List (Int × Fp)} {z : Int} {p : Fp} (h : Add L M z p) (q : Fp) : q ∈ fps M ↔ q ∈ fps L ∨ q = p := by
  unfold fps
  simp only [List.mem_map]
  constructor
  · rintro ⟨e, he, rfl⟩
    rcases (h.mem e).1 he with k | rfl
    · exact .inl ⟨e, k, rfl⟩
    · exact .inr rfl
  · rintro (⟨e, he, rfl⟩ | rfl)
    · exact ⟨e, (h.mem e).2 (.inl he), rfl⟩
    · exact ⟨(z, q), (h.mem _).2 (.inr rfl), rfl⟩

end Go.Proofs.Ytiklbkkimmgbcaa
