/-
  Fingerprints as keys; an index in memory.
-/
import Derived.Test.YtiklbkkimmgbcaaGA
import Derived.Test.YtiklbkkimmgbcaaFI
import Derived.Test.YtiklbkkimmgbcaaFJ
namespace Go.Proofs.Ytiklbkkimmgbcaa
open Go.RowKit Go.Maps

theorem Try.kt66 : Try.prog.keyType 66 = true := by kernel_rfl
theorem Try.cells66k : Try.prog.cellsOf 66 = 12 := by kernel_rfl
theorem Try.cells63k : Try.prog.cellsOf 63 = 3 := by kernel_rfl
theorem Try.cells3k : Try.prog.cellsOf 3 = 1 := by kernel_rfl
theorem Try.cells9k : Try.prog.cellsOf 9 = 1 := by kernel_rfl
theorem Try.tsize : Try.prog.types.size = 154 + 1 + 1 + 1 := by kernel_rfl
theorem mapM_some {α β : Type} {f : α → Option β} : ∀ (l : List α), (∀ a ∈ l, (f a).isSome = true) → (l.mapM f).isSome = true
  | [], _ => rfl
  | a :: r, h => by
    have h1 := h a (by simp)
    have h2 := mapM_some r (fun b hb => h b (by simp [hb]))
    obtain ⟨x, hx⟩ := Option.isSome_iff_exists.1 h1
    obtain ⟨y, hy⟩ := Option.isSome_iff_exists.1 h2
    simp [List.mapM_cons, hx, hy]
/-- A feature that can be part of a key. -/
def Ft.ok (f : Ft) : Prop := Fit64 f.kind ∧ Fit64 f.ar ∧ f.fn.size ≤ 64
def Fp.ok (p : Fp) : Prop := p.a.ok ∧ p.b.ok ∧ p.c.ok ∧ p.d.ok
theorem keyLits_ft (d : Nat) {f : Ft} (h : f.ok) : (Try.prog.keyLits (d + 1 + 1) 63 [.int .i64 f.kind, .int .i64 f.ar, .string f.fn]).isSome = true := by
  have h1 : (Try.prog.keyLits (d + 1) 3 [.int .i64 f.kind]).isSome = true := by simp [Program.keyLits, Try.underlying3, wf_of h.1]
  have h2 : (Try.prog.keyLits (d + 1) 3 [.int .i64 f.ar]).isSome = true := by simp [Program.keyLits, Try.underlying3, wf_of h.2.1]
  have h3 : (Try.prog.keyLits (d + 1) 9 [.string f.fn]).isSome = true := by
    have h1 : f.fn.size ≤ maxLen := by unfold maxLen; have := h.2.2; omega
    simp [Program.keyLits, Try.underlying9, h1]
  obtain ⟨x1, e1⟩ := Option.isSome_iff_exists.1 h1
  obtain ⟨x2, e2⟩ := Option.isSome_iff_exists.1 h2
  obtain ⟨x3, e3⟩ := Option.isSome_iff_exists.1 h3
  unfold Program.keyLits
  rw [Try.underlying63]
  simp [Try.cells63k, Try.cells9k, Try.cells3k, e1, e2, e3]
set_option maxRecDepth 100000 in
theorem fp_key {p : Fp} (h : p.ok) : ∃ kl, keyOf Try.prog 66 (kv p) = some kl := by
  have hf : (kv p).formed Try.prog 66 = true := by
    unfold Value.formed
    rw [Try.underlying66]
    simp [Try.cells66k]
  have hk : (Try.prog.keyLits (157 + 1) 66 (fcells p.a p.b p.c p.d)).isSome = true := by
    unfold Program.keyLits
    rw [Try.underlying66]
    have hl : (fcells p.a p.b p.c p.d).length = 12 := rfl
    simp only [Try.cells66k, hl, if_true, Try.cells63k]
    rw [Option.isSome_map]
    refine mapM_some _ fun i hi => ?_
    have hi' : i < 4 := by simpa using hi
    have : i = 0 ∨ i = 1 ∨ i = 2 ∨ i = 3 := by omega
    rcases this with rfl | rfl | rfl | rfl
    · exact keyLits_ft 155 h.1
    · exact keyLits_ft 155 h.2.1
    · exact keyLits_ft 155 h.2.2.1
    · exact keyLits_ft 155 h.2.2.2
  obtain ⟨ls, hls⟩ := Option.isSome_iff_exists.1 hk
  refine ⟨.string (keyBytes ls), ?_⟩
  unfold keyOf
  rw [Try.underlying66]
  simp only [Try.kt66, hf, Bool.and_self, if_true, Try.tsize]
  show (Try.prog.keyLits (157 + 1) 66 (fcells p.a p.b p.c p.d).toArray.toList).map _ = _
  rw [List.toList_toArray, hls]
  rfl
theorem ft_ok {k r : Int} {s : ByteArray} (h1 : 0 ≤ k ∧ k ≤ 4) (h2 : 0 ≤ r ∧ r ≤ 16) (h3 : s.size ≤ 64) : (Ft.mk k r s).ok :=
  ⟨⟨by show _ ≤ k; omega, by show k ≤ _; omega⟩, ⟨by show _ ≤ r; omega, by show r ≤ _; omega⟩, h3⟩
theorem feat_ok : ∀ (pl : List Nat) (t : T), t.shape = true → (feat t pl).ok
  | [], t, h => by
    unfold feat
    split
    · exact ft_ok (by omega) (by omega) (by simp [ByteArray.size])
    · rename_i h0
      rw [t.shape_eq, if_neg h0] at h
      simp only [Bool.and_eq_true, decide_eq_true_eq] at h
      obtain ⟨⟨⟨_, h2⟩, h3⟩, _⟩ := h
      exact ft_ok (by omega) (by omega) h2
  | k :: ks, t, h => by
    unfold feat
    split
    · exact ft_ok (by omega) (by omega) (by simp [ByteArray.size])
    · rename_i h0
      split
      · rename_i hk
        refine feat_ok ks _ ?_
        rw [t.shape_eq, if_neg h0] at h
        simp only [Bool.and_eq_true] at h
        exact List.all_eq_true.1 h.2 _ (List.getElem_mem hk)
      · exact ft_ok (by omega) (by omega) (by simp [ByteArray.size])
theorem fpOf_ok {t : T} (h : t.rightW = 0) : (fpOf t).ok := by
  have hs : t.shape = true := by
    unfold T.rightW at h
    split at h
    · omega
    · rename_i k; simpa using k
  exact ⟨feat_ok _ t hs, feat_ok _ t hs, feat_ok _ t hs, feat_ok _ t hs⟩

/-- A group in memory. -/
structure Grp (W : World) (g m : Nat) (p : Fp) (L : List (Int × Fp)) : Prop where
  gb : W.heap[g]? = some (.cells (fcells p.a p.b p.c p.d ++ [Value.map (some m)]).toArray 82 (0, 0))
  nu : MapIs W 3 m (nmap L p) (cntF L p)
/-- An index in memory. -/
structure Ixs (w : World) (bx m1 m2 K : Nat) (L : List (Int × Fp)) (γ : Fp → Nat × Nat) (W : World) : Prop where
  bel : Below w.heap.size w W
  low : w.heap.size ≤ bx ∧ w.heap.size ≤ m1 ∧ w.heap.size ≤ m2
  ne : bx ≠ m1 ∧ bx ≠ m2 ∧ m1 ≠ m2
  ids : Ids L
  fit : ∀ e ∈ L, Fit64 e.1 ∧ e.2.ok
  box : W.heap[bx]? = some (.cells #[.map (some m1), .map (some m2)] 75 (0, 0))
  gr : ∃ n, n ≤ K ∧ MapIs W 66 m1 (gmap L γ) n
  ho : MapIs W 3 m2 (hmap L γ) L.length
  grp : ∀ p ∈ fps L, Grp W (γ p).1 (γ p).2 p L
  glow : ∀ p ∈ fps L, w.heap.size ≤ (γ p).1 ∧ w.heap.size ≤ (γ p).2 ∧ (γ p).1 ≠ (γ p).2 ∧ (bx ≠ (γ p).1 ∧ m1 ≠ (γ p).1 ∧ m2 ≠ (γ p).1) ∧ (bx ≠ (γ p).2 ∧ m1 ≠ (γ p).2 ∧ m2 ≠ (γ p).2)
  gne : ∀ p ∈ fps L, ∀ q ∈ fps L, p ≠ q → (γ p).1 ≠ (γ q).1 ∧ (γ p).1 ≠ (γ q).2 ∧ (γ p).2 ≠ (γ q).2
theorem Grp.keep {W W' : World} {g m : Nat} {p : Fp} {L : List (Int × Fp)} (h : Grp W g m p L) (h1 : W'.heap[g]? = W.heap[g]?) (h2 : W'.heap[m]? = W.heap[m]?) : Grp W' g m p L := ⟨h1.trans h.gb, h.nu.same h2⟩
theorem Ixs.keep {w W W' : World} {bx m1 m2 K : Nat} {L : List (Int × Fp)} {γ : Fp → Nat × Nat} (h : Ixs w bx m1 m2 K L γ W) (hb : Below W.heap.size W W') : Ixs w bx m1 m2 K L γ W' := by
  obtain ⟨n, hn, hg⟩ := h.gr
  refine ⟨h.bel.trans (hb.mono h.bel.size), h.low, h.ne, h.ids, h.fit, (hb.block _ (Array.getElem?_eq_some_iff.1 h.box).1).trans h.box, ⟨n, hn, hg.same (hb.block _ hg.lt)⟩, h.ho.same (hb.block _ h.ho.lt), fun p hp => ?_, h.glow, h.gne⟩
  have q := h.grp p hp
  exact q.keep (hb.block _ (Array.getElem?_eq_some_iff.1 q.gb).1) (hb.block _ q.nu.lt)
theorem Ixs.cells {w W : World} {bx m1 m2 K : Nat} {L : List (Int × Fp)} {γ : Fp → Nat × Nat} (h : Ixs w bx m1 m2 K L γ W) : W.cell? ⟨bx, 0, none⟩ = some (.map (some m1)) ∧ W.cell? ⟨bx, 1, none⟩ = some (.map (some m2)) := by
  constructor <;> simp [World.cell?, h.box]
theorem gmap_nil (γ : Fp → Nat × Nat) : gmap [] γ = fun _ => none := by
  funext v
  unfold gmap
  rw [dif_neg]
  rintro ⟨p, hp, _⟩
  cases hp
theorem hmap_nil (γ : Fp → Nat × Nat) : hmap [] γ = fun _ => none := by
  funext v
  unfold hmap
  split <;> rfl
theorem Ixs.of_new {w W : World} {bx m1 m2 : Nat} (h : Ix0 w bx m1 m2 W) (γ : Fp → Nat × Nat) (K : Nat) : Ixs w bx m1 m2 K [] γ W :=
  ⟨h.bel, h.low, h.ne, List.nodup_nil, by simp, h.box, ⟨0, Nat.zero_le _, by rw [gmap_nil]; exact h.gr⟩, by rw [hmap_nil]; exact h.ho, fun p hp => (by cases hp), fun p hp => (by cases hp), fun p hp => (by cases hp)⟩

end Go.Proofs.Ytiklbkkimmgbcaa
