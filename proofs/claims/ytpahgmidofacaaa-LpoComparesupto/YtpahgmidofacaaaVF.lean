/-
  enter at every term; the listing as parts that are compared.
-/
import Derived.Test.YtpahgmidofacaaaVE
import Derived.Test.YtpahgmidofacaaaWM
namespace Go.Proofs.Ytpahgmidofacaaa
open Go.RowKit Go.Maps

theorem enter_any (w0 : World) (G : Sg) (Sy : List Sym) (V : List Int) (ρ : Sym → Nat) (H : Hs G Sy V ρ) (lb br bv bn : Nat) (t : T) : Ent w0 G Sy V ρ lb br bv bn t := by
  induction t using T.ind with
  | _ t ih => exact enter_one w0 G Sy V ρ H lb br bv bn t ih

section
variable {n0 : Nat} {G : Sg} {Sy : List Sym} {V : List Int} {ρ : Sym → Nat} {lb br bv bn : Nat} {E : List Pe} {vp : Value} {W : World}

theorem Ls.lst (h : Ls n0 G Sy V ρ lb br bv bn E vp W) (H : Hs G Sy V ρ) (hl : E.length ≤ 8000) : Lst G ρ (fun x => (ixI V x).getD 0) ((V.length + 63) / 64) (E.map (·.t)) := by
  have hmm : (E.map Pe.p).map (·.1) = E.map (·.t) := by simp
  have hin : ∀ t ∈ E.map (·.t), ∃ p ∈ E.map Pe.p, p.1 = t := fun t ht => by rw [← hmm] at ht; exact List.mem_map.1 ht
  refine ⟨⟨Sy, H.rk, fun t ht s hs => ?_⟩, fun t ht => ?_, ?_, fun t ht u hu x hx y hy e => ?_, fun t ht x hx => ?_, by simpa using hl⟩
  · obtain ⟨p, hp, rfl⟩ := hin t ht
    exact h.lp.sy p hp s hs
  · obtain ⟨p, hp, rfl⟩ := hin t ht
    exact h.lp.sh p hp
  · rw [← hmm]; exact h.lp.nd
  · obtain ⟨p, hp, rfl⟩ := hin t ht
    obtain ⟨q, hq, rfl⟩ := hin u hu
    obtain ⟨i, ei, hi, hix⟩ := ixI_some (h.lp.vs p hp x hx)
    obtain ⟨j, ej, hj, hjx⟩ := ixI_some (h.lp.vs q hq y hy)
    simp only [ei, ej, Option.getD_some] at e
    subst e
    rw [← hix, ← hjx]
  · obtain ⟨p, hp, rfl⟩ := hin t ht
    obtain ⟨i, ei, hi, hix⟩ := ixI_some (h.lp.vs p hp x hx)
    simp only [ei, Option.getD_some]
    omega

theorem Ls.pts (h : Ls n0 G Sy V ρ lb br bv bn E vp W) : Pts ρ (fun x => (ixI V x).getD 0) ((V.length + 63) / 64) (E.map (·.t)) W vp := by
  have hmm : (E.map Pe.p).map (·.1) = E.map (·.t) := by simp
  obtain ⟨a, c, rfl, hc, hm⟩ : ∃ a c, vp = .slice a E.length c ∧ E.length ≤ c ∧ c ≤ 9223372036854775807 := by
    obtain ⟨hl, ⟨e, h0⟩ | ⟨g, cap, cur, e, hb, hg, hc, hm, hsz, ht⟩⟩ := h.row
    · exact ⟨none, 0, by rw [e, h0], by omega, by omega⟩
    · exact ⟨_, cap, e, hc, hm⟩
  refine ⟨a, c, by simp, by simpa using hc, hm, fun i hi => ?_⟩
  have hi' : i < E.length := by simpa using hi
  obtain ⟨b, hob, hlt, ⟨c', hc', _, _⟩, hcell⟩ := h.cell hi'
  have hpa : a = some ⟨b, 0, none⟩ := (Value.slice.inj hc').1
  have hk := h.ks i hi'
  have hix : Idx ((E.map Pe.p).map (·.1)) E[i].ids E[i].t.args := h.lp.ix E[i].p (List.mem_map.2 ⟨E[i], List.getElem_mem hi', rfl⟩)
  rw [hmm] at hix
  refine ⟨b, 0, E[i].sA, E[i].ids, E[i].sV, E[i].ws, hpa, hlt, ?_, ?_, ?_, ?_, ?_, (h.ra _ (List.getElem_mem hi')).row, (h.rv _ (List.getElem_mem hi')).row, ?_, ?_⟩
  · have := hcell 0 (by decide)
    rw [Nat.add_zero] at this
    rw [this, Pe.cells, hk]; rfl
  · rw [hcell 1 (by decide)]; simp [Pe.cells]
  · rw [hcell 2 (by decide)]; simp [Pe.cells]
  · rw [hcell 3 (by decide)]; simp [Pe.cells]
  · rw [hcell 4 (by decide)]; simp [Pe.cells]
  · simpa [Idx] using hix
  · simpa using h.bt _ (List.getElem_mem hi')
end

/-- A listing of nothing. -/
theorem ls_nil {n0 : Nat} {G : Sg} {ts : List T} {Sy : List Sym} {V : List Int} {ρ : Sym → Nat} {br bv bn lb : Nat} {W : World} (hH : Heads G ts W br bv Sy V ρ) (hm : MapIs W 97 bn (fun _ => none) 0) (hl : W.heap[lb]? = some (.cells #[.map (some br), .map (some bv), .map (some bn), .slice none 0 0] 62 (0, 0))) (h1 : n0 ≤ lb) (h2 : n0 ≤ bn) (h3 : br ≠ bn) (h4 : bv ≠ bn) :
    Ls n0 G Sy V ρ lb br bv bn [] (.slice none 0 0) W := by
  have e : nmap ρ ([] : List (T × List Nat)) = fun _ => none := by
    funext key
    unfold nmap
    rw [dif_neg]
    rintro ⟨i, hi, _⟩
    exact absurd hi (by simp)
  refine ⟨hl, hH.mr, hH.mv, ?_, ⟨rfl, .inl ⟨rfl, rfl⟩⟩, fun i h => absurd h (by simp), fun e h => (by cases h), fun e h => (by cases h), fun e h => (by cases h), ⟨fun p h => (by cases h), by simp, fun p h => (by cases h), fun p h => (by cases h), fun p h => (by cases h)⟩, ⟨h1, h2⟩, h3, h4⟩
  rw [List.map_nil, e]
  exact hm

/-- Two terms in a row. -/
theorem args_two (W : World) (x y : T) (sx sy : Value) (hx : ArgsAt W sx x.args) (hy : ArgsAt W sy y.args) :
    ArgsAt (W.alloc (.cells #[.int .i64 x.v, .string x.fn, sx, .int .i64 y.v, .string y.fn, sy] 28)) (.slice (some ⟨W.heap.size, 0, none⟩) 2 2) [x, y] := by
  have hb := below_box W (.cells #[.int .i64 x.v, .string x.fn, sx, .int .i64 y.v, .string y.fn, sy] 28)
  have hc := (MapKept.heap_alloc W (.cells #[.int .i64 x.v, .string x.fn, sx, .int .i64 y.v, .string y.fn, sy] 28)).1
  generalize W.alloc (.cells #[.int .i64 x.v, .string x.fn, sx, .int .i64 y.v, .string y.fn, sy] 28) = W' at *
  refine ArgsAt.mk (some ⟨W.heap.size, 0, none⟩) 2 [x, y] (fun i => if i = 0 then sx else sy) (by simp) (by omega) (fun _ => ⟨W.heap.size, 0, (Array.getElem?_eq_some_iff.1 hc).1, rfl, fun i hi => ?_⟩) (fun i hi => ?_)
  · have : i = 0 ∨ i = 1 := by simp at hi; omega
    rcases this with rfl | rfl <;> simp [World.cell?, hc]
  · have : i = 0 ∨ i = 1 := by simp at hi; omega
    rcases this with rfl | rfl
    · exact ArgsAt.keep hb (Nat.le_refl _) hx
    · exact ArgsAt.keep hb (Nat.le_refl _) hy

end Go.Proofs.Ytpahgmidofacaaa
