/-
  A net that was laid is a net; what has been joined fits.
-/
import Derived.Test.YtiklbkkimmgbcaaHH
import Derived.Test.YtiklbkkimmgbcaaFF
namespace Go.Proofs.Ytiklbkkimmgbcaa
open Go.RowKit

theorem IntsP.withP {P : Nat → Prop} {W : World} {v : Value} {l : List Int} (h : IntsP (fun _ => True) W v l) (hp : ∀ b, v.ownBlock = some b → P b) : IntsP P W v l := by
  obtain ⟨a, c, rfl, h1, h2, h3⟩ := h
  refine ⟨a, c, rfl, h1, h2, fun h0 => ?_⟩
  obtain ⟨b, o, rfl, hlt, _, h4⟩ := h3 h0
  exact ⟨b, o, rfl, hlt, hp b rfl, h4⟩

def avOf (L : List (Nd × Value)) : Nat → Value := fun i => (L[i]?.map (·.2)).getD undef
theorem avOf_get {L : List (Nd × Value)} {i : Nat} (h : i < L.length) : avOf L i = L[i].2 := by simp [avOf, h]

theorem LayS.net {W0 W : World} {B base : Nat} {v : Value} {L : List (Nd × Value)} (h : LayS W0 W B base v L) (h0 : 0 < L.length) (hl : L.length ≤ 1048576) : ∃ g c, v = .slice (some ⟨g, 0, none⟩) L.length c ∧ Net W B g c (L.map (·.1)) id (avOf L) := by
  obtain ⟨hlen, ⟨e, hn⟩ | ⟨g, cap, cur, e, hb, hg, hc, hm, hsz, ht⟩⟩ := h.row
  · omega
  · refine ⟨g, cap, e, ?_, ⟨cur, hg, fun i hi => ?_⟩, fun i hi => ?_, ?_, fun i hi a ha => ?_, by simpa using hl⟩
    · rw [List.length_map, ← e]; exact h.box
    · have hi' : i < L.length := by simpa using hi
      obtain ⟨c0, c1, c2, c3⟩ := flN_get L 0 i L[i] (List.getElem?_eq_getElem hi')
      have look : ∀ (j : Nat) (u : Value), j < L.length * 4 → (flN L 0)[j]? = some u → cur[j]? = some u := fun j u hj hu => by
        rw [← ht, List.getElem?_take_of_lt hj] at hu
        simpa using hu
      rw [avOf_get hi', List.getElem_map]
      refine ⟨look _ _ (by omega) c0, look _ _ (by omega) c1, look _ _ (by omega) c2, ?_⟩
      have := look _ _ (by omega) c3
      simpa using this
    · have hi' : i < L.length := by simpa using hi
      rw [avOf_get hi', List.getElem_map]
      refine (h.ia _ (List.getElem_mem hi')).withP (fun b hbx => ?_)
      obtain ⟨_, k2, k3⟩ := h.ib _ (List.getElem_mem hi') b hbx
      exact ⟨fun e2 => k3 (by rw [e, e2]; rfl), k2⟩
    · have := h.ord; omega
    · have hi' : i < L.length := by simpa using hi
      rw [List.getElem_map] at ha
      have := h.lt i L[i] (List.getElem?_eq_getElem hi') a ha
      simp
      omega

theorem up_start (n : Nat) : Up n id id (fun _ => 0) 0 := ⟨fun _ h => h, fun _ _ => rfl, fun _ _ => Iff.rfl, fun _ _ h => absurd rfl h, fun _ => Nat.le_refl _⟩
theorem tp_start (N : List Nd) : Tp N id := ⟨fun _ h => h, fun _ => rfl, fun _ h => h⟩
theorem jn_start (N : List Nd) (P : List (Nat × Nat)) : Jn N id P := by
  intro i j di dj hi hj _ _ e
  have e : i = j := e
  subst e
  rw [hi] at hj
  cases hj
  refine ⟨rfl, rfl, fun k a b ha hb => ?_⟩
  rw [ha] at hb
  cases hb
  exact .same rfl

theorem feats_fit {s t : T} (h : ∀ pl, uniB (feat s pl) (feat t pl) = true) : fitB uniB (feats s) (feats t) = true := by
  unfold fitB feats
  simp [h]

theorem joined_fits {W W' : World} {B g c : Nat} {N : List Nd} {av : Nat → Value} {x y : Nat} {s t : T} (h : JoinP W B g c N id av x y (.returned (.bool true)) W') (hx : Rep N x s) (hy : Rep N y t) : fitB uniB (feats s) (feats t) = true := by
  obtain ⟨z, up', ρ', r', K', e, _, _, _, _, _, hz⟩ := h
  cases e
  obtain ⟨j1, _, j3⟩ := hz rfl
  exact feats_fit fun pl => rep_fits (j1 [] (jn_start _ _)) pl x y s t hx hy j3

end Go.Proofs.Ytiklbkkimmgbcaa
