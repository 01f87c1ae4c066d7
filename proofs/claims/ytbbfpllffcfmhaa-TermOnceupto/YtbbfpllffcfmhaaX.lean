/-
  missing.
-/
import Derived.Test.YtbbfpllffcfmhaaV
namespace Go.Proofs.Ytbbfpllffcfmhaa
open Go.RowKit Go.Maps

/-- How many nodes of the term are not there. -/
noncomputable def missing (es : List Ent) (hes : ∀ e ∈ es, Fit64 e.id) (t : T) : Nat := (((missM 0 0 0 0 0 0 es [] hes).num t ([] : List Nd)).1 : List Nd).length

theorem miss_num (n0 Ba Bp Bf bf : Nat) (limit : Int) (es : List Ent) (free : List Int) (hes : ∀ e ∈ es, Fit64 e.id) (t : T) : ∀ s : List Nd, (((missM n0 Ba Bp Bf bf limit es free hes).num t s) : List Nd × Int) = ((missM 0 0 0 0 0 0 es [] hes).num t s : List Nd × Int) := by
  induction t using T.ind with
  | _ t ih =>
    intro s
    have h : ∀ (l : List T) (s : List Nd), (∀ a ∈ l, a ∈ t.args) → ((Numb.num.nums (missM n0 Ba Bp Bf bf limit es free hes) l s) : List Nd × List Int) = (Numb.num.nums (missM 0 0 0 0 0 0 es [] hes) l s : List Nd × List Int) := by
      intro l
      induction l with
      | nil => intro s _; rfl
      | cons a r ihl =>
        intro s hm
        have h1 := ih a (hm a (by simp)) s
        have h2 := ihl ((missM 0 0 0 0 0 0 es [] hes).num a s).1 (fun b hb => hm b (by simp [hb]))
        show (_, _) = (_, _)
        rw [h1, h2]
    have h1 := h t.args s (fun _ h => h)
    refine (Numb.num_eq (missM n0 Ba Bp Bf bf limit es free hes) t s).trans (Eq.trans ?_ (Numb.num_eq (missM 0 0 0 0 0 0 es [] hes) t s).symm)
    exact congrArg (fun p : List Nd × List Int => missStep es p.1 ⟨t.v, t.fn, p.2⟩) h1

set_option maxRecDepth 100000 in
set_option maxHeartbeats 1000000 in
theorem missing_any (w0 : World) (n0 Ba : Nat) (B1 : List Nat) (limit : Int) (es : List Ent) (free : List Int) (hes : ∀ e ∈ es, Fit64 e.id) (t : T) (sl : Value) (W : World) (hn0 : w0.heap.size ≤ n0) (hb : BankSt n0 Ba B1 limit es free W) (hn : n0 ≤ W.heap.size)
    (ha : ArgsAt w0 sl t.args) (hw : Below w0.heap.size w0 W) (hsh : t.shape = true) (hsz : t.size ≤ 1073741824) :
    Calls Try.prog 48 #[.pointer (some ⟨Ba, 0, none⟩), tval t sl] W fun e W' => e = .returned (.int .i64 (missing es hes t)) ∧ ∃ B', BankSt n0 Ba B' limit es free W' ∧ (∀ r ∈ B', r ∈ B1 ∨ W.heap.size ≤ r) ∧ Only B1 W W' := by
  obtain ⟨a, c, rfl, hc, hm⟩ := ha.slice
  obtain ⟨W1, hW1⟩ : ∃ W1, (((W.alloc (.cells #[.pointer (some ⟨Ba, 0, none⟩)] 37)).alloc (tbox t (.slice a t.args.length c))).alloc (.map #[] 0)).alloc (.cells #[.map (some (W.heap.size + 1 + 1))] 72) = W1 := ⟨_, rfl⟩
  have e1 : ∀ (X : World) (ob : Obj) (k : Nat), k < X.heap.size → (X.alloc ob).heap[k]? = X.heap[k]? := fun X ob k hk => Below.heap_alloc X ob k hk
  have hbel : Below W.heap.size W W1 := by rw [← hW1]; exact ((((Below.refl _ _).alloc (Nat.le_refl _) _).alloc (by simp) _).alloc (by simp; omega) _).alloc (by simp; omega) _
  have hp : W1.heap[W.heap.size]? = some (.cells #[.pointer (some ⟨Ba, 0, none⟩)] 37 (0, 0)) := by
    rw [← hW1, e1 _ _ _ (by simp; omega), e1 _ _ _ (by simp; omega), e1 _ _ _ (by simp)]
    exact (MapKept.heap_alloc W _).1
  have hf : W1.heap[W.heap.size + 1 + 1 + 1]? = some (.cells #[.map (some (W.heap.size + 1 + 1))] 72 (0, 0)) := by
    rw [← hW1]
    have := (MapKept.heap_alloc (((W.alloc (.cells #[.pointer (some ⟨Ba, 0, none⟩)] 37)).alloc (tbox t (.slice a t.args.length c))).alloc (.map #[] 0)) (.cells #[.map (some (W.heap.size + 1 + 1))] 72)).1
    rwa [World.size_alloc, World.size_alloc, World.size_alloc] at this
  have hfr : MapIs W1 82 (W.heap.size + 1 + 1) (freshMap []) 0 := by
    have := MapIs.made ((W.alloc (.cells #[.pointer (some ⟨Ba, 0, none⟩)] 37)).alloc (tbox t (.slice a t.args.length c))) 82
    rw [World.size_alloc, World.size_alloc] at this
    refine this.same ?_
    rw [← hW1, e1 _ _ _ (by simp)]
  have hM : MissAt n0 Ba W.heap.size (W.heap.size + 1 + 1 + 1) (W.heap.size + 1 + 1) limit es free B1 [] W1 :=
    ⟨hb.keep (fun r hr => hbel.block r (hb.there r hr).2), hp, hf, hfr, fun h => by have := (hb.there _ h).2; omega, by omega, by omega, by omega⟩
  have hcall := numMiss_any (missM n0 Ba W.heap.size (W.heap.size + 1 + 1 + 1) (W.heap.size + 1 + 1) limit es free hes) w0 hn0 W.heap.size (W.heap.size + 1 + 1 + 1) (miss_asks _ _ _ _ _ _ _ _ _) t _ ([] : List Nd) (.slice a t.args.length c) W1 ⟨B1, rfl, hM⟩ ha (hw.trans (hbel.mono hw.size)) hsh (by show ((([] : List Nd).length : Nat) : Int) + t.size ≤ 1073741824; simpa using hsz)
  have hnum := miss_num n0 Ba W.heap.size (W.heap.size + 1 + 1 + 1) (W.heap.size + 1 + 1) limit es free hes t []
  have hcall' := hcall.mono (R' := fun e W' => ∃ v, e = .returned (.int .i64 v) ∧ W'.cell? ⟨W.heap.size + 1 + 1 + 1, 0, none⟩ = some (.map (some (W.heap.size + 1 + 1))) ∧ (Builtin.len_ #[72] 3 #[.map (some (W.heap.size + 1 + 1))]).run Try.prog W' = .ok (.int .i64 (missing es hes t)) W' ∧ Hid (∃ B', BankSt n0 Ba B' limit es free W' ∧ (∀ r ∈ B', r ∈ B1 ∨ W.heap.size ≤ r) ∧ Only B1 W W')) (by
    rintro e W' ⟨he, B', ⟨B2, rfl, h2⟩, hB, hO⟩
    refine ⟨_, he, box_cell h2.f, ?_, B2, h2.bank, fun r hr => ?_, ?_⟩
    · have := h2.fresh.len Try.underlying72 3
      rw [hnum] at this
      exact this
    · rcases hB r (by simp [hr]) with h | h
      · simp only [List.mem_cons] at h
        rcases h with rfl | rfl | rfl | h
        · exact .inr (Nat.le_refl _)
        · exact .inr (by omega)
        · exact .inr (by omega)
        · exact .inl h
      · exact .inr (Nat.le_trans hbel.size h)
    · refine (Only.of_below (B := B1) hbel).trans hO (fun r hr => ?_)
      simp only [List.mem_cons] at hr
      rcases hr with rfl | rfl | rfl | h
      · exact .inr (Nat.le_refl _)
      · exact .inr (by omega)
      · exact .inr (by omega)
      · exact .inl h)
  clear hcall hM hfr hf hp hbel hb hnum
  rw [← hW1] at hcall'
  clear hW1 e1
  have hmm := @run_makeMap Try.prog
  go_enter Try.func48, Try.ntmps48
  go_wp2_with (go_at_call 49; refine hcall'.mono ?_; rintro e W' ⟨v, rfl, hc5, hlen, HD⟩)
  go_ret
  exact ⟨rfl, HD⟩

end Go.Proofs.Ytbbfpllffcfmhaa
