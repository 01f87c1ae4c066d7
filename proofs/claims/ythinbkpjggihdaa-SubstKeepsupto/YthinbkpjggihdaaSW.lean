/-
  The document's Put.
-/
import Derived.Test.YthinbkpjggihdaaSV
import Derived.Maps.AppendAt
import Derived.Deep.RegionLaw
namespace Go.Proofs.Ythinbkpjggihdaa
open Go.RowKit Go.Maps

/-- 'append' as one step of a region that draws its order. -/
theorem step_append_own (w : World) {ops : Array Oper} {o : Oper} {a : Act} {K : Act → World → Prop} {Q : Exit → Act → World → Prop} {X : Prop} (hgd : o.guard = none) (s x : Operand) (t : TypeId)
    (ho : o.op = .call { callee := .builtin .append, args := #[s, x], argTypes := #[t, t] })
    (base : Nat) (e : TypeId) (i : TypeInfo) (z : Value) (size bytes : Nat) (ht : Try.prog.underlying t = some (.slice e)) (hi : Try.prog.info? e = some i) (hz : i.zero = some z)
    (hsize : i.size = size) (hby : i.bytes = bytes) (hzs : z.cells.size = size) (hsz : 0 < size)
    (v : Value) (n : Nat) (xs : List Value) (hs : a.eval s = v) (hown : w.ownsRow base e size v n xs)
    (ad : Addr) (m c : Nat) (news : List Value) (hx : a.eval x = .slice (some ad) m c) (hl : news.length = m * size) (hnews : ∀ j u, news[j]? = some u → w.cell? (ad.add j) = some u) (h1 : ∀ u ∈ news, u.oneCell' = true)
    (h63 : n + m ≤ maxLen) (hbytes : (n + m) * bytes ≤ 140737488355328) (hbase : base ≤ w.heap.size)
    (h : ∀ v' w', w'.ownsRow base e size v' (n + m) (xs ++ news) → w.grownBy w' v.ownBlock → (v'.ownBlock = v.ownBlock ∨ v'.ownBlock = some w.heap.size) → K (a.put o.dst v') w') :
    if Region.wanted o (yielded ops a.tmps) = true then Oper.wp Try.prog o a w K Q else X := by
  rw [if_pos (by simp [Region.wanted, hgd])]
  obtain ⟨v', w', hr, h2, h3, _, h5⟩ := run_append_own_at (P := Try.prog) w base t o.type e i z size bytes ht hi hz hsize hby hzs hsz v n xs hown ad m c news hl hnews h1 h63 hbytes hbase
  unfold Oper.wp execOp
  simp only [ho, resolve, invoke, builtin, Sem.run_bind, Sem.run_pure, Result.andThen_ok, List.map_toArray, List.map_cons, List.map_nil, hs, hx, hr]
  exact h v' w' h2 h3 h5

theorem row_slice {W : World} {base size n : Nat} {e : TypeId} {v : Value} {xs : List Value} (h : W.ownsRow base e size v n xs) : ∃ a c, v = .slice a n c := by
  obtain ⟨_, r⟩ := h
  rcases r with ⟨h1, h2⟩ | ⟨g, cap, cur, h1, _⟩
  · exact ⟨none, 0, by rw [h1]; simp_all⟩
  · exact ⟨_, _, h1⟩

/-- The cells of a row of terms. -/
def flatT (ps : List (T × Value)) : List Value := ps.flatMap fun p => [.int .i64 p.1.v, .string p.1.fn, p.2]
theorem flatT_snoc (ps : List (T × Value)) (p : T × Value) : flatT (ps ++ [p]) = flatT ps ++ [.int .i64 p.1.v, .string p.1.fn, p.2] := by simp [flatT]
theorem flatT_get : ∀ (ps : List (T × Value)) (i : Nat) (h : i < ps.length), (flatT ps)[i * 3]? = some (.int .i64 ps[i].1.v) ∧ (flatT ps)[i * 3 + 1]? = some (.string ps[i].1.fn) ∧ (flatT ps)[i * 3 + 2]? = some ps[i].2
  | [], i, h => absurd h (by simp)
  | p :: r, 0, _ => by simp [flatT]
  | p :: r, i + 1, h => by
    have ih := flatT_get r i (by simpa using h)
    have e : flatT (p :: r) = [.int .i64 p.1.v, .string p.1.fn, p.2] ++ flatT r := rfl
    have hs : ∀ k, (flatT (p :: r))[3 + k]? = (flatT r)[k]? := fun k => by
      rw [e, List.getElem?_append_right (by simp)]
      simp
    have e0 : (i + 1) * 3 = 3 + i * 3 := by omega
    rw [e0, show 3 + i * 3 + 1 = 3 + (i * 3 + 1) by omega, show 3 + i * 3 + 2 = 3 + (i * 3 + 2) by omega, hs, hs, hs]
    simpa using ih

theorem argsP_of_row {W : World} {base n : Nat} {P : Nat → Prop} {v : Value} {l : List T} {ps : List (T × Value)} (h : W.ownsRow base 25 3 v n (flatT ps)) (hn : l.length = n) (hps : ps.map (·.1) = l) (hP : ∀ b, base ≤ b → P b) (hsl : ∀ p ∈ ps, ArgsP P W p.2 p.1.args) : ArgsP P W v l := by
  subst hn
  have hlen : ps.length = l.length := by rw [← hps]; simp
  have hi : ∀ i (h : i < l.length), (ps[i]'(by omega)).1 = l[i] := fun i h => by subst hps; simp
  have sub : ∀ i (h : i < l.length), ArgsP P W ((fun i => (ps[i]?.map (·.2)).getD undef) i) l[i].args := by
    intro i hil
    have := hsl (ps[i]'(by omega)) (List.getElem_mem _)
    rw [hi i hil] at this
    simpa only [List.getElem?_eq_getElem (show i < ps.length by omega), Option.map_some, Option.getD_some] using this
  rcases h.2 with ⟨e, hn⟩ | ⟨g, cap, cur, e, hb, hg, hcap, hmax, hsz, htk⟩
  · have : l = [] := List.length_eq_zero_iff.1 hn
    subst this
    subst e
    exact ArgsP.nil P W
  · subst e
    refine .mk _ cap l _ hcap (by unfold maxLen at hmax; omega) (fun h0 => ⟨g, 0, hP g hb, (Array.getElem?_eq_some_iff.1 hg).1, rfl, fun i hil => ?_⟩) sub
    obtain ⟨f1, f2, f3⟩ := flatT_get ps i (by omega)
    have look : ∀ j u, j < l.length * 3 → (flatT ps)[j]? = some u → W.cell? ⟨g, 0 + j, none⟩ = some u := fun j u hj hu => by
      rw [Nat.zero_add, cell_of_row _ _ _ _ 25 (0, 0) hg]
      rw [← htk, List.getElem?_take_of_lt hj] at hu
      simpa using hu
    rw [hi i hil] at f1 f2
    refine ⟨look _ _ (by omega) f1, ?_, ?_⟩
    · exact look _ _ (by omega) f2
    · refine (look _ _ (by omega) f3).trans ?_
      simp only [List.getElem?_eq_getElem (show i < ps.length by omega), Option.map_some, Option.getD_some]

/-- What Put does at a term. -/
def PutAt (W0 : World) (v : Value) (l : List Bd) (t : T) : Prop :=
  ∀ (sl : Value) (w : World), Below W0.heap.size W0 w → ArgsAt W0 sl t.args → t.shape = true →
    Calls Try.prog 33 #[v, tval t sl] w fun e W' => ∃ sl', e = .returned (tval (t.app (img l)) sl') ∧ ArgsP (fun b => b < W0.heap.size ∨ w.heap.size ≤ b) W' sl' (t.app (img l)).args ∧ Below w.heap.size w W'

set_option maxRecDepth 100000 in
set_option maxHeartbeats 2000000 in
theorem put_var (W0 : World) (v : Value) (l : List Bd) (hl : BindsAt W0 v l) (t : T) (a : Option Addr) (m c : Nat) (w : World) (hw : Below W0.heap.size W0 w) (h0 : t.fn.size = 0) :
    Calls Try.prog 33 #[v, tval t (.slice a m c)] w fun e W' => ∃ sl', e = .returned (tval (t.app (img l)) sl') ∧ ArgsP (fun b => b < W0.heap.size ∨ w.heap.size ≤ b) W' sl' (t.app (img l)).args ∧ Below w.heap.size w W' := by
  have hap : t.app (img l) = img l t.v := by rw [T.app_eq, if_pos h0]
  rw [hap]
  have hdd : t.fn.toList.isEmpty = true := by rw [ba_isEmpty]; exact decide_eq_true h0
  have hb2 : Below w.heap.size w ((w.alloc (tbox t (.slice a m c))).alloc (.cells #[.int .i64 0, .string ⟨#[]⟩, .slice none 0 0] 25)) := below_box2 w _ _
  have hz := (MapKept.heap_alloc (w.alloc (tbox t (.slice a m c))) (.cells #[.int .i64 0, .string ⟨#[]⟩, .slice none 0 0] 25)).1
  rw [World.size_alloc] at hz
  have hc := of_any W0 l t.v v hl _ (hw.trans (hb2.mono hw.size))
  obtain ⟨a', c', rfl⟩ := hl.slice
  obtain ⟨t0, t1, t2⟩ := tbox_cells w t (.slice a m c)
  have hbb := below_box (w.alloc (tbox t (.slice a m c))) (.cells #[.int .i64 0, .string ⟨#[]⟩, .slice none 0 0] 25)
  have t0' := kc hbb (by simp) t0
  have t1' := kc hbb (by simp) t1
  obtain ⟨u, hu⟩ : ∃ u, img l t.v = u := ⟨_, rfl⟩
  rw [hu] at hc ⊢
  clear t0 t1 t2 hbb hap h0 hu hl
  go_enter Try.func33, Try.ntmps33
  go_wp2_with (first | (go_at_call 61; refine hc.mono ?_; rintro e w3 ⟨sl, rfl, hA3, hb3⟩; obtain ⟨pa, pc, rfl, _, _⟩ := hA3.slice; have hz3 := (hb3.block (w.heap.size + 1) (by simp)).trans hz; obtain ⟨⟨z0, z1, z2⟩, y0, y1, y2⟩ := box_facts hz3; have HF : Hid (ArgsAt W0 (.slice pa u.args.length pc) u.args ∧ Below w.heap.size w w3) := ⟨hA3, hb2.trans (hb3.mono (by simp; omega))⟩; clear hA3 hb3 hz3))
  refine bodyPost_ret (v := tval u (.slice pa u.args.length pc)) (by simp [results, Try.results33, go_sem, *]) rfl ⟨_, rfl, ?_, ?_⟩
  · have hfin : Below W0.heap.size W0 (set3 w3 (w.heap.size + 1) 0 (.int .i64 u.v) (.string u.fn) (.slice pa u.args.length pc)) := hw.trans ((set3_below HF.out.2 (w.heap.size + 1) 0 _ _ _ (Nat.le_succ _)).mono hw.size)
    exact HF.out.1.belowP.keep hfin.size (fun k hk _ => ⟨.inl hk, hfin.block k hk⟩)
  · exact set3_below HF.out.2 _ 0 _ _ _ (Nat.le_succ _)

end Go.Proofs.Ythinbkpjggihdaa
