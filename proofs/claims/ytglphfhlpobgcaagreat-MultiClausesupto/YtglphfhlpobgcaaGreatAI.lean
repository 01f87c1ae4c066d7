import Derived.Test.YtglphfhlpobgcaaGreatLB
import Derived.Test.YtglphfhlpobgcaaGreatYB
import Derived.Test.YtglphfhlpobgcaaGreatYL
import Derived.Test.YtglphfhlpobgcaaGreatVZ
import Derived.Test.YtglphfhlpobgcaaGreatKLA
import Derived.Test.YtglphfhlpobgcaaGreatYR
namespace Go.Proofs.YtglphfhlpobgcaaGreat
set_option maxRecDepth 100000
set_option maxHeartbeats 16000000
open Go.RowKit
theorem rlsame_any (x y : Lt) (a b c d : Value) (w : World) (hxl : ArgsAt w a x.l.args) (hxr : ArgsAt w b x.r.args) (hyl : ArgsAt w c y.l.args) (hyr : ArgsAt w d y.r.args) :
  Calls Tryz.prog 45 #[lval x a b, lval y c d] w fun e w' => e = .returned (.bool (lsame x y)) ∧ Below w.heap.size w w' := by
 have hS0 := TwoL.new hxl hxr hyl hyr
 have hLL : Serves (TwoL w x a b y c d) 54 #[tval x.l a, tval y.l c] (.bool (same x.l y.l)) := TwoL.serves fun X hX => rsame_any x.l y.l _ _ X hX.lx.al hX.ly.al
 have hRR : Serves (TwoL w x a b y c d) 54 #[tval x.r b, tval y.r d] (.bool (same x.r y.r)) := TwoL.serves fun X hX => rsame_any x.r y.r _ _ X hX.lx.ar hX.ly.ar
 have hLR : Serves (TwoL w x a b y c d) 54 #[tval x.l a, tval y.r d] (.bool (same x.l y.r)) := TwoL.serves fun X hX => rsame_any x.l y.r _ _ X hX.lx.al hX.ly.ar
 have hRL : Serves (TwoL w x a b y c d) 54 #[tval x.r b, tval y.l c] (.bool (same x.r y.l)) := TwoL.serves fun X hX => rsame_any x.r y.l _ _ X hX.lx.ar hX.ly.al
 have hC := fun X (h : TwoL w x a b y c d X) => And.intro h.lx.zero h.ly.zero
 have hbl := fun X (h : TwoL w x a b y c d X) => h.bel
 obtain ⟨_, _, rfl, _⟩ := hxl.slice
 obtain ⟨_, _, rfl, _⟩ := hxr.slice
 obtain ⟨_, _, rfl, _⟩ := hyl.slice
 obtain ⟨_, _, rfl, _⟩ := hyr.slice
 generalize hS : TwoL w x _ _ y _ _ = S at *
 clear hS hxl hxr hyl hyr
 have HE : Hid (lsame x y = ((x.neg == y.neg) && (same x.l y.l && same x.r y.r || same x.l y.r && same x.r y.l))) := rfl
 generalize same x.l y.l = p at *
 generalize same x.r y.r = q at *
 generalize same x.l y.r = r at *
 generalize same x.r y.l = s at *
 obtain ⟨⟨a0, a1, a2, a3, a4, a5, a6⟩, b0, b1, b2, b3, b4, b5, b6⟩ := hC _ hS0
 obtain ⟨n1, xl, xr⟩ := x
 obtain ⟨n2, yl, yr⟩ := y
 simp only at *
 by_cases hn : n1 = n2
 ·subst hn
  have hb : (n1 != n1) = false := by simp
  have HF : Hid (lsame ⟨n1, xl, xr⟩ ⟨n1, yl, yr⟩ = (p && q || r && s)) := by show _ = _; rw [HE.out]; simp
  clear HE
  cases p with
  | true =>
   cases q with
   | true =>
    go_enter Tryz.func45, Tryz.ntmps45
    go_wp2_with fail
    refine (hLL _ hS0).mono ?_
    rintro e W1 ⟨rfl, H1⟩
    obtain ⟨⟨a10, a11, a12, a13, a14, a15, a16⟩, b10, b11, b12, b13, b14, b15, b16⟩ := hC _ H1
    go_wp2_with fail
    refine (hRR _ H1).mono ?_
    rintro e W2 ⟨rfl, H2⟩
    go_wp2
    go_ret
    exact ⟨ret_bool (by rw [HF.out]; simp), hbl _ H2⟩
   | false =>
    cases r with
    | false =>
     go_enter Tryz.func45, Tryz.ntmps45
     go_wp2_with fail
     refine (hLL _ hS0).mono ?_
     rintro e W1 ⟨rfl, H1⟩
     obtain ⟨⟨a10, a11, a12, a13, a14, a15, a16⟩, b10, b11, b12, b13, b14, b15, b16⟩ := hC _ H1
     go_wp2_with fail
     refine (hRR _ H1).mono ?_
     rintro e W2 ⟨rfl, H2⟩
     obtain ⟨⟨a20, a21, a22, a23, a24, a25, a26⟩, b20, b21, b22, b23, b24, b25, b26⟩ := hC _ H2
     go_wp2_with fail
     refine (hLR _ H2).mono ?_
     rintro e W3 ⟨rfl, H3⟩
     go_wp2
     go_ret
     exact ⟨ret_bool (by rw [HF.out]; simp), hbl _ H3⟩
    | true =>
     go_enter Tryz.func45, Tryz.ntmps45
     go_wp2_with fail
     refine (hLL _ hS0).mono ?_
     rintro e W1 ⟨rfl, H1⟩
     obtain ⟨⟨a10, a11, a12, a13, a14, a15, a16⟩, b10, b11, b12, b13, b14, b15, b16⟩ := hC _ H1
     go_wp2_with fail
     refine (hRR _ H1).mono ?_
     rintro e W2 ⟨rfl, H2⟩
     obtain ⟨⟨a20, a21, a22, a23, a24, a25, a26⟩, b20, b21, b22, b23, b24, b25, b26⟩ := hC _ H2
     go_wp2_with fail
     refine (hLR _ H2).mono ?_
     rintro e W3 ⟨rfl, H3⟩
     obtain ⟨⟨a30, a31, a32, a33, a34, a35, a36⟩, b30, b31, b32, b33, b34, b35, b36⟩ := hC _ H3
     go_wp2_with fail
     refine (hRL _ H3).mono ?_
     rintro e W4 ⟨rfl, H4⟩
     go_wp2
     go_ret
     exact ⟨ret_bool (by rw [HF.out]; simp), hbl _ H4⟩
  | false =>
   cases r with
   | false =>
    go_enter Tryz.func45, Tryz.ntmps45
    go_wp2_with fail
    refine (hLL _ hS0).mono ?_
    rintro e W1 ⟨rfl, H1⟩
    obtain ⟨⟨a10, a11, a12, a13, a14, a15, a16⟩, b10, b11, b12, b13, b14, b15, b16⟩ := hC _ H1
    go_wp2_with fail
    refine (hLR _ H1).mono ?_
    rintro e W3 ⟨rfl, H3⟩
    go_wp2
    go_ret
    exact ⟨ret_bool (by rw [HF.out]; simp), hbl _ H3⟩
   | true =>
    go_enter Tryz.func45, Tryz.ntmps45
    go_wp2_with fail
    refine (hLL _ hS0).mono ?_
    rintro e W1 ⟨rfl, H1⟩
    obtain ⟨⟨a10, a11, a12, a13, a14, a15, a16⟩, b10, b11, b12, b13, b14, b15, b16⟩ := hC _ H1
    go_wp2_with fail
    refine (hLR _ H1).mono ?_
    rintro e W3 ⟨rfl, H3⟩
    obtain ⟨⟨a30, a31, a32, a33, a34, a35, a36⟩, b30, b31, b32, b33, b34, b35, b36⟩ := hC _ H3
    go_wp2_with fail
    refine (hRL _ H3).mono ?_
    rintro e W4 ⟨rfl, H4⟩
    go_wp2
    go_ret
    exact ⟨ret_bool (by rw [HF.out]; simp), hbl _ H4⟩
 ·have hb : (n1 != n2) = true := by rw [bne_iff_ne]; exact hn
  have HF : Hid (lsame ⟨n1, xl, xr⟩ ⟨n2, yl, yr⟩ = false) := by
   show _ = _
   rw [HE.out]
   have : (n1 == n2) = false := by simpa using hn
   rw [this]
   rfl
  clear HE hn
  cases n1 <;> cases n2 <;> first | exact absurd hb (by decide) | (
   go_enter Tryz.func45, Tryz.ntmps45
   go_wp2
   go_ret
   exact ⟨ret_bool HF.out.symm, hbl _ hS0⟩)
section
variable {A α : Type} (κ : A -> α)
def remn : List A -> List Bool -> List A
 | [], _ => []
 | a :: n, [] => a :: n
 | a :: n, b :: u => if b = true then remn n u else a :: remn n u
open Classical in
noncomputable def ffree (a : A) : List A -> List Bool -> Option Nat
 | [], _ => none
 | _ :: _, [] => none
 | b :: n, c :: u => if c = false ∧ κ a = κ b then some 0 else (ffree a n u).map (· + 1)
theorem ffree_none {a : A} : ∀ {n : List A} {u : List Bool}, u.length = n.length -> ffree κ a n u = none -> κ a ∉ (remn n u).map κ
 | [], u, _, _ => by simp [remn]
 | b :: n, [], h, _ => by simp at h
 | b :: n, c :: u, h, k => by
  unfold ffree at k
  split at k
  ·cases k
  ·rename_i hn
   have k' : ffree κ a n u = none := by simpa using k
   have ih := ffree_none (by simpa using h) k'
   cases c
   ·simp only [remn, Bool.false_eq_true, if_false, List.map_cons, List.mem_cons, not_or]
    exact ⟨fun e => hn ⟨rfl, e⟩, ih⟩
   ·simpa [remn] using ih
theorem ffree_some {a : A} : ∀ {n : List A} {u : List Bool} {k : Nat}, u.length = n.length -> ffree κ a n u = some k -> k < n.length ∧ ∀ x, cnt x ((remn n (u.set k true)).map κ) + cnt x [κ a] = cnt x ((remn n u).map κ)
 | [], u, k, _, q => by simp [ffree] at q
 | b :: n, [], k, h, _ => by simp at h
 | b :: n, c :: u, k, h, q => by
  unfold ffree at q
  split at q
  ·rename_i hn
   obtain ⟨rfl, he⟩ := hn
   cases q
   refine ⟨by simp, fun x => ?_⟩
   rw [he]
   simp only [List.set_cons_zero, remn, if_true, Bool.false_eq_true, if_false, List.map_cons, cnt]
   omega
  ·obtain ⟨j, hj, rfl⟩ := Option.map_eq_some_iff.1 q
   obtain ⟨i1, i2⟩ := ffree_some (by simpa using h) hj
   refine ⟨by simpa using i1, fun x => ?_⟩
   have := i2 x
   cases c
   ·simp only [List.set_cons_succ, remn, Bool.false_eq_true, if_false, List.map_cons, cnt] at this ⊢
    omega
   ·simpa only [List.set_cons_succ, remn, if_true] using this
noncomputable def wof (n : List A) (s : List A × List Bool) (a : A) : List A × List Bool :=
 match ffree κ a n s.2 with
 | none => (s.1 ++ [a], s.2)
 | some k => (s.1, s.2.set k true)
noncomputable def wsteps (m n : List A) : List A × List Bool := m.foldl (wof κ n) ([], List.replicate n.length false)
noncomputable def wo (m n : List A) : List A := (wsteps κ m n).1
theorem wof_len (n : List A) (s : List A × List Bool) (a : A) : (wof κ n s a).2.length = s.2.length := by
 unfold wof; split <;> simp
theorem wsteps_snoc (m n : List A) (a : A) : wsteps κ (m ++ [a]) n = wof κ n (wsteps κ m n) a := by
 simp [wsteps, List.foldl_append]
theorem wfold_len (n : List A) : ∀ (m : List A) (s : List A × List Bool), (m.foldl (wof κ n) s).2.length = s.2.length
 | [], s => rfl
 | a :: m, s => by rw [List.foldl_cons, wfold_len n m, wof_len]
theorem wsteps_len (m n : List A) : (wsteps κ m n).2.length = n.length := by
 unfold wsteps; rw [wfold_len]; simp
theorem wfold_cnt (n : List A) (x : α) : ∀ (m : List A) (s : List A × List Bool), s.2.length = n.length -> cnt x ((m.foldl (wof κ n) s).1.map κ) = cnt x (s.1.map κ) + (cnt x (m.map κ) - cnt x ((remn n s.2).map κ))
 | [], s, _ => by simp [cnt]
 | a :: m, s, h => by
  rw [List.foldl_cons, wfold_cnt n x m _ (by rw [wof_len]; exact h)]
  unfold wof
  split
  ·rename_i k
   have hz := ffree_none κ h k
   simp only [List.map_append, cnt_append, List.map_cons, List.map_nil, cnt]
   by_cases e : κ a = x
   ·rw [e] at hz
    have := cnt_none.2 hz
    rw [if_pos e]; omega
   ·rw [if_neg e]; omega
  ·rename_i k
   obtain ⟨_, q⟩ := ffree_some κ h k
   have := q x
   simp only [List.map_cons, cnt] at this ⊢
   omega
theorem remn_all : ∀ (n : List A), remn n (List.replicate n.length false) = n
 | [] => rfl
 | a :: n => by simp [List.replicate_succ, remn, remn_all n]
theorem wo_cnt (m n : List A) (x : α) : cnt x ((wo κ m n).map κ) = cnt x (m.map κ) - cnt x (n.map κ) := by
 unfold wo wsteps
 rw [wfold_cnt κ n x m _ (by simp), remn_all]
 simp [cnt]
theorem wo_mem (m n : List A) (x : α) : x ∈ (wo κ m n).map κ ↔ cnt x (n.map κ) < cnt x (m.map κ) := by
 rw [<- cnt_pos, wo_cnt]; omega
theorem wfold_sub (n : List A) : ∀ (m : List A) (s : List A × List Bool), ∀ y ∈ (m.foldl (wof κ n) s).1, y ∈ s.1 ∨ y ∈ m
 | [], s, y, h => .inl h
 | a :: m, s, y, h => by
  rcases wfold_sub n m _ y h with k | k
  ·unfold wof at k
   split at k
   ·rcases List.mem_append.1 k with k | k
    ·exact .inl k
    ·exact .inr (by simp at k; simp [k])
   ·exact .inl k
  ·exact .inr (List.mem_cons_of_mem _ k)
theorem wo_sub (m n : List A) : ∀ y ∈ wo κ m n, y ∈ m := fun y h => by
 rcases wfold_sub κ n m _ y h with k | k
 ·simp at k
 ·exact k
theorem wo_len (m n : List A) : (wo κ m n).length <= m.length := by
 suffices h : ∀ (m : List A) (s : List A × List Bool), (m.foldl (wof κ n) s).1.length <= s.1.length + m.length by
  have := h m ([], List.replicate n.length false)
  simpa [wo, wsteps] using this
 intro m
 induction m with
 | nil => intro s; simp
 | cons a m ih =>
  intro s
  rw [List.foldl_cons]
  have := ih (wof κ n s a)
  have h2 : (wof κ n s a).1.length <= s.1.length + 1 := by unfold wof; split <;> simp
  simp only [List.length_cons]; omega
theorem wo_greater (gr : α -> α -> Prop) (m n : List A) : (wo κ m n ≠ [] ∧ cov κ gr (wo κ m n) (wo κ n m)) ↔ mgr gr (m.map κ) (n.map κ) := by
 obtain ⟨h1, h2⟩ := left_tells κ gr (m := m) (n := n) (wo_mem κ m n) (wo_mem κ n m)
 constructor
 ·rintro ⟨k1, k2⟩
  exact (h2 (fun e => k1 e.1)).1 k2
 ·intro h
  have hne : ¬ (wo κ m n = [] ∧ wo κ n m = []) := fun e => h.1 (h1.1 e)
  have hc := (h2 hne).2 h
  refine ⟨fun e => ?_, hc⟩
  have : wo κ n m = [] := by
   refine List.eq_nil_iff_forall_not_mem.2 fun b hb => ?_
   obtain ⟨a, ha, _⟩ := hc b hb
   rw [e] at ha
   simp at ha
  exact hne ⟨e, this⟩
theorem wo_same (m n : List A) : (wo κ m n).length + (wo κ n m).length = 0 ↔ msame (m.map κ) (n.map κ) := by
 obtain ⟨h1, _⟩ := left_tells κ (fun _ _ => False) (m := m) (n := n) (wo_mem κ m n) (wo_mem κ n m)
 rw [<- h1]
 cases wo κ m n <;> cases wo κ n m <;> simp
open Classical in
theorem wo_cmp (gr : α -> α -> Prop) (m n : List A) :
  mcmp gr (m.map κ) (n.map κ) = if (wo κ m n).length + (wo κ n m).length = 0 then 0
   else if wo κ m n ≠ [] ∧ cov κ gr (wo κ m n) (wo κ n m) then 1
   else if wo κ n m ≠ [] ∧ cov κ gr (wo κ n m) (wo κ m n) then -1 else 2 := by
 unfold mcmp
 simp only [wo_same, wo_greater]
end
open Go.Maps
abbrev robox (o : Od) (vn vw : Value) : Obj := .cells #[.bool o.path, vn, vw] 27
theorem rterms_any (w0 : World) (o : Od) (vn vw : Value) (ho : OdAt w0 o vn vw) (p q : T × Value) (hp : OkT w0 p) (hq : OkT w0 q) (W : World) (hW : Below w0.heap.size w0 W) :
  Calls Tryz.prog 12 #[oval o vn vw, tval p.1 p.2, tval q.1 q.2] W fun e W' => e = .returned (.int .i64 (ocmp o p.1 q.1)) ∧ Below W.heap.size W W' := by
 obtain ⟨x, sx⟩ := p
 obtain ⟨y, sy⟩ := q
 simp only [OkT] at hp hq
 obtain ⟨an, nn, cn, rfl⟩ := ho.vn
 obtain ⟨aw, nw, cw, rfl⟩ := ho.vw
 obtain ⟨a, ca, rfl, _, _⟩ := hp.1.slice
 obtain ⟨b, cb, rfl, _, _⟩ := hq.1.slice
 obtain ⟨W1, h1⟩ : ∃ X, W.alloc (robox o (.slice an nn cn) (.slice aw nw cw)) = X := ⟨_, rfl⟩
 obtain ⟨W2, h2⟩ : ∃ X, W1.alloc (tbox x (.slice a x.args.length ca)) = X := ⟨_, rfl⟩
 obtain ⟨W3, h3⟩ : ∃ X, W2.alloc (tbox y (.slice b y.args.length cb)) = X := ⟨_, rfl⟩
 have b1 : Below W.heap.size W W1 := by rw [<- h1]; exact below_box _ _
 have b2 : Below W1.heap.size W1 W2 := by rw [<- h2]; exact below_box _ _
 have b3 : Below W2.heap.size W2 W3 := by rw [<- h3]; exact below_box _ _
 have s1 : W1.heap.size = W.heap.size + 1 := by rw [<- h1]; simp
 have s2 : W2.heap.size = W.heap.size + 2 := by rw [<- h2]; simp [s1]
 have b13 : Below W1.heap.size W1 W3 := b2.trans (b3.mono b2.size)
 have bb : Below W.heap.size W W3 := b1.trans (b13.mono b1.size)
 obtain ⟨o0, o1, o2⟩ := obox_cells W (.bool o.path) (.slice an nn cn) (.slice aw nw cw) 27
 rw [h1] at o0 o1 o2
 obtain ⟨x0, x1, x2⟩ := tbox_cells W1 x (.slice a x.args.length ca)
 rw [h2, s1] at x0 x1 x2
 obtain ⟨y0, y1, y2⟩ := tbox_cells W2 y (.slice b y.args.length cb)
 rw [h3, s2] at y0 y1 y2
 have o0' := kc b13 (by omega) o0
 have o1' := kc b13 (by omega) o1
 have o2' := kc b13 (by omega) o2
 have x0' := kc b3 (by omega) x0
 have x1' := kc b3 (by omega) x1
 have x2' := kc b3 (by omega) x2
 have b03 : Below w0.heap.size w0 W3 := hW.trans (bb.mono hW.size)
 have hl := rcompare_of greater_ok o.g x y _ _ _ _ W3 (ho.sg.keep b03 (Nat.le_refl _)) (ArgsAt.keep b03 (Nat.le_refl _) hp.1) (ArgsAt.keep b03 (Nat.le_refl _) hq.1) hp.2 hq.2
 have hk := krcompare_any o.g x y _ _ _ _ W3 (ho.sg.keep b03 (Nat.le_refl _)) (ArgsAt.keep b03 (Nat.le_refl _) hp.1) (ArgsAt.keep b03 (Nat.le_refl _) hq.1) hp.2 hq.2
 have HB : Hid (Below W.heap.size W W3) := bb
 obtain ⟨path, g⟩ := o
 simp only at o0' hl hk
 cases path
 ·have HV : Hid (ocmp ⟨false, g⟩ x y = ccmp g x y) := by show _ = _; simp [ocmp]
  clear hl b1 b2 b3 b13 bb b03 ho hp hq o0 o1 o2 x0 x1 x2
  go_enter Tryz.func12, Tryz.ntmps12
  try rw [h1]
  try rw [h2]
  try rw [h3]
  try rw [s1]
  try rw [s2]
  go_wp2_with fail
  try rw [h1, h2, h3]
  refine hk.mono ?_
  rintro e W4 ⟨rfl, hb4⟩
  go_wp2
  go_ret
  exact ⟨ret_i64 HV.out.symm, HB.out.trans (hb4.mono HB.out.size)⟩
 ·have HV : Hid (ocmp ⟨true, g⟩ x y = lcmp g x y) := by show _ = _; simp [ocmp]
  clear hk b1 b2 b3 b13 bb b03 ho hp hq o0 o1 o2 x0 x1 x2
  go_enter Tryz.func12, Tryz.ntmps12
  try rw [h1]
  try rw [h2]
  try rw [h3]
  try rw [s1]
  try rw [s2]
  go_wp2_with fail
  try rw [h1, h2, h3]
  refine hl.mono ?_
  rintro e W4 ⟨rfl, hb4⟩
  go_wp2
  go_ret
  exact ⟨ret_i64 HV.out.symm, HB.out.trans (hb4.mono HB.out.size)⟩
theorem rside_any (w0 : World) (x : Lt) (s r : Value) (hx : OkL w0 (x, s, r)) (W : World) (_hW : Below w0.heap.size w0 W) :
  Calls Tryz.prog 36 #[lval x s r] W fun e W' => ∃ v, e = .returned v ∧ RdT w0 W' v (spt x s r) ∧ Below W.heap.size W W' := by
 obtain ⟨W1, h1⟩ : ∃ X, W.alloc (lbox x s r) = X := ⟨_, rfl⟩
 have hb : Below W.heap.size W W1 := by rw [<- h1]; exact below_box _ _
 have hc := bxL_cells W (x, s, r)
 simp only at hc
 rw [h1] at hc
 have hrow := row_built W1 (spt x s r) (by have := spt_len x s r; omega)
 have hok := spt_ok hx
 have hb2 := below_box W1 (.cells (flT (spt x s r)).toArray 30)
 have HF : Hid (RdT w0 (W1.alloc (.cells (flT (spt x s r)).toArray 30)) (.slice (some ⟨W1.heap.size, 0, none⟩) (spt x s r).length (spt x s r).length) (spt x s r) ∧ Below W.heap.size W (W1.alloc (.cells (flT (spt x s r)).toArray 30))) := ⟨rdT_of_row hrow hok, hb.trans (hb2.mono hb.size)⟩
 simp only [OkL] at hx
 obtain ⟨xa, xc, rfl, _, _⟩ := hx.1.1.slice
 obtain ⟨xb, xd, rfl, _, _⟩ := hx.1.2.slice
 obtain ⟨k0, k1, k2, k3, k4, k5, k6⟩ := hc
 simp only [Nat.zero_add] at k0 k1 k2 k3 k4 k5 k6
 obtain ⟨n, l, r⟩ := x
 simp only at *
 clear hb hrow hok hb2 hx
 cases n
 ·have HG := HF.out
  simp only [spt, Bool.false_eq_true, if_false, flT, List.flatMap_cons, List.flatMap_nil, List.append_nil, List.cons_append, List.nil_append, List.length_cons, List.length_nil] at HG
  have HH : Hid (∃ v, Ending.returned (.slice (some ⟨W1.heap.size, 0, none⟩) 2 2) = .returned v ∧ RdT w0 (W1.alloc (.cells #[.int .i64 l.v, .string l.fn, .slice xa l.args.length xc, .int .i64 r.v, .string r.fn, .slice xb r.args.length xd] 30)) v (spt ⟨false, l, r⟩ (.slice xa l.args.length xc) (.slice xb r.args.length xd)) ∧ Below W.heap.size W (W1.alloc (.cells #[.int .i64 l.v, .string l.fn, .slice xa l.args.length xc, .int .i64 r.v, .string r.fn, .slice xb r.args.length xd] 30))) := ⟨_, rfl, by simpa [spt] using HG.1, HG.2⟩
  clear HF HG
  go_enter Tryz.func36, Tryz.ntmps36
  try rw [h1]
  go_wp2
  try rw [h1]
  go_ret
  exact HH.out
 ·have HG := HF.out
  simp only [spt, if_true, flT, List.flatMap_cons, List.flatMap_nil, List.append_nil, List.cons_append, List.nil_append, List.length_cons, List.length_nil] at HG
  have HH : Hid (∃ v, Ending.returned (.slice (some ⟨W1.heap.size, 0, none⟩) 4 4) = .returned v ∧ RdT w0 (W1.alloc (.cells #[.int .i64 l.v, .string l.fn, .slice xa l.args.length xc, .int .i64 l.v, .string l.fn, .slice xa l.args.length xc, .int .i64 r.v, .string r.fn, .slice xb r.args.length xd, .int .i64 r.v, .string r.fn, .slice xb r.args.length xd] 30)) v (spt ⟨true, l, r⟩ (.slice xa l.args.length xc) (.slice xb r.args.length xd)) ∧ Below W.heap.size W (W1.alloc (.cells #[.int .i64 l.v, .string l.fn, .slice xa l.args.length xc, .int .i64 l.v, .string l.fn, .slice xa l.args.length xc, .int .i64 r.v, .string r.fn, .slice xb r.args.length xd, .int .i64 r.v, .string r.fn, .slice xb r.args.length xd] 30))) := ⟨_, rfl, by simpa [spt] using HG.1, HG.2⟩
  clear HF HG
  go_enter Tryz.func36, Tryz.ntmps36
  try rw [h1]
  go_wp2
  try rw [h1]
  go_ret
  exact HH.out
def eachB (x : Lt) : Bool := decide (x.l.rightW = 0) && decide (x.r.rightW = 0)
theorem deach_any (w0 : World) (x : Lt) (s r : Value) (hx : OkL w0 (x, s, r)) (W : World) (hW : Below w0.heap.size w0 W) :
  Calls Tryz.prog 34 #[lval x s r] W fun e W' => e = .returned (.bool (eachB x)) ∧ Below W.heap.size W W' := by
 obtain ⟨W1, h1⟩ : ∃ X, W.alloc (lbox x s r) = X := ⟨_, rfl⟩
 have hb : Below W.heap.size W W1 := by rw [<- h1]; exact below_box _ _
 have s1 : W1.heap.size = W.heap.size + 1 := by rw [<- h1]; simp
 have hc := bxL_cells W (x, s, r)
 simp only at hc
 rw [h1] at hc
 simp only [OkL] at hx
 have b01 : Below w0.heap.size w0 W1 := hW.trans (hb.mono hW.size)
 have hl := rright_any x.l _ W1 (ArgsAt.keep b01 (Nat.le_refl _) hx.1.1)
 have hr : ∀ W2, Below W1.heap.size W1 W2 -> _ := fun W2 h => rright_any x.r _ W2 (ArgsAt.keep (b01.trans (h.mono b01.size)) (Nat.le_refl _) hx.1.2)
 have hk : ∀ W2, Below W1.heap.size W1 W2 -> CsL W2 W.heap.size 0 (x, s, r) := fun W2 h => hc.keep h (by omega)
 obtain ⟨xa, xc, rfl, _, _⟩ := hx.1.1.slice
 obtain ⟨xb, xd, rfl, _, _⟩ := hx.1.2.slice
 simp only [CsL, Nat.zero_add] at hc hk
 obtain ⟨k0, k1, k2, k3, k4, k5, k6⟩ := hc
 have HB : Hid (Below W.heap.size W W1) := hb
 by_cases e1 : x.l.rightW = 0
 ·rw [e1] at hl
  by_cases e2 : x.r.rightW = 0
  ·simp only [e2] at hr
   have HV : Hid (eachB x = true) := by show _ = _; simp [eachB, e1, e2]
   clear e1 e2 hx hb b01 hW
   go_enter Tryz.func34, Tryz.ntmps34
   try rw [h1]
   go_wp2_with fail
   try rw [h1]
   refine hl.mono ?_
   rintro e W2 ⟨rfl, b2⟩
   obtain ⟨j0, j1, j2, j3, j4, j5, j6⟩ := hk _ b2
   go_wp2_with fail
   refine (hr _ b2).mono ?_
   rintro e W3 ⟨rfl, b3⟩
   go_wp2
   go_ret
   exact ⟨by rw [HV.out]; rfl, HB.out.trans ((b2.trans (b3.mono b2.size)).mono HB.out.size)⟩
  ·have e3 : (x.r.rightW == 0) = false := by simpa using e2
   have HV : Hid (eachB x = false) := by show _ = _; simp [eachB, e2]
   clear e1 e2 hx hb b01 hW
   go_enter Tryz.func34, Tryz.ntmps34
   try rw [h1]
   go_wp2_with fail
   try rw [h1]
   refine hl.mono ?_
   rintro e W2 ⟨rfl, b2⟩
   obtain ⟨j0, j1, j2, j3, j4, j5, j6⟩ := hk _ b2
   go_wp2_with fail
   refine (hr _ b2).mono ?_
   rintro e W3 ⟨rfl, b3⟩
   go_wp2
   go_ret
   exact ⟨by rw [HV.out]; rfl, HB.out.trans ((b2.trans (b3.mono b2.size)).mono HB.out.size)⟩
 ·have e3 : (x.l.rightW == 0) = false := by simpa using e1
  have HV : Hid (eachB x = false) := by show _ = _; simp [eachB, e1]
  clear e1 hx hb b01 hW hr
  go_enter Tryz.func34, Tryz.ntmps34
  try rw [h1]
  go_wp2_with fail
  try rw [h1]
  refine hl.mono ?_
  rintro e W2 ⟨rfl, b2⟩
  go_wp2
  go_ret
  exact ⟨by rw [HV.out]; rfl, HB.out.trans (b2.mono HB.out.size)⟩
section
variable {A α : Type} (κ : A -> α)
def Fr (a : A) (n : List A) (u : List Bool) (j : Nat) : Prop := ∃ h : j < n.length, u[j]? = some false ∧ κ a = κ n[j]
theorem ffree_at {a : A} : ∀ {n : List A} {u : List Bool} {k : Nat}, Fr κ a n u k -> (∀ j, j < k -> ¬ Fr κ a n u j) -> ffree κ a n u = some k
 | [], u, k, h, _ => by obtain ⟨h, _⟩ := h; simp at h
 | b :: n, [], k, h, _ => by obtain ⟨_, h, _⟩ := h; simp at h
 | b :: n, c :: u, 0, h, _ => by
  obtain ⟨_, h1, h2⟩ := h
  have h1 : c = false := by simpa using h1
  unfold ffree
  rw [if_pos ⟨h1, by simpa using h2⟩]
 | b :: n, c :: u, k + 1, h, q => by
  have h0 : ¬ (c = false ∧ κ a = κ b) := fun e => q 0 (by omega) ⟨by simp, by simp [e.1], by simpa using e.2⟩
  unfold ffree
  rw [if_neg h0]
  have ih : ffree κ a n u = some k := by
   refine ffree_at ?_ (fun j hj hf => ?_)
   ·obtain ⟨h1, h2, h3⟩ := h
    exact ⟨by simpa using h1, by simpa using h2, by simpa using h3⟩
   ·obtain ⟨h1, h2, h3⟩ := hf
    exact q (j + 1) (by omega) ⟨by simpa using h1, by simpa using h2, by simpa using h3⟩
  rw [ih]; rfl
theorem ffree_no {a : A} : ∀ {n : List A} {u : List Bool}, (∀ j, j < n.length -> ¬ Fr κ a n u j) -> ffree κ a n u = none
 | [], u, _ => rfl
 | b :: n, [], _ => rfl
 | b :: n, c :: u, q => by
  have h0 : ¬ (c = false ∧ κ a = κ b) := fun e => q 0 (by simp) ⟨by simp, by simp [e.1], by simpa using e.2⟩
  unfold ffree
  rw [if_neg h0]
  have ih : ffree κ a n u = none := ffree_no (fun j hj hf => by
   obtain ⟨h1, h2, h3⟩ := hf
   exact q (j + 1) (by simpa using hj) ⟨by simpa using h1, by simpa using h2, by simpa using h3⟩)
  rw [ih]; rfl
def Inn (a : A) (n : List A) (u : List Bool) (k : Nat) (gone : Bool) (u' : List Bool) : Prop :=
 (gone = false ∧ u' = u ∧ ∀ j, j < k -> ¬ Fr κ a n u j) ∨ (gone = true ∧ ∃ j, ffree κ a n u = some j ∧ u' = u.set j true)
theorem Inn.start (a : A) (n : List A) (u : List Bool) : Inn κ a n u 0 false u := .inl ⟨rfl, rfl, fun j h => by omega⟩
theorem Inn.next {a : A} {n : List A} {u : List Bool} {k : Nat} {u' : List Bool} (h : Inn κ a n u k false u') (hk : ¬ Fr κ a n u' k) : Inn κ a n u (k + 1) false u' := by
 obtain ⟨_, rfl, q⟩ | ⟨h, _⟩ := h
 ·refine .inl ⟨rfl, rfl, fun j hj => ?_⟩
  by_cases e : j = k
  ·subst e; exact hk
  ·exact q j (by omega)
 ·cases h
theorem Inn.hit {a : A} {n : List A} {u : List Bool} {k : Nat} {u' : List Bool} (h : Inn κ a n u k false u') (hk : Fr κ a n u' k) : Inn κ a n u (k + 1) true (u'.set k true) := by
 obtain ⟨_, rfl, q⟩ | ⟨h, _⟩ := h
 ·exact .inr ⟨rfl, k, ffree_at κ hk q, rfl⟩
 ·cases h
theorem Inn.gone {a : A} {n o : List A} {u : List Bool} {k : Nat} {u' : List Bool} (h : Inn κ a n u k true u') : wof κ n (o, u) a = (o, u') := by
 obtain ⟨h, _⟩ | ⟨_, j, e, rfl⟩ := h
 ·cases h
 ·simp [wof, e]
theorem Inn.left {a : A} {n o : List A} {u : List Bool} {k : Nat} {u' : List Bool} (h : Inn κ a n u k false u') (hk : n.length <= k) : wof κ n (o, u) a = (o ++ [a], u') := by
 obtain ⟨_, rfl, q⟩ | ⟨h, _⟩ := h
 ·simp [wof, ffree_no κ (fun j hj => q j (by omega))]
 ·cases h
theorem Inn.len {a : A} {n : List A} {u : List Bool} {k : Nat} {g : Bool} {u' : List Bool} (h : Inn κ a n u k g u') : u'.length = u.length := by
 obtain ⟨_, rfl, _⟩ | ⟨_, j, _, rfl⟩ := h
 ·rfl
 ·simp
theorem wsteps_succ (m n : List A) (i : Nat) (h : i < m.length) : wsteps κ (m.take (i + 1)) n = wof κ n (wsteps κ (m.take i) n) m[i] := by
 rw [List.take_succ_eq_append_getElem h, wsteps_snoc]
end
def usd (u : List Bool) : Array Value := (u.map Value.bool).toArray
theorem usd_made (n : Nat) : madeCells #[.bool false] n = usd (List.replicate n false) := by
 apply Array.ext
 ·simp [madeCells, usd]
 ·intro i h1 h2
  simp [madeCells, usd, Nat.mod_one]
theorem usd_set (u : List Bool) (k : Nat) : (usd u).setIfInBounds k (.bool true) = usd (u.set k true) := by
 apply Array.ext'
 simp [usd, List.map_set]
structure Wi (W0 : World) (ty : TypeId) (sz bu : Nat) (u : List Bool) (vo : Value) (n : Nat) (xs : List Value) (W : World) : Prop where
 bel : Below W0.heap.size W0 W
 low : W0.heap.size <= bu
 us : W.heap[bu]? = some (.cells (usd u) 4 (0, 0))
 row : W.ownsRow (bu + 1) ty sz vo n xs
section
variable {W0 : World} {ty : TypeId} {sz bu : Nat} {u : List Bool} {vo : Value} {n : Nat} {xs : List Value} {W W' : World}
theorem Wi.lt (h : Wi W0 ty sz bu u vo n xs W) : bu < W.heap.size := (Array.getElem?_eq_some_iff.1 h.us).1
theorem Wi.keep (h : Wi W0 ty sz bu u vo n xs W) (hb : Below W.heap.size W W') : Wi W0 ty sz bu u vo n xs W' :=
 ⟨h.bel.trans (hb.mono h.bel.size), h.low, (hb.block bu h.lt).trans h.us, row_keep h.row (fun g hg => by
  obtain ⟨_, cur, hc⟩ := row_block h.row hg
  exact hb.block g (Array.getElem?_eq_some_iff.1 hc).1)⟩
theorem Wi.get (h : Wi W0 ty sz bu u vo n xs W) {k : Nat} (hk : k < u.length) : W.cell? ⟨bu, k, none⟩ = some (.bool u[k]) := by
 simp [World.cell?, h.us, usd, hk]
theorem Wi.free (h : Wi W0 ty sz bu u vo n xs W) (k : Nat) : W.frozen? ⟨bu, k, none⟩ = false := by
 simp [World.frozen?, h.us]
theorem Wi.set (h : Wi W0 ty sz bu u vo n xs W) (k : Nat) : Wi W0 ty sz bu (u.set k true) vo n xs (W.setCell ⟨bu, k, none⟩ (.bool true)) := by
 have on := only_setCell W bu k (.bool true)
 refine ⟨h.bel.trans (on.below h.bel.size (by simpa using h.low)), h.low, ?_, row_keep h.row (fun g hg => ?_)⟩
 ·have := Go.heap_setCell_same W bu k _ 4 (.bool true) h.us
  rw [this, usd_set]
 ·obtain ⟨hl, cur, hc⟩ := row_block h.row hg
  exact on.block g (Array.getElem?_eq_some_iff.1 hc).1 (by simp; omega)
theorem Wi.push (h : Wi W0 ty sz bu u vo n xs W) {v' : Value} {m : Nat} {ys : List Value} {w3 : World} (hown : w3.ownsRow (bu + 1) ty sz v' m ys) (hg : W.grownBy w3 vo.ownBlock) : Wi W0 ty sz bu u v' m ys w3 := by
 have hl := h.lt
 have hne : ∀ r, r <= bu -> some r ≠ vo.ownBlock := fun r hr e => by
  have := (row_block h.row e.symm).1
  omega
 refine ⟨h.bel.trans ⟨hg.os, hg.tape, hg.output, hg.size, fun j hj => hg.block j (by have := h.bel.size; omega) (hne j (by have := h.low; omega))⟩, h.low, (hg.block bu hl (hne bu (Nat.le_refl _))).trans h.us, hown⟩
end
theorem frT_no_used {p : T × Value} {qs : List (T × Value)} {u : List Bool} {k : Nat} (h : u[k]? = some true) : ¬ Fr (fun p : T × Value => p.1) p qs u k := fun ⟨_, e, _⟩ => by rw [h] at e; cases e
theorem frT_no_same {p : T × Value} {qs : List (T × Value)} {u : List Bool} {k : Nat} (hk : k < qs.length) (h : same p.1 qs[k].1 = false) : ¬ Fr (fun p : T × Value => p.1) p qs u k := fun ⟨_, _, e⟩ => same_false.1 h e
theorem frT_yes {p : T × Value} {qs : List (T × Value)} {u : List Bool} {k : Nat} (hk : k < qs.length) (h0 : u[k]? = some false) (h : same p.1 qs[k].1 = true) : Fr (fun p : T × Value => p.1) p qs u k := ⟨hk, h0, same_iff.1 h⟩
theorem without_any (w0 : World) (ps qs : List (T × Value)) (v1 v2 : Value) (W : World) (hW : Below w0.heap.size w0 W) (h1 : RdT w0 W v1 ps) (h2 : RdT w0 W v2 qs) (hl1 : ps.length <= 2000) (hl2 : qs.length <= 2000) :
  Calls Tryz.prog 35 #[v1, v2] W fun e W' => ∃ v, e = .returned v ∧ RdT w0 W' v (wo (fun p : T × Value => p.1) ps qs) ∧ Below W.heap.size W W' := by
 obtain ⟨a1, c1, rfl, hc1, hm1⟩ := h1.slice
 obtain ⟨a2, c2, rfl, hc2, hm2⟩ := h2.slice
 have hmk := fun w' => run_make_row' (P := Tryz.prog) 103 4 (.bool false) 1 Tryz.underlying103 Tryz.info4f rfl .i64 .i64 qs.length (by omega) (by omega) w'
 have H1 : Hid (RdT w0 W (.slice a1 ps.length c1) ps ∧ RdT w0 W (.slice a2 qs.length c2) qs ∧ Below w0.heap.size w0 W) := ⟨h1, h2, hW⟩
 obtain ⟨W1, hW1⟩ : ∃ Z, W.alloc (.cells (madeCells #[.bool false] qs.length) 4) = Z := ⟨_, rfl⟩
 have H0 : Hid (Wi W 30 3 W.heap.size (wsteps (fun p : T × Value => p.1) (ps.take 0) qs).2 (.slice none 0 0) 0 (flT (wsteps (fun p : T × Value => p.1) (ps.take 0) qs).1) W1) := by
  rw [<- hW1]
  refine ⟨below_box _ _, Nat.le_refl _, ?_, ?_⟩
  ·rw [(MapKept.heap_alloc W _).1, usd_made]; rfl
  ·exact World.ownsRow_nil _ _ _ _
 obtain ⟨i0, hi0, hz0, hz1, hz2⟩ := info_parts Tryz.info30q
 clear h1 h2 hW
 go_enter Tryz.func35, Tryz.ntmps35
 go_wp2
 try rw [hW1]
 go_loopw [5, 7] (fun vo vi wr => ∃ (i n : Nat) (ao : Option Addr) (co : Nat), vi = .int .i64 i ∧ vo = .slice ao n co ∧ i <= ps.length ∧ n <= i ∧ Hid (Wi W 30 3 W.heap.size (wsteps (fun p : T × Value => p.1) (ps.take i) qs).2 (.slice ao n co) n (flT (wsteps (fun p : T × Value => p.1) (ps.take i) qs).1) wr)) (fun _ vi _ => ps.length - (intOf vi).toNat)
 case atStart => exact ⟨0, 0, none, 0, rfl, rfl, Nat.zero_le _, Nat.le_refl _, H0.out⟩
 case round =>
  obtain ⟨i, n, ao, co, rfl, rfl, hi, hn, HI⟩ := hrel
  clear H0
  by_cases hlt : i < ps.length
  ·have HS : Hid (wsteps (fun p : T × Value => p.1) (ps.take (i + 1)) qs = wof (fun p : T × Value => p.1) qs (wsteps (fun p : T × Value => p.1) (ps.take i) qs) ps[i]) := wsteps_succ _ ps qs i hlt
   have HL : Hid ((wsteps (fun p : T × Value => p.1) (ps.take i) qs).2.length = qs.length) := wsteps_len _ _ _
   obtain ⟨⟨o, u⟩, ho⟩ : ∃ s, wsteps (fun p : T × Value => p.1) (ps.take i) qs = s := ⟨_, rfl⟩
   rw [ho] at HS HI HL
   simp only at HI HL
   obtain ⟨b1, o1, rfl, hlb1, hcs1, hok1⟩ := H1.out.1.nth hlt
   obtain ⟨p, hp⟩ : ∃ p, ps[i] = p := ⟨_, rfl⟩
   rw [hp] at hcs1 hok1 HS
   obtain ⟨x, sx⟩ := p
   have HC : Hid (CsT W b1 (o1 + i * 3) (x, sx) ∧ OkT w0 (x, sx) ∧ b1 < W.heap.size) := ⟨hcs1, hok1, hlb1⟩
   have hsl1 : ArgsAt w0 sx x.args := hok1.1
   obtain ⟨xa, xc, rfl, _, _⟩ := hsl1.slice
   have hiI : (i : Int) < (ps.length : Int) := by omega
   have HE : Hid (i < ps.length) := hlt
   clear ho hp hcs1 hok1 hlb1 hlt hsl1
   obtain ⟨wq, hwq⟩ : ∃ Z, Z = wr := ⟨_, rfl⟩
   subst hwq
   go_wp2
   go_loopw [8, 9] (fun vg vk wr => ∃ (k : Nat) (g : Bool), vk = .int .i64 k ∧ vg = .bool g ∧ k <= qs.length ∧ Hid (∃ u', Inn (fun p : T × Value => p.1) (x, .slice xa x.args.length xc) qs u k g u' ∧ Wi W 30 3 W.heap.size u' (.slice ao n co) n (flT o) wr)) (fun _ vk _ => qs.length - (intOf vk).toNat)
   case atStart => exact ⟨0, false, rfl, rfl, Nat.zero_le _, u, Inn.start _ _ _ _, HI.out⟩
   case round =>
    obtain ⟨k, g, rfl, rfl, hk, HN⟩ := hrel
    clear HI
    obtain ⟨u', hin, hwi⟩ := HN.out
    clear HN
    have hB := hwi.bel
    have hul : u'.length = qs.length := (hin.len).trans HL.out
    obtain ⟨k0, k1, k2⟩ := HC.out.1.keep hB HC.out.2.2
    have lb1 : b1 < wr.heap.size := by have := hB.size; have := HC.out.2.2; omega
    simp only at k0 k1 k2
    cases g
    ·by_cases hkl : k < qs.length
     ·obtain ⟨b2, o2, rfl, hlb2, hcs2, hok2⟩ := H1.out.2.1.nth hkl
      have hkI : (k : Int) < (qs.length : Int) := by omega
      have hg := hwi.get (k := k) (by omega)
      have hu? : u'[k]? = some (u'[k]'(by omega)) := List.getElem?_eq_getElem _
      obtain ⟨bb, hbb⟩ : ∃ z, u'[k]'(by omega) = z := ⟨_, rfl⟩
      rw [hbb] at hg hu?
      have g0 := cell_far (w := wr) hwi.lt hg
      cases bb
      ·obtain ⟨j0, j1, j2⟩ := hcs2.keep hB hlb2
       have lb2 : b2 < wr.heap.size := by have := hB.size; omega
       have hcl : ∀ Z, Below wr.heap.size wr Z -> Calls Tryz.prog 54 #[tval x (.slice xa x.args.length xc), tval qs[k].1 qs[k].2] Z fun e Z' => e = .returned (.bool (same x qs[k].1)) ∧ Below Z.heap.size Z Z' := fun Z hZ => by
        have b0 : Below w0.heap.size w0 Z := (H1.out.2.2.trans (hB.mono H1.out.2.2.size)).trans (hZ.mono (by have := H1.out.2.2.size; have := hB.size; omega))
        exact rsame_any x qs[k].1 _ _ Z (ArgsAt.keep b0 (Nat.le_refl _) HC.out.2.1.1) (ArgsAt.keep b0 (Nat.le_refl _) hok2.1)
       have hy := frT_yes (p := (x, .slice xa x.args.length xc)) hkl hu?
       have hno := frT_no_same (p := (x, .slice xa x.args.length xc)) (u := u') hkl
       simp only at hy hno
       obtain ⟨⟨y, sy⟩, hq⟩ : ∃ q, qs[k] = q := ⟨_, rfl⟩
       rw [hq] at j0 j1 j2 hcl hy hno hok2
       simp only at j0 j1 j2 hcl hy hno
       have hsl2 : ArgsAt w0 sy y.args := hok2.1
       obtain ⟨ya, yc, rfl, _, _⟩ := hsl2.slice
       clear hsl2
       have c0 := cell_far lb1 k0
       have c1 := cell_far lb1 k1
       have c2 := cell_far lb1 k2
       have d0 := cell_far lb2 j0
       have d1 := cell_far lb2 j1
       have d2 := cell_far lb2 j2
       have HW : Hid (Wi W 30 3 W.heap.size u' (.slice ao n co) n (flT o) wr) := hwi
       cases hs : same x y
       ·have HX : Hid (Inn (fun p : T × Value => p.1) (x, .slice xa x.args.length xc) qs u (k + 1) false u') := hin.next _ (hno hs)
        rw [hs] at hcl
        clear hs hy hno hin hwi hu? hbb hg k0 k1 k2 j0 j1 j2 hok2 hcs2 hlb2 hq hB hul lb1 lb2
        go_wp2
        refine wp_region_far (by kernel_rfl) ?_
        repeat (first | go_big_quiet_step (exact calls_far hcl _) | quiet_step (exact calls_far hcl _))
        refine wpQuiet_nil ?_
        intro _ hw'
        obtain ⟨pf, rfl⟩ := hw'
        have HZ : Hid (Wi W 30 3 W.heap.size u' (.slice ao n co) n (flT o) (far wr pf)) := HW.out.keep (below_far wr pf)
        clear HW
        go_wp2
        go_roundw
        case rel => exact ⟨k + 1, false, by go_num, rfl, by omega, u', HX.out, HZ.out⟩
        case measure => simp [intOf]; omega
       ·have HX : Hid (Inn (fun p : T × Value => p.1) (x, .slice xa x.args.length xc) qs u (k + 1) true (u'.set k true)) := hin.hit _ (hy hs)
        rw [hs] at hcl
        clear hs hy hno hin hwi hu? hbb hg k0 k1 k2 j0 j1 j2 hok2 hcs2 hlb2 hq hB hul lb1 lb2
        go_wp2
        refine wp_region_far (by kernel_rfl) ?_
        repeat (first | go_big_quiet_step (exact calls_far hcl _) | quiet_step (exact calls_far hcl _))
        refine wpQuiet_nil ?_
        intro _ hw'
        obtain ⟨pf, rfl⟩ := hw'
        have HZ : Hid (Wi W 30 3 W.heap.size u' (.slice ao n co) n (flT o) (far wr pf)) := HW.out.keep (below_far wr pf)
        have e0 := g0 pf
        have e1 := HZ.out.free k
        have HY : Hid (Wi W 30 3 W.heap.size (u'.set k true) (.slice ao n co) n (flT o) ((far wr pf).setCell ⟨W.heap.size, k, none⟩ (.bool true))) := HZ.out.set k
        clear HW HZ
        go_wp2
        go_roundw
        case rel => exact ⟨k + 1, true, by go_num, rfl, by omega, u'.set k true, HX.out, HY.out⟩
        case measure => simp [intOf]; omega
      ·have HX : Hid (Inn (fun p : T × Value => p.1) (x, .slice xa x.args.length xc) qs u (k + 1) false u') := hin.next _ (frT_no_used hu?)
       have HW : Hid (Wi W 30 3 W.heap.size u' (.slice ao n co) n (flT o) wr) := hwi
       clear hin hwi hu? hbb hg k0 k1 k2 hok2 hcs2 hlb2 hB hul lb1
       go_wp2
       refine wp_region_far (by kernel_rfl) ?_
       repeat (first | go_big_quiet_step (fail) | quiet_step (fail))
       refine wpQuiet_nil ?_
       intro _ hw'
       obtain ⟨pf, rfl⟩ := hw'
       have HZ : Hid (Wi W 30 3 W.heap.size u' (.slice ao n co) n (flT o) (far wr pf)) := HW.out.keep (below_far wr pf)
       clear HW
       go_wp2
       go_roundw
       case rel => exact ⟨k + 1, false, by go_num, rfl, by omega, u', HX.out, HZ.out⟩
       case measure => simp [intOf]; omega
     ·have HX : Hid (wsteps (fun p : T × Value => p.1) (ps.take (i + 1)) qs = (o ++ [(x, .slice xa x.args.length xc)], u')) := by
       show _ = _
       rw [HS.out]
       exact hin.left _ (by omega)
      have hones : Hid (∀ u ∈ flT [(x, .slice xa x.args.length xc)], u.oneCell' = true) := onesT (w0 := w0) (fun p hp => by
       have e : p = (x, .slice xa x.args.length xc) := by simpa using hp
       rw [e]; exact HC.out.2.1)
      have hb6 := below_box wr (.cells #[.int .i64 x.v, .string x.fn, .slice xa x.args.length xc] 30)
      have HW : Hid (Wi W 30 3 W.heap.size u' (.slice ao n co) n (flT o) (wr.alloc (.cells #[.int .i64 x.v, .string x.fn, .slice xa x.args.length xc] 30))) := hwi.keep hb6
      have hrow6 := HW.out.row
      have hlow : W.heap.size + 1 <= wr.heap.size := hwi.lt
      clear hin hwi hB hul lb1 hb6
      go_wp2_with (first
       | (at_builtin; refine wpList_append_own_at _ rfl _ _ 28 rfl (W.heap.size + 1) 30 i0 _ 3 48 Tryz.underlying28 hi0 hz0 hz1 hz2 rfl (by decide) (.slice ao n co) n (flT o) rfl hrow6 ⟨wr.heap.size, 0, none⟩ 1 1 (flT [(x, .slice xa x.args.length xc)]) rfl (by rw [flT_len]; simp) (fun j u hj => by { rw [Addr.add_mid, Nat.zero_add, cell_of_row _ _ _ _ 30 (0, 0) (MapKept.heap_alloc wr _).1]; rw [flT_one] at hj; simpa using hj }) hones.out (by unfold maxLen; omega) (by omega) (by simp; omega) ?_; intro v6 w6 hown6 hg6 hnil6 hat6; obtain ⟨a8, c8, rfl⟩ := row_slice hown6))
      have HZ : Hid (Wi W 30 3 W.heap.size u' (.slice a8 (n + 1) c8) (n + 1) (flT (o ++ [(x, .slice xa x.args.length xc)])) w6) := HW.out.push (by rw [flT_app]; exact hown6) hg6
      clear hown6 hg6 hnil6 hat6 hrow6 HW
      go_roundw
      case rel => exact ⟨i + 1, n + 1, a8, c8, by go_num, rfl, by omega, by omega, by rw [HX.out]; exact HZ.out⟩
      case measure => simp [intOf]; omega
    ·have HX : Hid (wsteps (fun p : T × Value => p.1) (ps.take (i + 1)) qs = (o, u')) := by
      show _ = _
      rw [HS.out]
      exact hin.gone _
     have HW : Hid (Wi W 30 3 W.heap.size u' (.slice ao n co) n (flT o) wr) := hwi
     clear hin hwi hB hul lb1
     by_cases hkl : k < qs.length
     ·have hkI : (k : Int) < (qs.length : Int) := by omega
      go_wp2
      go_roundw
      case rel => exact ⟨i + 1, n, ao, co, by go_num, rfl, by have := HE.out; omega, by omega, by rw [HX.out]; exact HW.out⟩
      case measure => simp [intOf]; have := HE.out; omega
     ·have hkI : ¬ (k : Int) < (qs.length : Int) := by omega
      go_wp2
      go_roundw
      case rel => exact ⟨i + 1, n, ao, co, by go_num, rfl, by have := HE.out; omega, by omega, by rw [HX.out]; exact HW.out⟩
      case measure => simp [intOf]; have := HE.out; omega
  ·have e : ps.take i = ps := List.take_of_length_le (by omega)
   have HF : Hid (Wi W 30 3 W.heap.size (wsteps (fun p : T × Value => p.1) ps qs).2 (.slice ao n co) n (flT (wo (fun p : T × Value => p.1) ps qs)) wr) := by
    have := HI.out
    rw [e] at this
    exact this
   clear HI e
   go_wp2
   go_ret
   have hr := HF.out.row
   have hnn : (wo (fun p : T × Value => p.1) ps qs).length = n := by have := hr.1; rw [flT_len] at this; omega
   rw [<- hnn] at hr
   refine ⟨_, rfl, ?_, HF.out.bel⟩
   rw [<- hnn]
   exact rdT_of_row hr (fun p hp => H1.out.1.ok p (wo_sub _ ps qs p hp))
noncomputable def upB (o : Od) (ms : List (T × Value)) (t : T) (k : Nat) : Bool := (ms.take k).any (fun a => ocmp o a.1 t == 1)
theorem upB_zero (o : Od) (ms : List (T × Value)) (t : T) : upB o ms t 0 = false := by simp [upB]
theorem upB_succ (o : Od) (ms : List (T × Value)) (t : T) {k : Nat} (h : k < ms.length) : upB o ms t (k + 1) = (upB o ms t k || (ocmp o ms[k].1 t == 1)) := by
 unfold upB
 rw [List.take_succ_eq_append_getElem h, List.any_append]
 simp
theorem upB_all (o : Od) (ms : List (T × Value)) (t : T) {k : Nat} (h : ms.length <= k) : upB o ms t k = true ↔ ∃ a ∈ ms, gT o a.1 t := by
 unfold upB gT
 rw [List.take_of_length_le h, List.any_eq_true]
 simp only [beq_iff_eq]
open Classical in
noncomputable def lgt (o : Od) (x y : Lt) : Bool := decide (mgr (gT o) (sds x) (sds y))
theorem lgt_iff {o : Od} {x y : Lt} (s r s' r' : Value) : lgt o x y = true ↔ (wo (fun p : T × Value => p.1) (spt x s r) (spt y s' r') ≠ [] ∧ cov (fun p : T × Value => p.1) (gT o) (wo (fun p : T × Value => p.1) (spt x s r) (spt y s' r')) (wo (fun p : T × Value => p.1) (spt y s' r') (spt x s r))) := by
 rw [wo_greater, spt_sds, spt_sds]
 simp [lgt]
theorem rlit_any (w0 : World) (o : Od) (vn vw : Value) (ho : OdAt w0 o vn vw) (x y : Lt) (sx rx sy ry : Value) (hp : OkL w0 (x, sx, rx)) (hq : OkL w0 (y, sy, ry)) (W : World) (hW : Below w0.heap.size w0 W) :
  Calls Tryz.prog 37 #[oval o vn vw, lval x sx rx, lval y sy ry] W fun e W' => e = .returned (.bool (lgt o x y)) ∧ Below W.heap.size W W' := by
 have HO : Hid (OdAt w0 o vn vw) := ho
 obtain ⟨an, nn, cn, rfl⟩ := ho.vn
 obtain ⟨aw, nw, cw, rfl⟩ := ho.vw
 obtain ⟨W1, h1⟩ : ∃ X, W.alloc (robox o (.slice an nn cn) (.slice aw nw cw)) = X := ⟨_, rfl⟩
 obtain ⟨W2, h2⟩ : ∃ X, W1.alloc (lbox x sx rx) = X := ⟨_, rfl⟩
 obtain ⟨W3, h3⟩ : ∃ X, W2.alloc (lbox y sy ry) = X := ⟨_, rfl⟩
 have b1 : Below W.heap.size W W1 := by rw [<- h1]; exact below_box _ _
 have b2 : Below W1.heap.size W1 W2 := by rw [<- h2]; exact below_box _ _
 have b3 : Below W2.heap.size W2 W3 := by rw [<- h3]; exact below_box _ _
 have s1 : W1.heap.size = W.heap.size + 1 := by rw [<- h1]; simp
 have s2 : W2.heap.size = W.heap.size + 2 := by rw [<- h2]; simp [s1]
 have s3 : W3.heap.size = W.heap.size + 3 := by rw [<- h3]; simp [s2]
 have b13 : Below W1.heap.size W1 W3 := b2.trans (b3.mono b2.size)
 have bb : Below W.heap.size W W3 := b1.trans (b13.mono b1.size)
 obtain ⟨Wd, hWd⟩ : ∃ X, W3.drew = X := ⟨_, rfl⟩
 have hd : Below W3.heap.size W3 Wd := by rw [<- hWd]; exact (Below.refl _ W3).drew
 obtain ⟨n0, hn0⟩ : ∃ n, Wd.heap.size = n := ⟨_, rfl⟩
 have hsd : Wd.heap.size = W3.heap.size := by rw [<- hWd]; rfl
 obtain ⟨o0, o1, o2⟩ := obox_cells W (.bool o.path) (.slice an nn cn) (.slice aw nw cw) 27
 rw [h1] at o0 o1 o2
 have cx := bxL_cells W1 (x, sx, rx)
 simp only at cx
 rw [h2, s1] at cx
 have cy := bxL_cells W2 (y, sy, ry)
 simp only at cy
 rw [h3, s2] at cy
 have cx3 := cx.keep b3 (by omega)
 have qo : Hid (∀ Z, Below n0 Wd Z -> Z.cell? ⟨W.heap.size, 0, none⟩ = some (.bool o.path) ∧ Z.cell? ⟨W.heap.size, 1, none⟩ = some (.slice an nn cn) ∧ Z.cell? ⟨W.heap.size, 2, none⟩ = some (.slice aw nw cw)) := fun Z hZ => by
  have e : Below W1.heap.size W1 Z := (b13.trans (hd.mono b13.size)).trans (hZ.mono (by omega))
  exact ⟨kc e (by omega) o0, kc e (by omega) o1, kc e (by omega) o2⟩
 have b0d : Below w0.heap.size w0 Wd := (hW.trans (bb.mono hW.size)).trans (hd.mono (by have := hW.size; omega))
 have lw : w0.heap.size <= n0 := by have := b0d.size; omega
 have HC1 : Hid (∀ Z, Below n0 Wd Z -> Calls Tryz.prog 36 #[lval x sx rx] Z fun e Z' => ∃ v, e = .returned v ∧ RdT w0 Z' v (spt x sx rx) ∧ Below Z.heap.size Z Z') := fun Z hZ => rside_any w0 x sx rx hp Z (b0d.trans (hZ.mono lw))
 have HC2 : Hid (∀ Z, Below n0 Wd Z -> Calls Tryz.prog 36 #[lval y sy ry] Z fun e Z' => ∃ v, e = .returned v ∧ RdT w0 Z' v (spt y sy ry) ∧ Below Z.heap.size Z Z') := fun Z hZ => rside_any w0 y sy ry hq Z (b0d.trans (hZ.mono lw))
 have HC3 : Hid (∀ Z v1 v2, Below n0 Wd Z -> RdT w0 Z v1 (spt x sx rx) -> RdT w0 Z v2 (spt y sy ry) -> Calls Tryz.prog 35 #[v1, v2] Z fun e Z' => ∃ v, e = .returned v ∧ RdT w0 Z' v (wo (fun p : T × Value => p.1) (spt x sx rx) (spt y sy ry)) ∧ Below Z.heap.size Z Z') := fun Z v1 v2 hZ r1 r2 => without_any w0 _ _ v1 v2 Z (b0d.trans (hZ.mono lw)) r1 r2 (by have := spt_len x sx rx; omega) (by have := spt_len y sy ry; omega)
 have HC4 : Hid (∀ Z v1 v2, Below n0 Wd Z -> RdT w0 Z v1 (spt y sy ry) -> RdT w0 Z v2 (spt x sx rx) -> Calls Tryz.prog 35 #[v1, v2] Z fun e Z' => ∃ v, e = .returned v ∧ RdT w0 Z' v (wo (fun p : T × Value => p.1) (spt y sy ry) (spt x sx rx)) ∧ Below Z.heap.size Z Z') := fun Z v1 v2 hZ r1 r2 => without_any w0 _ _ v1 v2 Z (b0d.trans (hZ.mono lw)) r1 r2 (by have := spt_len y sy ry; omega) (by have := spt_len x sx rx; omega)
 have qx : ∀ Z, Below n0 Wd Z -> CsL Z (W.heap.size + 1) 0 (x, sx, rx) := fun Z hZ => cx3.keep (n := W3.heap.size) (hd.trans (hZ.mono (by omega))) (by omega)
 have qy : ∀ Z, Below n0 Wd Z -> CsL Z (W.heap.size + 2) 0 (y, sy, ry) := fun Z hZ => cy.keep (n := W3.heap.size) (hd.trans (hZ.mono (by omega))) (by omega)
 have HW : Hid (Below W.heap.size W Wd ∧ W.heap.size <= n0 ∧ Below w0.heap.size w0 Wd ∧ w0.heap.size <= n0) := ⟨bb.trans (hd.mono bb.size), by omega, b0d, lw⟩
 have HNn0 : Hid (Wd.heap.size = n0) := hn0
 have HV := lgt_iff (o := o) (x := x) (y := y) sx rx sy ry
 simp only [OkL] at hp hq
 obtain ⟨xa, xc, rfl, _, _⟩ := hp.1.1.slice
 obtain ⟨xb, xd, rfl, _, _⟩ := hp.1.2.slice
 obtain ⟨ya, yc, rfl, _, _⟩ := hq.1.1.slice
 obtain ⟨yb, yd, rfl, _, _⟩ := hq.1.2.slice
 simp only [CsL, Nat.zero_add] at qx qy
 have lm1 : (wo (fun p : T × Value => p.1) (spt x (.slice xa x.l.args.length xc) (.slice xb x.r.args.length xd)) (spt y (.slice ya y.l.args.length yc) (.slice yb y.r.args.length yd))).length <= 4 := Nat.le_trans (wo_len _ _ _) (spt_len _ _ _)
 have lm2 : (wo (fun p : T × Value => p.1) (spt y (.slice ya y.l.args.length yc) (.slice yb y.r.args.length yd)) (spt x (.slice xa x.l.args.length xc) (.slice xb x.r.args.length xd))).length <= 4 := Nat.le_trans (wo_len _ _ _) (spt_len _ _ _)
 obtain ⟨ms, hms⟩ : ∃ ms, wo (fun p : T × Value => p.1) (spt x (.slice xa x.l.args.length xc) (.slice xb x.r.args.length xd)) (spt y (.slice ya y.l.args.length yc) (.slice yb y.r.args.length yd)) = ms := ⟨_, rfl⟩
 obtain ⟨ns, hns⟩ : ∃ ns, wo (fun p : T × Value => p.1) (spt y (.slice ya y.l.args.length yc) (.slice yb y.r.args.length yd)) (spt x (.slice xa x.l.args.length xc) (.slice xb x.r.args.length xd)) = ns := ⟨_, rfl⟩
 rw [hms] at HC3 HV lm1
 rw [hns] at HC4 HV lm2
 have HVV : Hid (lgt o x y = true ↔ ms ≠ [] ∧ cov (fun p : T × Value => p.1) (gT o) ms ns) := HV
 clear hms hns HV b1 b2 b3 b13 bb hd o0 o1 o2 cx cy cx3 b0d lw hp hq hW ho hn0 hsd s3
 try simp only
 go_enter Tryz.func37, Tryz.ntmps37
 try rw [h1]
 try rw [h2]
 try rw [h3]
 go_wp2
 try rw [h1]
 try rw [h2]
 try rw [h3]
 try rw [s1]
 try rw [s2]
 refine wp_region_held_drew (S := fun Z => Below n0 W3.drew Z) (by kernel_rfl) (Below.refl _ _) (fun hHeld => ?_)
 rw [hWd] at hHeld ⊢
 refine take_mk 0 (lval x (.slice xa x.l.args.length xc) (.slice xb x.r.args.length xd)) rfl (by kernel_rfl) (by kernel_rfl) (by kernel_rfl) (fun _ _ _ h => h) (Or.inl ⟨by rfl, fun Z hZ => by obtain ⟨y0, y1, y2, y3, y4, y5, y6⟩ := qx Z hZ; go_simp⟩) (by assumption) ?_
 try simp only [Act.put, List.setIfInBounds_toArray, List.set_cons_zero, List.set_cons_succ]
 refine take_mk 2 (lval y (.slice ya y.l.args.length yc) (.slice yb y.r.args.length yd)) rfl (by kernel_rfl) (by kernel_rfl) (by kernel_rfl) (fun _ _ _ h => h) (Or.inl ⟨by rfl, fun Z hZ => by obtain ⟨y0, y1, y2, y3, y4, y5, y6⟩ := qy Z hZ; go_simp⟩) (by assumption) ?_
 try simp only [Act.put, List.setIfInBounds_toArray, List.set_cons_zero, List.set_cons_succ]
 refine wpAnyH_ready (rs := [1]) (by kernel_rfl) (by simp) (AllReadyH.cons (o := ⟨_, _, _, _, _, _⟩) rfl (fun K hK => ?_) AllReadyH.nil)
 rw [if_pos (by rfl)]
 go_simp
 refine (HC1.out _ hHeld).mono ?_
 rintro e X1 ⟨v1, rfl, r1, b1⟩
 obtain ⟨a1, c1, rfl, _, _⟩ := r1.slice
 have hS1 : Below n0 Wd X1 := hHeld.trans (b1.mono (by have := hHeld.size; have := HNn0.out; omega))
 refine hK.out _ _ hS1 (fun hHeld1 => ?_)
 clear hK K
 try simp only [Act.put, List.setIfInBounds_toArray, List.set_cons_zero, List.set_cons_succ]
 refine wpAnyH_ready (rs := [3]) (by kernel_rfl) (by simp) (AllReadyH.cons (o := ⟨_, _, _, _, _, _⟩) rfl (fun K hK => ?_) AllReadyH.nil)
 rw [if_pos (by rfl)]
 go_simp
 refine (HC2.out _ hS1).mono ?_
 rintro e X2 ⟨v2, rfl, r2, b2⟩
 obtain ⟨a2, c2, rfl, _, _⟩ := r2.slice
 have hS2 : Below n0 Wd X2 := hS1.trans (b2.mono (by have := hS1.size; have := HNn0.out; omega))
 have hcx := HC3.out _ _ _ hS2 (r1.keep b2) r2
 refine hK.out _ _ hS2 (fun hHeld2 => ?_)
 clear hK K
 try simp only [Act.put, List.setIfInBounds_toArray, List.set_cons_zero, List.set_cons_succ]
 refine wpAnyH_ready (rs := [4]) (by kernel_rfl) (by simp) (AllReadyH.cons (o := ⟨_, _, _, _, _, _⟩) rfl (fun K hK => ?_) AllReadyH.nil)
 rw [if_pos (by rfl)]
 go_simp
 refine hcx.mono ?_
 rintro e X3 ⟨v3, rfl, r3, b3⟩
 obtain ⟨ar3, cr3, rfl, hcr3, hmr3⟩ := r3.slice
 have hS3 : Below n0 Wd X3 := hS2.trans (b3.mono (by have := hS2.size; have := HNn0.out; omega))
 refine hK.out _ _ hS3 (fun hHeld3 => ?_)
 clear hK K
 try simp only [Act.put, List.setIfInBounds_toArray, List.set_cons_zero, List.set_cons_succ]
 refine take_mk 5 (.slice ar3 ms.length cr3) rfl (by kernel_rfl) (by kernel_rfl) (by kernel_rfl) (fun _ _ _ h => h) (Or.inl ⟨by rfl, fun Z hZ => by go_simp⟩) (by assumption) ?_
 try simp only [Act.put, List.setIfInBounds_toArray, List.set_cons_zero, List.set_cons_succ]
 refine wpAnyH_done (by kernel_rfl) ?_ _
 try simp only [Act.put]
 have HSr3 : Hid (Below n0 Wd X3) := hS3
 clear hS1 hS2 hS3 hHeld hHeld1 hHeld2 hHeld3 hcx b1 b2 b3 r1 r2
 obtain ⟨Xd, hXd⟩ : ∃ Z, X3.drew = Z := ⟨_, rfl⟩
 have hbx : Below X3.heap.size X3 Xd := by rw [<- hXd]; exact (Below.refl _ X3).drew
 have HT3 : Hid (RdT w0 X3 (.slice ar3 ms.length cr3) ms) := r3
 obtain ⟨n1, hn1⟩ : ∃ n, Xd.heap.size = n := ⟨_, rfl⟩
 have HNn1 : Hid (Xd.heap.size = n1) := hn1
 have hup : ∀ Z, Below n1 Xd Z -> Below n0 Wd Z := fun Z hZ => (HSr3.out.trans (hbx.mono (by have := HSr3.out.size; have := HNn0.out; omega))).trans (hZ.mono (by have := HSr3.out.size; have := hbx.size; have := HNn0.out; omega))
 have HU : Hid (∀ Z, Below n1 Xd Z -> Below n0 Wd Z) := hup
 have HR3 : Hid (∀ Z, Below n1 Xd Z -> RdT w0 Z (.slice ar3 ms.length cr3) ms) := fun Z hZ => HT3.out.keep (hbx.trans (hZ.mono (by have := hbx.size; omega)))
 have HD1 : Hid (∀ Z, Below n1 Xd Z -> Calls Tryz.prog 36 #[lval x (.slice xa x.l.args.length xc) (.slice xb x.r.args.length xd)] Z fun e Z' => ∃ v, e = .returned v ∧ RdT w0 Z' v (spt x (.slice xa x.l.args.length xc) (.slice xb x.r.args.length xd)) ∧ Below Z.heap.size Z Z') := fun Z hZ => HC1.out Z (hup Z hZ)
 have HD2 : Hid (∀ Z, Below n1 Xd Z -> Calls Tryz.prog 36 #[lval y (.slice ya y.l.args.length yc) (.slice yb y.r.args.length yd)] Z fun e Z' => ∃ v, e = .returned v ∧ RdT w0 Z' v (spt y (.slice ya y.l.args.length yc) (.slice yb y.r.args.length yd)) ∧ Below Z.heap.size Z Z') := fun Z hZ => HC2.out Z (hup Z hZ)
 have HD4 : Hid (∀ Z v1 v2, Below n1 Xd Z -> RdT w0 Z v1 (spt y (.slice ya y.l.args.length yc) (.slice yb y.r.args.length yd)) -> RdT w0 Z v2 (spt x (.slice xa x.l.args.length xc) (.slice xb x.r.args.length xd)) -> Calls Tryz.prog 35 #[v1, v2] Z fun e Z' => ∃ v, e = .returned v ∧ RdT w0 Z' v ns ∧ Below Z.heap.size Z Z') := fun Z v1 v2 hZ => HC4.out Z v1 v2 (hup Z hZ)
 have px := fun Z hZ => qx Z (hup Z hZ)
 have py := fun Z hZ => qy Z (hup Z hZ)
 clear HC1 HC2 HC3 HC4 qx qy hup HT3 r3 hn1 hbx
 go_wp2
 refine wp_region_held_drew (S := fun Z => Below n1 X3.drew Z) (by kernel_rfl) (Below.refl _ _) (fun hHeld => ?_)
 rw [hXd] at hHeld ⊢
 refine take_mk 0 (lval y (.slice ya y.l.args.length yc) (.slice yb y.r.args.length yd)) rfl (by kernel_rfl) (by kernel_rfl) (by kernel_rfl) (fun _ _ _ h => h) (Or.inl ⟨by rfl, fun Z hZ => by obtain ⟨y0, y1, y2, y3, y4, y5, y6⟩ := py Z hZ; go_simp⟩) (by assumption) ?_
 try simp only [Act.put, List.setIfInBounds_toArray, List.set_cons_zero, List.set_cons_succ]
 refine take_mk 2 (lval x (.slice xa x.l.args.length xc) (.slice xb x.r.args.length xd)) rfl (by kernel_rfl) (by kernel_rfl) (by kernel_rfl) (fun _ _ _ h => h) (Or.inl ⟨by rfl, fun Z hZ => by obtain ⟨y0, y1, y2, y3, y4, y5, y6⟩ := px Z hZ; go_simp⟩) (by assumption) ?_
 try simp only [Act.put, List.setIfInBounds_toArray, List.set_cons_zero, List.set_cons_succ]
 refine wpAnyH_ready (rs := [1]) (by kernel_rfl) (by simp) (AllReadyH.cons (o := ⟨_, _, _, _, _, _⟩) rfl (fun K hK => ?_) AllReadyH.nil)
 rw [if_pos (by rfl)]
 go_simp
 refine (HD2.out _ hHeld).mono ?_
 rintro e X1 ⟨v1, rfl, r1, b1⟩
 obtain ⟨a1, c1, rfl, _, _⟩ := r1.slice
 have hS1 : Below n1 Xd X1 := hHeld.trans (b1.mono (by have := hHeld.size; have := HNn1.out; omega))
 refine hK.out _ _ hS1 (fun hHeld1 => ?_)
 clear hK K
 try simp only [Act.put, List.setIfInBounds_toArray, List.set_cons_zero, List.set_cons_succ]
 refine wpAnyH_ready (rs := [3]) (by kernel_rfl) (by simp) (AllReadyH.cons (o := ⟨_, _, _, _, _, _⟩) rfl (fun K hK => ?_) AllReadyH.nil)
 rw [if_pos (by rfl)]
 go_simp
 refine (HD1.out _ hS1).mono ?_
 rintro e X2 ⟨v2, rfl, r2, b2⟩
 obtain ⟨a2, c2, rfl, _, _⟩ := r2.slice
 have hS2 : Below n1 Xd X2 := hS1.trans (b2.mono (by have := hS1.size; have := HNn1.out; omega))
 have hcx := HD4.out _ _ _ hS2 (r1.keep b2) r2
 refine hK.out _ _ hS2 (fun hHeld2 => ?_)
 clear hK K
 try simp only [Act.put, List.setIfInBounds_toArray, List.set_cons_zero, List.set_cons_succ]
 refine wpAnyH_ready (rs := [4]) (by kernel_rfl) (by simp) (AllReadyH.cons (o := ⟨_, _, _, _, _, _⟩) rfl (fun K hK => ?_) AllReadyH.nil)
 rw [if_pos (by rfl)]
 go_simp
 refine hcx.mono ?_
 rintro e X6 ⟨v3, rfl, r6, b3⟩
 obtain ⟨ar6, cr6, rfl, hcr6, hmr6⟩ := r6.slice
 have hS3 : Below n1 Xd X6 := hS2.trans (b3.mono (by have := hS2.size; have := HNn1.out; omega))
 refine hK.out _ _ hS3 (fun hHeld3 => ?_)
 clear hK K
 try simp only [Act.put, List.setIfInBounds_toArray, List.set_cons_zero, List.set_cons_succ]
 refine take_mk 5 (.slice ar6 ns.length cr6) rfl (by kernel_rfl) (by kernel_rfl) (by kernel_rfl) (fun _ _ _ h => h) (Or.inl ⟨by rfl, fun Z hZ => by go_simp⟩) (by assumption) ?_
 try simp only [Act.put, List.setIfInBounds_toArray, List.set_cons_zero, List.set_cons_succ]
 refine wpAnyH_done (by kernel_rfl) ?_ _
 try simp only [Act.put]
 have HSr6 : Hid (Below n1 Xd X6) := hS3
 clear hS1 hS2 hS3 hHeld hHeld1 hHeld2 hHeld3 hcx b1 b2 b3 r1 r2
 have HR6 : Hid (RdT w0 X6 (.slice ar6 ns.length cr6) ns) := r6
 have HM6 : Hid (RdT w0 X6 (.slice ar3 ms.length cr3) ms) := HR3.out _ HSr6.out
 obtain ⟨q0, q1, q2⟩ := qo.out _ (HU.out _ HSr6.out)
 have HB6 : Hid (Below W.heap.size W X6 ∧ Below w0.heap.size w0 X6 ∧ W.heap.size < X6.heap.size) := ⟨HW.out.1.trans ((HU.out _ HSr6.out).mono HW.out.2.1), HW.out.2.2.1.trans ((HU.out _ HSr6.out).mono HW.out.2.2.2), World.block_lt_of_cell? X6 _ q0⟩
 clear HD1 HD2 HD4 px py HR3 r6 HSr6 HSr3 HU qo HW HNn1 HNn0
 by_cases hz : ms.length = 0
 ·have HF : Hid (lgt o x y = false) := by
   show _ = _
   rw [<- Bool.not_eq_true, HVV.out]
   exact fun e => e.1 (List.eq_nil_of_length_eq_zero hz)
  have hz' : ((ms.length : Int) == 0) = true := by simp [hz]
  clear hz
  go_wp2
  go_ret
  exact ⟨ret_bool HF.out.symm, HB6.out.1⟩
 have hz' : ((ms.length : Int) == 0) = false := by simp [hz]
 have HZ : Hid (ms ≠ []) := fun e => hz (by simp [e])
 clear hz
 go_wp2
 go_loopw [9] (fun vi wr => ∃ i : Nat, vi = .int .i64 i ∧ i <= ns.length ∧ Hid (Below X6.heap.size X6 wr ∧ ∀ j (hj : j < ns.length), j < i -> ∃ a ∈ ms, gT o a.1 ns[j].1)) (fun vi _ => ns.length - (intOf vi).toNat)
 case atStart => exact ⟨0, rfl, Nat.zero_le _, Below.refl _ _, fun j _ h => by omega⟩
 case round =>
  obtain ⟨i, rfl, hi, HI⟩ := hrel
  by_cases hlt : i < ns.length
  ·have hiI : (i : Int) < (ns.length : Int) := by omega
   obtain ⟨bn, on, rfl, hlbn, hcsn, hokn⟩ := HR6.out.nth hlt
   obtain ⟨⟨t, st⟩, ht⟩ : ∃ p, ns[i] = p := ⟨_, rfl⟩
   have ht1 : ns[i].1 = t := by rw [ht]
   have HK : Hid ((∃ a ∈ ms, gT o a.1 t) -> ∀ j (hj : j < ns.length), j < i + 1 -> ∃ a ∈ ms, gT o a.1 ns[j].1) := fun h j hj hji => by
    by_cases e : j = i
    ·subst e; rw [ht1]; exact h
    ·exact HI.out.2 j hj (by omega)
   have HQ : Hid (¬ (∃ a ∈ ms, gT o a.1 t) -> lgt o x y = false) := fun h => by
    rw [<- Bool.not_eq_true, HVV.out]
    refine fun e => h ?_
    have := e.2 _ (List.getElem_mem hlt)
    simp only [ht1] at this
    exact this
   rw [ht] at hcsn hokn
   have HE : Hid (i < ns.length) := hlt
   have HC : Hid (CsT X6 bn (on + i * 3) (t, st) ∧ OkT w0 (t, st) ∧ bn < X6.heap.size) := ⟨hcsn, hokn, hlbn⟩
   have hsl1 : ArgsAt w0 st t.args := hokn.1
   obtain ⟨ta, tc, rfl, _, _⟩ := hsl1.slice
   have HBi : Hid (Below X6.heap.size X6 wr) := HI.out.1
   clear hcsn hokn hlbn hsl1 ht ht1 hlt HI
   obtain ⟨wq, hwq⟩ : ∃ Z, Z = wr := ⟨_, rfl⟩
   subst hwq
   go_wp2
   go_loopw [10, 11] (fun vb vk wr => ∃ (k : Nat) (g : Bool), vk = .int .i64 k ∧ vb = .bool g ∧ k <= ms.length ∧ Hid (g = upB o ms t k ∧ Below X6.heap.size X6 wr)) (fun _ vk _ => ms.length - (intOf vk).toNat)
   case atStart => exact ⟨0, false, rfl, rfl, Nat.zero_le _, (upB_zero _ _ _).symm, HBi.out⟩
   case round =>
    obtain ⟨k, g, rfl, rfl, hk, HN⟩ := hrel
    have hB := HN.out.2
    have hwl : X6.heap.size <= wr.heap.size := hB.size
    by_cases hkl : k < ms.length
    ·have hkI : (k : Int) < (ms.length : Int) := by omega
     have HS := upB_succ o ms t hkl
     cases g
     ·obtain ⟨bm, om, rfl, hlbm, hcsm, hokm⟩ := HM6.out.nth hkl
      obtain ⟨⟨s, ss⟩, hs⟩ : ∃ p, ms[k] = p := ⟨_, rfl⟩
      rw [hs] at hcsm hokm HS
      have hsl : ArgsAt w0 ss s.args := hokm.1
      have hcl : ∀ Z, Below wr.heap.size wr Z -> Calls Tryz.prog 12 #[oval o (.slice an nn cn) (.slice aw nw cw), tval s ss, tval t (.slice ta t.args.length tc)] Z fun e Z' => e = .returned (.int .i64 (ocmp o s t)) ∧ Below Z.heap.size Z Z' := fun Z hZ => rterms_any w0 o _ _ HO.out (s, ss) (t, _) hokm HC.out.2.1 Z ((HB6.out.2.1.trans (hB.mono HB6.out.2.1.size)).trans (hZ.mono (by have := HB6.out.2.1.size; omega)))
      obtain ⟨sa, sc, rfl, _, _⟩ := hsl.slice
      obtain ⟨j0, j1, j2⟩ := hcsm.keep hB hlbm
      obtain ⟨k0, k1, k2⟩ := HC.out.1.keep hB HC.out.2.2
      simp only at j0 j1 j2 k0 k1 k2
      have lbm : bm < wr.heap.size := by omega
      have lbn : bn < wr.heap.size := by have := HC.out.2.2; omega
      have lbo : W.heap.size < wr.heap.size := by have := HB6.out.2.2; omega
      have c0 := cell_far lbm j0
      have c1 := cell_far lbm j1
      have c2 := cell_far lbm j2
      have d0 := cell_far lbn k0
      have d1 := cell_far lbn k1
      have d2 := cell_far lbn k2
      have p0 := cell_far lbo (kc hB HB6.out.2.2 q0)
      have p1 := cell_far lbo (kc hB HB6.out.2.2 q1)
      have p2 := cell_far lbo (kc hB HB6.out.2.2 q2)
      simp only at HS
      rw [<- HN.out.1, Bool.false_or] at HS
      have HBB : Hid (Below X6.heap.size X6 wr ∧ X6.heap.size <= wr.heap.size) := ⟨hB, hwl⟩
      clear hsl hs hokm hcsm hlbm j0 j1 j2 k0 k1 k2 lbm lbn lbo HN hB hwl
      obtain ⟨z, hz⟩ : ∃ z, ocmp o s t = z := ⟨_, rfl⟩
      rw [hz] at HS hcl
      clear hz
      cases hq : (z == 1)
      ·have HX : Hid (false = upB o ms t (k + 1)) := by rw [hq] at HS; exact HS.symm
       clear HS
       go_wp2
       refine wp_region_far (by kernel_rfl) ?_
       repeat (first | go_big_quiet_step (exact calls_far hcl _) | quiet_step (exact calls_far hcl _))
       refine wpQuiet_nil ?_
       intro _ hw'
       obtain ⟨pf, rfl⟩ := hw'
       go_wp2
       go_roundw
       case rel => exact ⟨k + 1, false, by go_num, rfl, by omega, HX.out, HBB.out.1.trans ((below_far wr pf).mono HBB.out.2)⟩
       case measure => simp [intOf]; omega
      ·have HX : Hid (true = upB o ms t (k + 1)) := by rw [hq] at HS; exact HS.symm
       clear HS
       go_wp2
       refine wp_region_far (by kernel_rfl) ?_
       repeat (first | go_big_quiet_step (exact calls_far hcl _) | quiet_step (exact calls_far hcl _))
       refine wpQuiet_nil ?_
       intro _ hw'
       obtain ⟨pf, rfl⟩ := hw'
       go_wp2
       go_roundw
       case rel => exact ⟨k + 1, true, by go_num, rfl, by omega, HX.out, HBB.out.1.trans ((below_far wr pf).mono HBB.out.2)⟩
       case measure => simp [intOf]; omega
     ·rw [<- HN.out.1, Bool.true_or] at HS
      have HX : Hid (true = upB o ms t (k + 1)) := HS.symm
      have HBB : Hid (Below X6.heap.size X6 wr ∧ X6.heap.size <= wr.heap.size) := ⟨hB, hwl⟩
      clear HS HN hB hwl
      go_wp2
      refine wp_region_far (by kernel_rfl) ?_
      repeat (first | go_big_quiet_step (fail) | quiet_step (fail))
      refine wpQuiet_nil ?_
      intro _ hw'
      obtain ⟨pf, rfl⟩ := hw'
      go_wp2
      go_roundw
      case rel => exact ⟨k + 1, true, by go_num, rfl, by omega, HX.out, HBB.out.1.trans ((below_far wr pf).mono HBB.out.2)⟩
      case measure => simp [intOf]; omega
    ·have ha := upB_all o ms t (k := k) (by omega)
     rw [<- HN.out.1] at ha
     have HBB : Hid (Below X6.heap.size X6 wr) := hB
     clear HN hB hwl
     cases g
     ·have HF : Hid (lgt o x y = false) := HQ.out (fun h => by have := ha.2 h; cases this)
      clear ha
      go_wp2
      go_ret
      exact ⟨ret_bool HF.out.symm, HB6.out.1.trans (HBB.out.mono HB6.out.1.size)⟩
     ·have HF : Hid (∀ j (hj : j < ns.length), j < i + 1 -> ∃ a ∈ ms, gT o a.1 ns[j].1) := HK.out (ha.1 rfl)
      clear ha
      go_wp2
      go_roundw
      case rel => exact ⟨i + 1, by go_num, by have := HE.out; omega, HBB.out, HF.out⟩
      case measure => simp [intOf]; have := HE.out; omega
  ·have HF : Hid (lgt o x y = true) := by
    show _ = _
    rw [HVV.out]
    refine ⟨HZ.out, fun b hb => ?_⟩
    obtain ⟨j, hj, rfl⟩ := List.mem_iff_getElem.1 hb
    exact HI.out.2 j hj (by omega)
   have HBB : Hid (Below X6.heap.size X6 wr) := HI.out.1
   clear HI
   go_wp2
   go_ret
   exact ⟨ret_bool HF.out.symm, HB6.out.1.trans (HBB.out.mono HB6.out.1.size)⟩
theorem each_iff {x : Lt} : eachB x = true ↔ x.l.rightW = 0 ∧ x.r.rightW = 0 := by simp [eachB]
theorem lcm_doc (o : Od) (x y : Lt) (s r s' r' : Value) : lcm o x y = if (wo (fun p : T × Value => p.1) (spt x s r) (spt y s' r')).length + (wo (fun p : T × Value => p.1) (spt y s' r') (spt x s r)).length = 0 then 0 else if lgt o x y = true then 1 else if lgt o y x = true then -1 else 2 := by
 unfold lcm
 rw [<- spt_sds x s r, <- spt_sds y s' r', wo_cmp]
 simp only [<- lgt_iff]
theorem rlits_any (w0 : World) (o : Od) (vn vw : Value) (ho : OdAt w0 o vn vw) (x y : Lt) (sx rx sy ry : Value) (hp : OkL w0 (x, sx, rx)) (hq : OkL w0 (y, sy, ry)) (W : World) (hW : Below w0.heap.size w0 W) :
  Calls Tryz.prog 14 #[oval o vn vw, lval x sx rx, lval y sy ry] W fun e W' => e = .returned (.int .i64 (litR o x y)) ∧ Below W.heap.size W W' := by
 have HO : Hid (OdAt w0 o vn vw) := ho
 obtain ⟨W1, h1⟩ : ∃ X, W.alloc (robox o vn vw) = X := ⟨_, rfl⟩
 obtain ⟨W2, h2⟩ : ∃ X, W1.alloc (lbox x sx rx) = X := ⟨_, rfl⟩
 obtain ⟨W3, h3⟩ : ∃ X, W2.alloc (lbox y sy ry) = X := ⟨_, rfl⟩
 have b1 : Below W.heap.size W W1 := by rw [<- h1]; exact below_box _ _
 have b2 : Below W1.heap.size W1 W2 := by rw [<- h2]; exact below_box _ _
 have b3 : Below W2.heap.size W2 W3 := by rw [<- h3]; exact below_box _ _
 have s1 : W1.heap.size = W.heap.size + 1 := by rw [<- h1]; simp
 have s2 : W2.heap.size = W.heap.size + 2 := by rw [<- h2]; simp [s1]
 have s3 : W3.heap.size = W.heap.size + 3 := by rw [<- h3]; simp [s2]
 have b13 : Below W1.heap.size W1 W3 := b2.trans (b3.mono b2.size)
 have bb : Below W.heap.size W W3 := b1.trans (b13.mono b1.size)
 obtain ⟨o0, o1, o2⟩ := obox_cells W (.bool o.path) vn vw 27
 rw [h1] at o0 o1 o2
 have cx := bxL_cells W1 (x, sx, rx)
 simp only at cx
 rw [h2, s1] at cx
 have cy := bxL_cells W2 (y, sy, ry)
 simp only at cy
 rw [h3, s2] at cy
 have cx3 := cx.keep b3 (by omega)
 have b03 : Below w0.heap.size w0 W3 := hW.trans (bb.mono hW.size)
 have lw : w0.heap.size <= W3.heap.size := b03.size
 have HCC : Hid (∀ Z, Below W3.heap.size W3 Z -> (Z.cell? ⟨W.heap.size, 0, none⟩ = some (.bool o.path) ∧ Z.cell? ⟨W.heap.size, 1, none⟩ = some vn ∧ Z.cell? ⟨W.heap.size, 2, none⟩ = some vw) ∧ CsL Z (W.heap.size + 1) 0 (x, sx, rx) ∧ CsL Z (W.heap.size + 2) 0 (y, sy, ry)) := fun Z hZ => by
  have e : Below W1.heap.size W1 Z := b13.trans (hZ.mono b13.size)
  exact ⟨⟨kc e (by omega) o0, kc e (by omega) o1, kc e (by omega) o2⟩, cx3.keep (n := W3.heap.size) hZ (by omega), cy.keep (n := W3.heap.size) hZ (by omega)⟩
 have HGG : Hid (∀ Z, Below W3.heap.size W3 Z -> Calls Tryz.prog 22 #[gval vn vw] Z fun e Z' => e = .returned (.bool o.g.ok) ∧ Below Z.heap.size Z Z') := fun Z hZ => rgright_any o.g vn vw Z (ho.sg.keep (b03.trans (hZ.mono lw)) (Nat.le_refl _))
 have HEx : Hid (∀ Z, Below W3.heap.size W3 Z -> Calls Tryz.prog 34 #[lval x sx rx] Z fun e Z' => e = .returned (.bool (eachB x)) ∧ Below Z.heap.size Z Z') := fun Z hZ => deach_any w0 x sx rx hp Z (b03.trans (hZ.mono lw))
 have HEy : Hid (∀ Z, Below W3.heap.size W3 Z -> Calls Tryz.prog 34 #[lval y sy ry] Z fun e Z' => e = .returned (.bool (eachB y)) ∧ Below Z.heap.size Z Z') := fun Z hZ => deach_any w0 y sy ry hq Z (b03.trans (hZ.mono lw))
 have HSx : Hid (∀ Z, Below W3.heap.size W3 Z -> Calls Tryz.prog 36 #[lval x sx rx] Z fun e Z' => ∃ v, e = .returned v ∧ RdT w0 Z' v (spt x sx rx) ∧ Below Z.heap.size Z Z') := fun Z hZ => rside_any w0 x sx rx hp Z (b03.trans (hZ.mono lw))
 have HSy : Hid (∀ Z, Below W3.heap.size W3 Z -> Calls Tryz.prog 36 #[lval y sy ry] Z fun e Z' => ∃ v, e = .returned v ∧ RdT w0 Z' v (spt y sy ry) ∧ Below Z.heap.size Z Z') := fun Z hZ => rside_any w0 y sy ry hq Z (b03.trans (hZ.mono lw))
 have HWxy : Hid (∀ Z v1 v2, Below W3.heap.size W3 Z -> RdT w0 Z v1 (spt x sx rx) -> RdT w0 Z v2 (spt y sy ry) -> Calls Tryz.prog 35 #[v1, v2] Z fun e Z' => ∃ v, e = .returned v ∧ RdT w0 Z' v (wo (fun p : T × Value => p.1) (spt x sx rx) (spt y sy ry)) ∧ Below Z.heap.size Z Z') := fun Z v1 v2 hZ r1 r2 => without_any w0 _ _ v1 v2 Z (b03.trans (hZ.mono lw)) r1 r2 (by have := spt_len x sx rx; omega) (by have := spt_len y sy ry; omega)
 have HWyx : Hid (∀ Z v1 v2, Below W3.heap.size W3 Z -> RdT w0 Z v1 (spt y sy ry) -> RdT w0 Z v2 (spt x sx rx) -> Calls Tryz.prog 35 #[v1, v2] Z fun e Z' => ∃ v, e = .returned v ∧ RdT w0 Z' v (wo (fun p : T × Value => p.1) (spt y sy ry) (spt x sx rx)) ∧ Below Z.heap.size Z Z') := fun Z v1 v2 hZ r1 r2 => without_any w0 _ _ v1 v2 Z (b03.trans (hZ.mono lw)) r1 r2 (by have := spt_len y sy ry; omega) (by have := spt_len x sx rx; omega)
 have HLxy : Hid (∀ Z, Below W3.heap.size W3 Z -> Calls Tryz.prog 37 #[oval o vn vw, lval x sx rx, lval y sy ry] Z fun e Z' => e = .returned (.bool (lgt o x y)) ∧ Below Z.heap.size Z Z') := fun Z hZ => rlit_any w0 o vn vw ho x y sx rx sy ry hp hq Z (b03.trans (hZ.mono lw))
 have HLyx : Hid (∀ Z, Below W3.heap.size W3 Z -> Calls Tryz.prog 37 #[oval o vn vw, lval y sy ry, lval x sx rx] Z fun e Z' => e = .returned (.bool (lgt o y x)) ∧ Below Z.heap.size Z Z') := fun Z hZ => rlit_any w0 o vn vw ho y x sy ry sx rx hq hp Z (b03.trans (hZ.mono lw))
 have HD := lcm_doc o x y sx rx sy ry
 have HB : Hid (Below W.heap.size W W3) := bb
 have lm1 : (wo (fun p : T × Value => p.1) (spt x sx rx) (spt y sy ry)).length <= 4 := Nat.le_trans (wo_len _ _ _) (spt_len _ _ _)
 have lm2 : (wo (fun p : T × Value => p.1) (spt y sy ry) (spt x sx rx)).length <= 4 := Nat.le_trans (wo_len _ _ _) (spt_len _ _ _)
 obtain ⟨ms, hms⟩ : ∃ ms, wo (fun p : T × Value => p.1) (spt x sx rx) (spt y sy ry) = ms := ⟨_, rfl⟩
 obtain ⟨ns, hns⟩ : ∃ ns, wo (fun p : T × Value => p.1) (spt y sy ry) (spt x sx rx) = ns := ⟨_, rfl⟩
 rw [hms] at HWxy HD lm1
 rw [hns] at HWyx HD lm2
 obtain ⟨an, nn, cn, rfl⟩ := ho.vn
 obtain ⟨aw, nw, cw, rfl⟩ := ho.vw
 simp only [OkL] at hp hq
 obtain ⟨xa, xc, rfl, _, _⟩ := hp.1.1.slice
 obtain ⟨xb, xd, rfl, _, _⟩ := hp.1.2.slice
 obtain ⟨ya, yc, rfl, _, _⟩ := hq.1.1.slice
 obtain ⟨yb, yd, rfl, _, _⟩ := hq.1.2.slice
 simp only [CsL, Nat.zero_add] at HCC
 have HR : Hid (litR o x y = if o.g.ok = true ∧ eachB x = true ∧ eachB y = true then (if ms.length + ns.length = 0 then 0 else if lgt o x y = true then 1 else if lgt o y x = true then -1 else 2) else 2) := by
  show _ = _
  unfold litR
  rw [HD]
  by_cases h : o.g.Ok ∧ (x.l.rightW = 0 ∧ x.r.rightW = 0) ∧ y.l.rightW = 0 ∧ y.r.rightW = 0
  ·have k : o.g.ok = true ∧ eachB x = true ∧ eachB y = true := ⟨ok_iff.2 h.1, each_iff.2 h.2.1, each_iff.2 h.2.2⟩
   rw [if_pos h, if_pos k]
  ·have k : ¬ (o.g.ok = true ∧ eachB x = true ∧ eachB y = true) := fun k => h ⟨ok_iff.1 k.1, each_iff.1 k.2.1, each_iff.1 k.2.2⟩
   rw [if_neg h, if_neg k]
 have hwr : IntKind.i64.wrap ((ms.length : Int) + (ns.length : Int)) = (ms.length : Int) + (ns.length : Int) := by
  rw [wrapK]
  exact wrap_small (by omega) (by omega)
 obtain ⟨⟨q0, q1, q2⟩, _, _⟩ := HCC.out W3 (Below.refl _ _)
 clear hms hns HD b1 b2 b3 b13 bb o0 o1 o2 cx cy cx3 b03 lw hp hq hW ho s3
 cases e1 : o.g.ok
 ·have HV : Hid (litR o x y = 2) := by show _ = _; rw [HR.out, e1]; simp
  rw [e1] at HGG
  clear HR e1
  go_enter Tryz.func14, Tryz.ntmps14
  try rw [h1]
  try rw [h2]
  try rw [h3]
  go_wp2_with fail
  try rw [h1]
  try rw [h2]
  try rw [h3]
  try rw [s1]
  try rw [s2]
  refine (HGG.out _ (Below.refl _ _)).mono ?_
  rintro e W4 ⟨rfl, b4⟩
  go_wp2
  go_ret
  exact ⟨ret_i64 HV.out.symm, HB.out.trans (b4.mono HB.out.size)⟩
 rw [e1] at HGG HR
 clear e1
 cases e2 : eachB x
 ·have HV : Hid (litR o x y = 2) := by show _ = _; rw [HR.out, e2]; simp
  rw [e2] at HEx
  clear HR e2
  go_enter Tryz.func14, Tryz.ntmps14
  try rw [h1]
  try rw [h2]
  try rw [h3]
  go_wp2_with fail
  try rw [h1]
  try rw [h2]
  try rw [h3]
  try rw [s1]
  try rw [s2]
  refine (HGG.out _ (Below.refl _ _)).mono ?_
  rintro e W4 ⟨rfl, b4⟩
  obtain ⟨⟨g0, g1, g2⟩, ⟨x0, x1, x2, x3, x4, x5, x6⟩, y0, y1, y2, y3, y4, y5, y6⟩ := HCC.out W4 b4
  go_wp2_with fail
  refine (HEx.out _ b4).mono ?_
  rintro e W5 ⟨rfl, b5⟩
  have b35 : Below W3.heap.size W3 W5 := b4.trans (b5.mono b4.size)
  clear g0 g1 g2 x0 x1 x2 x3 x4 x5 x6 y0 y1 y2 y3 y4 y5 y6
  go_wp2
  go_ret
  exact ⟨ret_i64 HV.out.symm, HB.out.trans (b35.mono HB.out.size)⟩
 rw [e2] at HEx HR
 clear e2
 cases e3 : eachB y
 ·have HV : Hid (litR o x y = 2) := by show _ = _; rw [HR.out, e3]; simp
  rw [e3] at HEy
  clear HR e3
  go_enter Tryz.func14, Tryz.ntmps14
  try rw [h1]
  try rw [h2]
  try rw [h3]
  go_wp2_with fail
  try rw [h1]
  try rw [h2]
  try rw [h3]
  try rw [s1]
  try rw [s2]
  refine (HGG.out _ (Below.refl _ _)).mono ?_
  rintro e W4 ⟨rfl, b4⟩
  obtain ⟨⟨g0, g1, g2⟩, ⟨x0, x1, x2, x3, x4, x5, x6⟩, y0, y1, y2, y3, y4, y5, y6⟩ := HCC.out W4 b4
  go_wp2_with fail
  refine (HEx.out _ b4).mono ?_
  rintro e W5 ⟨rfl, b5⟩
  have b35 : Below W3.heap.size W3 W5 := b4.trans (b5.mono b4.size)
  clear g0 g1 g2 x0 x1 x2 x3 x4 x5 x6 y0 y1 y2 y3 y4 y5 y6
  obtain ⟨⟨g0, g1, g2⟩, ⟨x0, x1, x2, x3, x4, x5, x6⟩, y0, y1, y2, y3, y4, y5, y6⟩ := HCC.out W5 b35
  go_wp2_with fail
  refine (HEy.out _ b35).mono ?_
  rintro e W6 ⟨rfl, b6⟩
  have b36 : Below W3.heap.size W3 W6 := b35.trans (b6.mono b35.size)
  clear g0 g1 g2 x0 x1 x2 x3 x4 x5 x6 y0 y1 y2 y3 y4 y5 y6
  go_wp2
  go_ret
  exact ⟨ret_i64 HV.out.symm, HB.out.trans (b36.mono HB.out.size)⟩
 rw [e3] at HEy HR
 clear e3
 obtain ⟨zb, hz⟩ : ∃ zb, (((ms.length : Int) + (ns.length : Int)) == 0) = zb := ⟨_, rfl⟩
 have HZ : Hid (zb = true ↔ ms.length + ns.length = 0) := by
  show _ ↔ _
  rw [<- hz, beq_iff_eq]
  omega
 go_enter Tryz.func14, Tryz.ntmps14
 try rw [h1]
 try rw [h2]
 try rw [h3]
 go_wp2_with fail
 try rw [h1]
 try rw [h2]
 try rw [h3]
 try rw [s1]
 try rw [s2]
 refine (HGG.out _ (Below.refl _ _)).mono ?_
 rintro e W4 ⟨rfl, b4⟩
 obtain ⟨⟨g0, g1, g2⟩, ⟨x0, x1, x2, x3, x4, x5, x6⟩, y0, y1, y2, y3, y4, y5, y6⟩ := HCC.out W4 b4
 go_wp2_with fail
 refine (HEx.out _ b4).mono ?_
 rintro e W5 ⟨rfl, b5⟩
 have b35 : Below W3.heap.size W3 W5 := b4.trans (b5.mono b4.size)
 clear g0 g1 g2 x0 x1 x2 x3 x4 x5 x6 y0 y1 y2 y3 y4 y5 y6
 obtain ⟨⟨g0, g1, g2⟩, ⟨x0, x1, x2, x3, x4, x5, x6⟩, y0, y1, y2, y3, y4, y5, y6⟩ := HCC.out W5 b35
 go_wp2_with fail
 refine (HEy.out _ b35).mono ?_
 rintro e W6 ⟨rfl, b6⟩
 have b36 : Below W3.heap.size W3 W6 := b35.trans (b6.mono b35.size)
 clear g0 g1 g2 x0 x1 x2 x3 x4 x5 x6 y0 y1 y2 y3 y4 y5 y6
 clear b4 b5 b6 b35
 go_wp2
 obtain ⟨Wd, hWd⟩ : ∃ Z, W6.drew = Z := ⟨_, rfl⟩
 have hbd : Below W6.heap.size W6 Wd := by rw [<- hWd]; exact (Below.refl _ W6).drew
 obtain ⟨n0, hn0⟩ : ∃ n, Wd.heap.size = n := ⟨_, rfl⟩
 have HN0 : Hid (Wd.heap.size = n0) := hn0
 have HUP : Hid (∀ Z, Below n0 Wd Z -> Below W3.heap.size W3 Z) := fun Z hZ => (b36.trans (hbd.mono b36.size)).trans (hZ.mono (by have := b36.size; have := hbd.size; omega))
 clear hn0 hbd b36
 refine wp_region_held_drew (S := fun Z => Below n0 W6.drew Z) (by kernel_rfl) (Below.refl _ _) (fun hHeld => ?_)
 rw [hWd] at hHeld ⊢
 refine take_mk 0 (lval x (.slice xa x.l.args.length xc) (.slice xb x.r.args.length xd)) rfl (by kernel_rfl) (by kernel_rfl) (by kernel_rfl) (fun _ _ _ h => h) (Or.inl ⟨by rfl, fun Z hZ => by obtain ⟨y0, y1, y2, y3, y4, y5, y6⟩ := (HCC.out Z (HUP.out Z hZ)).2.1; go_simp⟩) (by assumption) ?_
 try simp only [Act.put, List.setIfInBounds_toArray, List.set_cons_zero, List.set_cons_succ]
 refine take_mk 2 (lval y (.slice ya y.l.args.length yc) (.slice yb y.r.args.length yd)) rfl (by kernel_rfl) (by kernel_rfl) (by kernel_rfl) (fun _ _ _ h => h) (Or.inl ⟨by rfl, fun Z hZ => by obtain ⟨y0, y1, y2, y3, y4, y5, y6⟩ := (HCC.out Z (HUP.out Z hZ)).2.2; go_simp⟩) (by assumption) ?_
 try simp only [Act.put, List.setIfInBounds_toArray, List.set_cons_zero, List.set_cons_succ]
 refine take_mk 6 (lval y (.slice ya y.l.args.length yc) (.slice yb y.r.args.length yd)) rfl (by kernel_rfl) (by kernel_rfl) (by kernel_rfl) (fun _ _ _ h => h) (Or.inl ⟨by rfl, fun Z hZ => by obtain ⟨y0, y1, y2, y3, y4, y5, y6⟩ := (HCC.out Z (HUP.out Z hZ)).2.2; go_simp⟩) (by assumption) ?_
 try simp only [Act.put, List.setIfInBounds_toArray, List.set_cons_zero, List.set_cons_succ]
 refine take_mk 8 (lval x (.slice xa x.l.args.length xc) (.slice xb x.r.args.length xd)) rfl (by kernel_rfl) (by kernel_rfl) (by kernel_rfl) (fun _ _ _ h => h) (Or.inl ⟨by rfl, fun Z hZ => by obtain ⟨y0, y1, y2, y3, y4, y5, y6⟩ := (HCC.out Z (HUP.out Z hZ)).2.1; go_simp⟩) (by assumption) ?_
 try simp only [Act.put, List.setIfInBounds_toArray, List.set_cons_zero, List.set_cons_succ]
 refine wpAnyH_ready (rs := [1]) (by kernel_rfl) (by simp) (AllReadyH.cons (o := ⟨_, _, _, _, _, _⟩) rfl (fun K hK => ?_) AllReadyH.nil)
 rw [if_pos (by rfl)]
 go_simp
 refine (HSx.out _ (HUP.out _ hHeld)).mono ?_
 rintro e X1 ⟨v1, rfl, r1, bX1⟩
 obtain ⟨av1, cv1, rfl, hcv1, hmv1⟩ := r1.slice
 have hSX1 : Below n0 Wd X1 := hHeld.trans (bX1.mono (by have := hHeld.size; have := HN0.out; omega))
 refine hK.out _ _ hSX1 (fun hHX1 => ?_)
 clear hK K
 try simp only [Act.put, List.setIfInBounds_toArray, List.set_cons_zero, List.set_cons_succ]
 refine wpAnyH_ready (rs := [3]) (by kernel_rfl) (by simp) (AllReadyH.cons (o := ⟨_, _, _, _, _, _⟩) rfl (fun K hK => ?_) AllReadyH.nil)
 rw [if_pos (by rfl)]
 go_simp
 refine (HSy.out _ (HUP.out _ hSX1)).mono ?_
 rintro e X2 ⟨v2, rfl, r2, bX2⟩
 obtain ⟨av2, cv2, rfl, hcv2, hmv2⟩ := r2.slice
 have hSX2 : Below n0 Wd X2 := hSX1.trans (bX2.mono (by have := hSX1.size; have := HN0.out; omega))
 refine hK.out _ _ hSX2 (fun hHX2 => ?_)
 clear hK K
 try simp only [Act.put, List.setIfInBounds_toArray, List.set_cons_zero, List.set_cons_succ]
 refine wpAnyH_ready (rs := [4]) (by kernel_rfl) (by simp) (AllReadyH.cons (o := ⟨_, _, _, _, _, _⟩) rfl (fun K hK => ?_) AllReadyH.nil)
 rw [if_pos (by rfl)]
 go_simp
 refine (HWxy.out _ _ _ (HUP.out _ hSX2) (r1.keep bX2) r2).mono ?_
 rintro e X3 ⟨v3, rfl, r3, bX3⟩
 obtain ⟨av3, cv3, rfl, hcv3, hmv3⟩ := r3.slice
 have hSX3 : Below n0 Wd X3 := hSX2.trans (bX3.mono (by have := hSX2.size; have := HN0.out; omega))
 refine hK.out _ _ hSX3 (fun hHX3 => ?_)
 clear hK K
 try simp only [Act.put, List.setIfInBounds_toArray, List.set_cons_zero, List.set_cons_succ]
 refine take_mk 5 (.int .i64 (ms.length : Int)) rfl (by kernel_rfl) (by kernel_rfl) (by kernel_rfl) (fun _ _ _ h => h) (Or.inl ⟨by rfl, fun Z hZ => by go_simp⟩) (by assumption) ?_
 try simp only [Act.put, List.setIfInBounds_toArray, List.set_cons_zero, List.set_cons_succ]
 refine wpAnyH_ready (rs := [7]) (by kernel_rfl) (by simp) (AllReadyH.cons (o := ⟨_, _, _, _, _, _⟩) rfl (fun K hK => ?_) AllReadyH.nil)
 rw [if_pos (by rfl)]
 go_simp
 refine (HSy.out _ (HUP.out _ hSX3)).mono ?_
 rintro e X4 ⟨v4, rfl, r4, bX4⟩
 obtain ⟨av4, cv4, rfl, hcv4, hmv4⟩ := r4.slice
 have hSX4 : Below n0 Wd X4 := hSX3.trans (bX4.mono (by have := hSX3.size; have := HN0.out; omega))
 refine hK.out _ _ hSX4 (fun hHX4 => ?_)
 clear hK K
 try simp only [Act.put, List.setIfInBounds_toArray, List.set_cons_zero, List.set_cons_succ]
 refine wpAnyH_ready (rs := [9]) (by kernel_rfl) (by simp) (AllReadyH.cons (o := ⟨_, _, _, _, _, _⟩) rfl (fun K hK => ?_) AllReadyH.nil)
 rw [if_pos (by rfl)]
 go_simp
 refine (HSx.out _ (HUP.out _ hSX4)).mono ?_
 rintro e X5 ⟨v5, rfl, r5, bX5⟩
 obtain ⟨av5, cv5, rfl, hcv5, hmv5⟩ := r5.slice
 have hSX5 : Below n0 Wd X5 := hSX4.trans (bX5.mono (by have := hSX4.size; have := HN0.out; omega))
 refine hK.out _ _ hSX5 (fun hHX5 => ?_)
 clear hK K
 try simp only [Act.put, List.setIfInBounds_toArray, List.set_cons_zero, List.set_cons_succ]
 refine wpAnyH_ready (rs := [10]) (by kernel_rfl) (by simp) (AllReadyH.cons (o := ⟨_, _, _, _, _, _⟩) rfl (fun K hK => ?_) AllReadyH.nil)
 rw [if_pos (by rfl)]
 go_simp
 refine (HWyx.out _ _ _ (HUP.out _ hSX5) (r4.keep bX5) r5).mono ?_
 rintro e X6 ⟨v6, rfl, r6, bX6⟩
 obtain ⟨av6, cv6, rfl, hcv6, hmv6⟩ := r6.slice
 have hSX6 : Below n0 Wd X6 := hSX5.trans (bX6.mono (by have := hSX5.size; have := HN0.out; omega))
 refine hK.out _ _ hSX6 (fun hHX6 => ?_)
 clear hK K
 try simp only [Act.put, List.setIfInBounds_toArray, List.set_cons_zero, List.set_cons_succ]
 refine take_mk 11 (.int .i64 (ns.length : Int)) rfl (by kernel_rfl) (by kernel_rfl) (by kernel_rfl) (fun _ _ _ h => h) (Or.inl ⟨by rfl, fun Z hZ => by go_simp⟩) (by assumption) ?_
 try simp only [Act.put, List.setIfInBounds_toArray, List.set_cons_zero, List.set_cons_succ]
 refine take_mk 12 (.int .i64 ((ms.length : Int) + (ns.length : Int))) rfl (by kernel_rfl) (by kernel_rfl) (by kernel_rfl) (fun _ _ _ h => h) (Or.inl ⟨by rfl, fun Z hZ => by go_simp; try exact hwr⟩) (by assumption) ?_
 try simp only [Act.put, List.setIfInBounds_toArray, List.set_cons_zero, List.set_cons_succ]
 refine take_mk 13 (.bool zb) rfl (by kernel_rfl) (by kernel_rfl) (by kernel_rfl) (fun _ _ _ h => h) (Or.inl ⟨by rfl, fun Z hZ => by go_simp⟩) (by assumption) ?_
 try simp only [Act.put, List.setIfInBounds_toArray, List.set_cons_zero, List.set_cons_succ]
 refine take_mk 14 (.bool zb) rfl (by kernel_rfl) (by kernel_rfl) (by kernel_rfl) (fun _ _ _ h => h) (Or.inl ⟨by rfl, fun Z hZ => by go_simp⟩) (by assumption) ?_
 try simp only [Act.put, List.setIfInBounds_toArray, List.set_cons_zero, List.set_cons_succ]
 refine wpAnyH_done (by kernel_rfl) ?_ _
 try simp only [Act.put]
 have B6 : Below W3.heap.size W3 X6 := HUP.out _ hSX6
 clear hSX1 hSX2 hSX3 hSX4 hSX5 hSX6 hHeld hHX1 hHX2 hHX3 hHX4 hHX5 hHX6 bX1 bX2 bX3 bX4 bX5 bX6 r1 r2 r3 r4 r5 r6 HUP HN0
 clear hz
 cases zb
 case true =>
  have HV : Hid (litR o x y = 0) := by
   have := HZ.out.1 rfl
   show _ = _
   rw [HR.out, if_pos (by simp), if_pos this]
  clear HR HZ
  go_wp2
  go_ret
  exact ⟨ret_i64 HV.out.symm, HB.out.trans (B6.mono HB.out.size)⟩
 have HR2 : Hid (litR o x y = if lgt o x y = true then 1 else if lgt o y x = true then -1 else 2) := by
  have : ¬ (ms.length + ns.length = 0) := fun h => by have := HZ.out.2 h; cases this
  show _ = _
  rw [HR.out, if_pos (by simp), if_neg this]
 clear HR HZ
 cases e5 : lgt o x y
 case true =>
  have HV : Hid (litR o x y = 1) := by show _ = _; rw [HR2.out, e5]; simp
  rw [e5] at HLxy
  clear HR2 e5
  obtain ⟨⟨g0, g1, g2⟩, ⟨x0, x1, x2, x3, x4, x5, x6⟩, y0, y1, y2, y3, y4, y5, y6⟩ := HCC.out X6 B6
  go_wp2_with fail
  refine (HLxy.out _ B6).mono ?_
  rintro e X7 ⟨rfl, b7⟩
  have B7 : Below W3.heap.size W3 X7 := B6.trans (b7.mono B6.size)
  clear g0 g1 g2 x0 x1 x2 x3 x4 x5 x6 y0 y1 y2 y3 y4 y5 y6
  go_wp2
  go_ret
  exact ⟨ret_i64 HV.out.symm, HB.out.trans (B7.mono HB.out.size)⟩
 rw [e5] at HLxy HR2
 clear e5
 obtain ⟨⟨g0, g1, g2⟩, ⟨x0, x1, x2, x3, x4, x5, x6⟩, y0, y1, y2, y3, y4, y5, y6⟩ := HCC.out X6 B6
 go_wp2_with fail
 refine (HLxy.out _ B6).mono ?_
 rintro e X7 ⟨rfl, b7⟩
 have B7 : Below W3.heap.size W3 X7 := B6.trans (b7.mono B6.size)
 clear g0 g1 g2 x0 x1 x2 x3 x4 x5 x6 y0 y1 y2 y3 y4 y5 y6
 cases e6 : lgt o y x
 ·have HV : Hid (litR o x y = 2) := by show _ = _; rw [HR2.out, e6]; simp
  rw [e6] at HLyx
  clear HR2 e6
  obtain ⟨⟨g0, g1, g2⟩, ⟨x0, x1, x2, x3, x4, x5, x6⟩, y0, y1, y2, y3, y4, y5, y6⟩ := HCC.out X7 B7
  go_wp2_with fail
  refine (HLyx.out _ B7).mono ?_
  rintro e X8 ⟨rfl, b8⟩
  have B8 : Below W3.heap.size W3 X8 := B7.trans (b8.mono B7.size)
  clear g0 g1 g2 x0 x1 x2 x3 x4 x5 x6 y0 y1 y2 y3 y4 y5 y6
  go_wp2
  go_ret
  exact ⟨ret_i64 HV.out.symm, HB.out.trans (B8.mono HB.out.size)⟩
 ·have HV : Hid (litR o x y = -1) := by show _ = _; rw [HR2.out, e6]; simp
  rw [e6] at HLyx
  clear HR2 e6
  obtain ⟨⟨g0, g1, g2⟩, ⟨x0, x1, x2, x3, x4, x5, x6⟩, y0, y1, y2, y3, y4, y5, y6⟩ := HCC.out X7 B7
  go_wp2_with fail
  refine (HLyx.out _ B7).mono ?_
  rintro e X8 ⟨rfl, b8⟩
  have B8 : Below W3.heap.size W3 X8 := B7.trans (b8.mono B7.size)
  clear g0 g1 g2 x0 x1 x2 x3 x4 x5 x6 y0 y1 y2 y3 y4 y5 y6
  go_wp2
  go_ret
  exact ⟨ret_i64 HV.out.symm, HB.out.trans (B8.mono HB.out.size)⟩
noncomputable abbrev kL (p : Lt × Value × Value) : T -> Nat := kap p.1
theorem frL_no_used {p : Lt × Value × Value} {qs : List (Lt × Value × Value)} {u : List Bool} {k : Nat} (h : u[k]? = some true) : ¬ Fr kL p qs u k := fun ⟨_, e, _⟩ => by rw [h] at e; cases e
theorem frL_no_same {p : Lt × Value × Value} {qs : List (Lt × Value × Value)} {u : List Bool} {k : Nat} (hk : k < qs.length) (h : lsame p.1 qs[k].1 = false) : ¬ Fr kL p qs u k := fun ⟨_, _, e⟩ => by rw [lsame_kap.2 e] at h; cases h
theorem frL_yes {p : Lt × Value × Value} {qs : List (Lt × Value × Value)} {u : List Bool} {k : Nat} (hk : k < qs.length) (h0 : u[k]? = some false) (h : lsame p.1 qs[k].1 = true) : Fr kL p qs u k := ⟨hk, h0, lsame_kap.1 h⟩
theorem less_any (w0 : World) (ps qs : List (Lt × Value × Value)) (v1 v2 : Value) (W : World) (hW : Below w0.heap.size w0 W) (h1 : RdL w0 W v1 ps) (h2 : RdL w0 W v2 qs) (hl1 : ps.length <= 2000) (hl2 : qs.length <= 2000) :
  Calls Tryz.prog 42 #[v1, v2] W fun e W' => ∃ v, e = .returned v ∧ RdL w0 W' v (wo kL ps qs) ∧ Below W.heap.size W W' := by
 obtain ⟨a1, c1, rfl, hc1, hm1⟩ := h1.slice
 obtain ⟨a2, c2, rfl, hc2, hm2⟩ := h2.slice
 have hmk := fun w' => run_make_row' (P := Tryz.prog) 103 4 (.bool false) 1 Tryz.underlying103 Tryz.info4f rfl .i64 .i64 qs.length (by omega) (by omega) w'
 have H1 : Hid (RdL w0 W (.slice a1 ps.length c1) ps ∧ RdL w0 W (.slice a2 qs.length c2) qs ∧ Below w0.heap.size w0 W) := ⟨h1, h2, hW⟩
 obtain ⟨W1, hW1⟩ : ∃ Z, W.alloc (.cells (madeCells #[.bool false] qs.length) 4) = Z := ⟨_, rfl⟩
 have H0 : Hid (Wi W 32 7 W.heap.size (wsteps kL (ps.take 0) qs).2 (.slice none 0 0) 0 (flL (wsteps kL (ps.take 0) qs).1) W1) := by
  rw [<- hW1]
  refine ⟨below_box _ _, Nat.le_refl _, ?_, ?_⟩
  ·rw [(MapKept.heap_alloc W _).1, usd_made]; rfl
  ·exact World.ownsRow_nil _ _ _ _
 obtain ⟨i0, hi0, hz0, hz1, hz2⟩ := info_parts Tryz.info32q
 clear h1 h2 hW
 go_enter Tryz.func42, Tryz.ntmps42
 go_wp2
 try rw [hW1]
 go_loopw [5, 7] (fun vo vi wr => ∃ (i n : Nat) (ao : Option Addr) (co : Nat), vi = .int .i64 i ∧ vo = .slice ao n co ∧ i <= ps.length ∧ n <= i ∧ Hid (Wi W 32 7 W.heap.size (wsteps kL (ps.take i) qs).2 (.slice ao n co) n (flL (wsteps kL (ps.take i) qs).1) wr)) (fun _ vi _ => ps.length - (intOf vi).toNat)
 case atStart => exact ⟨0, 0, none, 0, rfl, rfl, Nat.zero_le _, Nat.le_refl _, H0.out⟩
 case round =>
  obtain ⟨i, n, ao, co, rfl, rfl, hi, hn, HI⟩ := hrel
  clear H0
  by_cases hlt : i < ps.length
  ·have HS : Hid (wsteps kL (ps.take (i + 1)) qs = wof kL qs (wsteps kL (ps.take i) qs) ps[i]) := wsteps_succ _ ps qs i hlt
   have HL : Hid ((wsteps kL (ps.take i) qs).2.length = qs.length) := wsteps_len _ _ _
   obtain ⟨⟨o, u⟩, ho⟩ : ∃ s, wsteps kL (ps.take i) qs = s := ⟨_, rfl⟩
   rw [ho] at HS HI HL
   simp only at HI HL
   obtain ⟨b1, o1, rfl, hlb1, hcs1, hok1⟩ := H1.out.1.nth hlt
   obtain ⟨p, hp⟩ : ∃ p, ps[i] = p := ⟨_, rfl⟩
   rw [hp] at hcs1 hok1 HS
   obtain ⟨x, sx, rx⟩ := p
   have HC : Hid (CsL W b1 (o1 + i * 7) (x, sx, rx) ∧ OkL w0 (x, sx, rx) ∧ b1 < W.heap.size) := ⟨hcs1, hok1, hlb1⟩
   have hsl1 : ArgsAt w0 sx x.l.args := hok1.1.1
   obtain ⟨xa, xc, rfl, _, _⟩ := hsl1.slice
   have hsl2 : ArgsAt w0 rx x.r.args := hok1.1.2
   obtain ⟨xb, xd, rfl, _, _⟩ := hsl2.slice
   have hiI : (i : Int) < (ps.length : Int) := by omega
   have HE : Hid (i < ps.length) := hlt
   clear ho hp hcs1 hok1 hlb1 hlt hsl1 hsl2
   obtain ⟨wq, hwq⟩ : ∃ Z, Z = wr := ⟨_, rfl⟩
   subst hwq
   go_wp2
   go_loopw [8, 9] (fun vg vk wr => ∃ (k : Nat) (g : Bool), vk = .int .i64 k ∧ vg = .bool g ∧ k <= qs.length ∧ Hid (∃ u', Inn kL (x, .slice xa x.l.args.length xc, .slice xb x.r.args.length xd) qs u k g u' ∧ Wi W 32 7 W.heap.size u' (.slice ao n co) n (flL o) wr)) (fun _ vk _ => qs.length - (intOf vk).toNat)
   case atStart => exact ⟨0, false, rfl, rfl, Nat.zero_le _, u, Inn.start _ _ _ _, HI.out⟩
   case round =>
    obtain ⟨k, g, rfl, rfl, hk, HN⟩ := hrel
    clear HI
    obtain ⟨u', hin, hwi⟩ := HN.out
    clear HN
    have hB := hwi.bel
    have hul : u'.length = qs.length := (hin.len).trans HL.out
    obtain ⟨k0, k1, k2, k3, k4, k5, k6⟩ := HC.out.1.keep hB HC.out.2.2
    have lb1 : b1 < wr.heap.size := by have := hB.size; have := HC.out.2.2; omega
    simp only at k0 k1 k2 k3 k4 k5 k6
    cases g
    ·by_cases hkl : k < qs.length
     ·obtain ⟨b2, o2, rfl, hlb2, hcs2, hok2⟩ := H1.out.2.1.nth hkl
      have hkI : (k : Int) < (qs.length : Int) := by omega
      have hg := hwi.get (k := k) (by omega)
      have hu? : u'[k]? = some (u'[k]'(by omega)) := List.getElem?_eq_getElem _
      obtain ⟨bb, hbb⟩ : ∃ z, u'[k]'(by omega) = z := ⟨_, rfl⟩
      rw [hbb] at hg hu?
      have g0 := cell_far (w := wr) hwi.lt hg
      cases bb
      ·obtain ⟨j0, j1, j2, j3, j4, j5, j6⟩ := hcs2.keep hB hlb2
       have lb2 : b2 < wr.heap.size := by have := hB.size; omega
       have hcl : ∀ Z, Below wr.heap.size wr Z -> Calls Tryz.prog 45 #[lval x (.slice xa x.l.args.length xc) (.slice xb x.r.args.length xd), lval qs[k].1 qs[k].2.1 qs[k].2.2] Z fun e Z' => e = .returned (.bool (lsame x qs[k].1)) ∧ Below Z.heap.size Z Z' := fun Z hZ => by
        have b0 : Below w0.heap.size w0 Z := (H1.out.2.2.trans (hB.mono H1.out.2.2.size)).trans (hZ.mono (by have := H1.out.2.2.size; have := hB.size; omega))
        exact rlsame_any x qs[k].1 _ _ _ _ Z (ArgsAt.keep b0 (Nat.le_refl _) HC.out.2.1.1.1) (ArgsAt.keep b0 (Nat.le_refl _) HC.out.2.1.1.2) (ArgsAt.keep b0 (Nat.le_refl _) hok2.1.1) (ArgsAt.keep b0 (Nat.le_refl _) hok2.1.2)
       have hy := frL_yes (p := (x, .slice xa x.l.args.length xc, .slice xb x.r.args.length xd)) hkl hu?
       have hno := frL_no_same (p := (x, .slice xa x.l.args.length xc, .slice xb x.r.args.length xd)) (u := u') hkl
       simp only at hy hno
       obtain ⟨⟨y, sy, ry⟩, hq⟩ : ∃ q, qs[k] = q := ⟨_, rfl⟩
       rw [hq] at j0 j1 j2 j3 j4 j5 j6 hcl hy hno hok2
       simp only at j0 j1 j2 j3 j4 j5 j6 hcl hy hno
       have hsl2 : ArgsAt w0 sy y.l.args := hok2.1.1
       obtain ⟨ya, yc, rfl, _, _⟩ := hsl2.slice
       have hsl3 : ArgsAt w0 ry y.r.args := hok2.1.2
       obtain ⟨yb, yd, rfl, _, _⟩ := hsl3.slice
       clear hsl2 hsl3
       have c0 := cell_far lb1 k0
       have c1 := cell_far lb1 k1
       have c2 := cell_far lb1 k2
       have c3 := cell_far lb1 k3
       have c4 := cell_far lb1 k4
       have c5 := cell_far lb1 k5
       have c6 := cell_far lb1 k6
       have d0 := cell_far lb2 j0
       have d1 := cell_far lb2 j1
       have d2 := cell_far lb2 j2
       have d3 := cell_far lb2 j3
       have d4 := cell_far lb2 j4
       have d5 := cell_far lb2 j5
       have d6 := cell_far lb2 j6
       have HW : Hid (Wi W 32 7 W.heap.size u' (.slice ao n co) n (flL o) wr) := hwi
       cases hs : lsame x y
       ·have HX : Hid (Inn kL (x, .slice xa x.l.args.length xc, .slice xb x.r.args.length xd) qs u (k + 1) false u') := hin.next _ (hno hs)
        rw [hs] at hcl
        clear hs hy hno hin hwi hu? hbb hg k0 k1 k2 k3 k4 k5 k6 j0 j1 j2 j3 j4 j5 j6 hok2 hcs2 hlb2 hq hB hul lb1 lb2
        go_wp2
        refine wp_region_far (by kernel_rfl) ?_
        repeat (first | go_big_quiet_step (exact calls_far hcl _) | quiet_step (exact calls_far hcl _))
        refine wpQuiet_nil ?_
        intro _ hw'
        obtain ⟨pf, rfl⟩ := hw'
        have HZ : Hid (Wi W 32 7 W.heap.size u' (.slice ao n co) n (flL o) (far wr pf)) := HW.out.keep (below_far wr pf)
        clear HW
        go_wp2
        go_roundw
        case rel => exact ⟨k + 1, false, by go_num, rfl, by omega, u', HX.out, HZ.out⟩
        case measure => simp [intOf]; omega
       ·have HX : Hid (Inn kL (x, .slice xa x.l.args.length xc, .slice xb x.r.args.length xd) qs u (k + 1) true (u'.set k true)) := hin.hit _ (hy hs)
        rw [hs] at hcl
        clear hs hy hno hin hwi hu? hbb hg k0 k1 k2 k3 k4 k5 k6 j0 j1 j2 j3 j4 j5 j6 hok2 hcs2 hlb2 hq hB hul lb1 lb2
        go_wp2
        refine wp_region_far (by kernel_rfl) ?_
        repeat (first | go_big_quiet_step (exact calls_far hcl _) | quiet_step (exact calls_far hcl _))
        refine wpQuiet_nil ?_
        intro _ hw'
        obtain ⟨pf, rfl⟩ := hw'
        have HZ : Hid (Wi W 32 7 W.heap.size u' (.slice ao n co) n (flL o) (far wr pf)) := HW.out.keep (below_far wr pf)
        have e0 := g0 pf
        have e1 := HZ.out.free k
        have HY : Hid (Wi W 32 7 W.heap.size (u'.set k true) (.slice ao n co) n (flL o) ((far wr pf).setCell ⟨W.heap.size, k, none⟩ (.bool true))) := HZ.out.set k
        clear HW HZ
        go_wp2
        go_roundw
        case rel => exact ⟨k + 1, true, by go_num, rfl, by omega, u'.set k true, HX.out, HY.out⟩
        case measure => simp [intOf]; omega
      ·have HX : Hid (Inn kL (x, .slice xa x.l.args.length xc, .slice xb x.r.args.length xd) qs u (k + 1) false u') := hin.next _ (frL_no_used hu?)
       have HW : Hid (Wi W 32 7 W.heap.size u' (.slice ao n co) n (flL o) wr) := hwi
       clear hin hwi hu? hbb hg k0 k1 k2 k3 k4 k5 k6 hok2 hcs2 hlb2 hB hul lb1
       go_wp2
       refine wp_region_far (by kernel_rfl) ?_
       repeat (first | go_big_quiet_step (fail) | quiet_step (fail))
       refine wpQuiet_nil ?_
       intro _ hw'
       obtain ⟨pf, rfl⟩ := hw'
       have HZ : Hid (Wi W 32 7 W.heap.size u' (.slice ao n co) n (flL o) (far wr pf)) := HW.out.keep (below_far wr pf)
       clear HW
       go_wp2
       go_roundw
       case rel => exact ⟨k + 1, false, by go_num, rfl, by omega, u', HX.out, HZ.out⟩
       case measure => simp [intOf]; omega
     ·have HX : Hid (wsteps kL (ps.take (i + 1)) qs = (o ++ [(x, .slice xa x.l.args.length xc, .slice xb x.r.args.length xd)], u')) := by
       show _ = _
       rw [HS.out]
       exact hin.left _ (by omega)
      have hones : Hid (∀ u ∈ flL [(x, .slice xa x.l.args.length xc, .slice xb x.r.args.length xd)], u.oneCell' = true) := onesL (w0 := w0) (fun p hp => by
       have e : p = (x, .slice xa x.l.args.length xc, .slice xb x.r.args.length xd) := by simpa using hp
       rw [e]; exact HC.out.2.1)
      have hb6 := below_box wr (.cells #[.bool x.neg, .int .i64 x.l.v, .string x.l.fn, .slice xa x.l.args.length xc, .int .i64 x.r.v, .string x.r.fn, .slice xb x.r.args.length xd] 32)
      have HW : Hid (Wi W 32 7 W.heap.size u' (.slice ao n co) n (flL o) (wr.alloc (.cells #[.bool x.neg, .int .i64 x.l.v, .string x.l.fn, .slice xa x.l.args.length xc, .int .i64 x.r.v, .string x.r.fn, .slice xb x.r.args.length xd] 32))) := hwi.keep hb6
      have hrow6 := HW.out.row
      have hlow : W.heap.size + 1 <= wr.heap.size := hwi.lt
      clear hin hwi hB hul lb1 hb6
      go_wp2_with (first
       | (at_builtin; refine wpList_append_own_at _ rfl _ _ 35 rfl (W.heap.size + 1) 32 i0 _ 7 104 Tryz.underlying35 hi0 hz0 hz1 hz2 rfl (by decide) (.slice ao n co) n (flL o) rfl hrow6 ⟨wr.heap.size, 0, none⟩ 1 1 (flL [(x, .slice xa x.l.args.length xc, .slice xb x.r.args.length xd)]) rfl (by rw [flL_len]; simp) (fun j u hj => by { rw [Addr.add_mid, Nat.zero_add, cell_of_row _ _ _ _ 32 (0, 0) (MapKept.heap_alloc wr _).1]; rw [flL_one] at hj; simpa using hj }) hones.out (by unfold maxLen; omega) (by omega) (by simp; omega) ?_; intro v6 w6 hown6 hg6 hnil6 hat6; obtain ⟨a8, c8, rfl⟩ := row_slice hown6))
      have HZ : Hid (Wi W 32 7 W.heap.size u' (.slice a8 (n + 1) c8) (n + 1) (flL (o ++ [(x, .slice xa x.l.args.length xc, .slice xb x.r.args.length xd)])) w6) := HW.out.push (by rw [flL_app]; exact hown6) hg6
      clear hown6 hg6 hnil6 hat6 hrow6 HW
      go_roundw
      case rel => exact ⟨i + 1, n + 1, a8, c8, by go_num, rfl, by omega, by omega, by rw [HX.out]; exact HZ.out⟩
      case measure => simp [intOf]; omega
    ·have HX : Hid (wsteps kL (ps.take (i + 1)) qs = (o, u')) := by
      show _ = _
      rw [HS.out]
      exact hin.gone _
     have HW : Hid (Wi W 32 7 W.heap.size u' (.slice ao n co) n (flL o) wr) := hwi
     clear hin hwi hB hul lb1
     by_cases hkl : k < qs.length
     ·have hkI : (k : Int) < (qs.length : Int) := by omega
      go_wp2
      go_roundw
      case rel => exact ⟨i + 1, n, ao, co, by go_num, rfl, by have := HE.out; omega, by omega, by rw [HX.out]; exact HW.out⟩
      case measure => simp [intOf]; have := HE.out; omega
     ·have hkI : ¬ (k : Int) < (qs.length : Int) := by omega
      go_wp2
      go_roundw
      case rel => exact ⟨i + 1, n, ao, co, by go_num, rfl, by have := HE.out; omega, by omega, by rw [HX.out]; exact HW.out⟩
      case measure => simp [intOf]; have := HE.out; omega
  ·have e : ps.take i = ps := List.take_of_length_le (by omega)
   have HF : Hid (Wi W 32 7 W.heap.size (wsteps kL ps qs).2 (.slice ao n co) n (flL (wo kL ps qs)) wr) := by
    have := HI.out
    rw [e] at this
    exact this
   clear HI e
   go_wp2
   go_ret
   have hr := HF.out.row
   have hnn : (wo kL ps qs).length = n := by have := hr.1; rw [flL_len] at this; omega
   rw [<- hnn] at hr
   refine ⟨_, rfl, ?_, HF.out.bel⟩
   rw [<- hnn]
   exact rdL_of_row hr (fun p hp => H1.out.1.ok p (wo_sub _ ps qs p hp))
noncomputable def upL (o : Od) (ms : List (Lt × Value × Value)) (t : Lt) (k : Nat) : Bool := (ms.take k).any (fun a => litR o a.1 t == 1)
theorem upL_zero (o : Od) (ms : List (Lt × Value × Value)) (t : Lt) : upL o ms t 0 = false := by simp [upL]
theorem upL_succ (o : Od) (ms : List (Lt × Value × Value)) (t : Lt) {k : Nat} (h : k < ms.length) : upL o ms t (k + 1) = (upL o ms t k || (litR o ms[k].1 t == 1)) := by
 unfold upL
 rw [List.take_succ_eq_append_getElem h, List.any_append]
 simp
theorem upL_all (o : Od) (ms : List (Lt × Value × Value)) (t : Lt) (hr : ∀ a ∈ ms, litR o a.1 t = lcm o a.1 t) {k : Nat} (h : ms.length <= k) : upL o ms t k = true ↔ ∃ a ∈ ms, gL o (kL a) (kap t) := by
 unfold upL
 rw [List.take_of_length_le h, List.any_eq_true]
 simp only [beq_iff_eq]
 constructor
 ·rintro ⟨a, ha, e⟩
  exact ⟨a, ha, gL_iff.2 (by rw [<- hr a ha]; exact e)⟩
 ·rintro ⟨a, ha, e⟩
  exact ⟨a, ha, by rw [hr a ha]; exact gL_iff.1 e⟩
open Classical in
noncomputable def clgt (o : Od) (m n : List (T -> Nat)) : Bool := decide (mgr (gL o) m n)
theorem clgt_iff {o : Od} {ps qs : List (Lt × Value × Value)} : clgt o (ps.map kL) (qs.map kL) = true ↔ (wo kL ps qs ≠ [] ∧ cov kL (gL o) (wo kL ps qs) (wo kL qs ps)) := by
 rw [wo_greater]
 simp [clgt]
theorem rclause_any (w0 : World) (o : Od) (vn vw : Value) (ho : OdAt w0 o vn vw) (ps qs : List (Lt × Value × Value)) (vc vd : Value) (W : World) (hW : Below w0.heap.size w0 W) (hp : RdL w0 W vc ps) (hq : RdL w0 W vd qs) (hl1 : ps.length <= 2000) (hl2 : qs.length <= 2000) (hR : ∀ a ∈ ps, ∀ b ∈ qs, litR o a.1 b.1 = lcm o a.1 b.1) :
  Calls Tryz.prog 43 #[oval o vn vw, vc, vd] W fun e W' => e = .returned (.bool (clgt o (ps.map kL) (qs.map kL))) ∧ Below W.heap.size W W' := by
 have HO : Hid (OdAt w0 o vn vw) := ho
 obtain ⟨an, nn, cn, rfl⟩ := ho.vn
 obtain ⟨aw, nw, cw, rfl⟩ := ho.vw
 obtain ⟨W1, h1⟩ : ∃ X, W.alloc (robox o (.slice an nn cn) (.slice aw nw cw)) = X := ⟨_, rfl⟩
 have b1 : Below W.heap.size W W1 := by rw [<- h1]; exact below_box _ _
 have s1 : W1.heap.size = W.heap.size + 1 := by rw [<- h1]; simp
 obtain ⟨o0, o1, o2⟩ := obox_cells W (.bool o.path) (.slice an nn cn) (.slice aw nw cw) 27
 rw [h1] at o0 o1 o2
 have b01 : Below w0.heap.size w0 W1 := hW.trans (b1.mono hW.size)
 have lw := b01.size
 have qo : Hid (∀ Z, Below W1.heap.size W1 Z -> Z.cell? ⟨W.heap.size, 0, none⟩ = some (.bool o.path) ∧ Z.cell? ⟨W.heap.size, 1, none⟩ = some (.slice an nn cn) ∧ Z.cell? ⟨W.heap.size, 2, none⟩ = some (.slice aw nw cw)) := fun Z hZ =>
  ⟨kc hZ (by omega) o0, kc hZ (by omega) o1, kc hZ (by omega) o2⟩
 have HC3 : Hid (∀ Z, Below W1.heap.size W1 Z -> Calls Tryz.prog 42 #[vc, vd] Z fun e Z' => ∃ v, e = .returned v ∧ RdL w0 Z' v (wo kL ps qs) ∧ Below Z.heap.size Z Z') := fun Z hZ => by
  have bz : Below W.heap.size W Z := b1.trans (hZ.mono b1.size)
  exact less_any w0 ps qs vc vd Z (b01.trans (hZ.mono lw)) (hp.keep bz) (hq.keep bz) hl1 hl2
 have HC4 : Hid (∀ Z, Below W1.heap.size W1 Z -> Calls Tryz.prog 42 #[vd, vc] Z fun e Z' => ∃ v, e = .returned v ∧ RdL w0 Z' v (wo kL qs ps) ∧ Below Z.heap.size Z Z') := fun Z hZ => by
  have bz : Below W.heap.size W Z := b1.trans (hZ.mono b1.size)
  exact less_any w0 qs ps vd vc Z (b01.trans (hZ.mono lw)) (hq.keep bz) (hp.keep bz) hl2 hl1
 have HW : Hid (Below W.heap.size W W1 ∧ W.heap.size <= W1.heap.size ∧ Below w0.heap.size w0 W1 ∧ w0.heap.size <= W1.heap.size) := ⟨b1, by omega, b01, lw⟩
 have HV := clgt_iff (o := o) (ps := ps) (qs := qs)
 have HLM : Hid (∀ a ∈ wo kL ps qs, ∀ b ∈ wo kL qs ps, litR o a.1 b.1 = lcm o a.1 b.1) := fun a ha b hb => hR a (wo_sub kL ps qs a ha) b (wo_sub kL qs ps b hb)
 obtain ⟨a1, c1, rfl, _, _⟩ := hp.slice
 obtain ⟨a2, c2, rfl, _, _⟩ := hq.slice
 have lm1 : (wo kL ps qs).length <= 2000 := Nat.le_trans (wo_len _ _ _) hl1
 have lm2 : (wo kL qs ps).length <= 2000 := Nat.le_trans (wo_len _ _ _) hl2
 obtain ⟨ms, hms⟩ : ∃ ms, wo kL ps qs = ms := ⟨_, rfl⟩
 obtain ⟨ns, hns⟩ : ∃ ns, wo kL qs ps = ns := ⟨_, rfl⟩
 rw [hms] at HC3 HV lm1 HLM
 rw [hns] at HC4 HV lm2 HLM
 have HVV : Hid (clgt o (ps.map kL) (qs.map kL) = true ↔ ms ≠ [] ∧ cov kL (gL o) ms ns) := HV
 clear hms hns HV b1 o0 o1 o2 b01 lw hp hq hW ho hR
 try simp only
 go_enter Tryz.func43, Tryz.ntmps43
 try rw [h1]
 go_wp2_with fail
 try rw [h1]
 refine (HC3.out _ (Below.refl _ _)).mono ?_
 rintro e X3 ⟨v3, rfl, r3, b3⟩
 obtain ⟨ar3, cr3, rfl, hcr3, hmr3⟩ := r3.slice
 have hx4 := HC4.out _ b3
 have HR3 : Hid (RdL w0 X3 (.slice ar3 ms.length cr3) ms ∧ Below W1.heap.size W1 X3) := ⟨r3, b3⟩
 clear r3 b3 HC3 HC4
 go_wp2_with fail
 refine hx4.mono ?_
 rintro e X6 ⟨v6, rfl, r6, b6⟩
 obtain ⟨ar6, cr6, rfl, hcr6, hmr6⟩ := r6.slice
 have HR6 : Hid (RdL w0 X6 (.slice ar6 ns.length cr6) ns) := r6
 have HM6 : Hid (RdL w0 X6 (.slice ar3 ms.length cr3) ms) := HR3.out.1.keep b6
 have b16 : Below W1.heap.size W1 X6 := HR3.out.2.trans (b6.mono HR3.out.2.size)
 obtain ⟨q0, q1, q2⟩ := qo.out _ b16
 have HB6 : Hid (Below W.heap.size W X6 ∧ Below w0.heap.size w0 X6 ∧ W.heap.size < X6.heap.size) := ⟨HW.out.1.trans (b16.mono HW.out.2.1), HW.out.2.2.1.trans (b16.mono HW.out.2.2.2), World.block_lt_of_cell? X6 _ q0⟩
 clear r6 b6 b16 HR3 qo HW hx4
 by_cases hz : ms.length = 0
 ·have HF : Hid (clgt o (ps.map kL) (qs.map kL) = false) := by
   show _ = _
   rw [<- Bool.not_eq_true, HVV.out]
   exact fun e => e.1 (List.eq_nil_of_length_eq_zero hz)
  have hz' : ((ms.length : Int) == 0) = true := by simp [hz]
  clear hz
  go_wp2
  go_ret
  exact ⟨ret_bool HF.out.symm, HB6.out.1⟩
 have hz' : ((ms.length : Int) == 0) = false := by simp [hz]
 have HZ : Hid (ms ≠ []) := fun e => hz (by simp [e])
 clear hz
 go_wp2
 go_loopw [9] (fun vi wr => ∃ i : Nat, vi = .int .i64 i ∧ i <= ns.length ∧ Hid (Below X6.heap.size X6 wr ∧ ∀ j (hj : j < ns.length), j < i -> ∃ a ∈ ms, gL o (kL a) (kL ns[j]))) (fun vi _ => ns.length - (intOf vi).toNat)
 case atStart => exact ⟨0, rfl, Nat.zero_le _, Below.refl _ _, fun j _ h => by omega⟩
 case round =>
  obtain ⟨i, rfl, hi, HI⟩ := hrel
  by_cases hlt : i < ns.length
  ·have hiI : (i : Int) < (ns.length : Int) := by omega
   obtain ⟨bn, on, rfl, hlbn, hcsn, hokn⟩ := HR6.out.nth hlt
   obtain ⟨⟨t, st, rt⟩, ht⟩ : ∃ p, ns[i] = p := ⟨_, rfl⟩
   have ht1 : kL ns[i] = kap t := by rw [ht]
   have HK : Hid ((∃ a ∈ ms, gL o (kL a) (kap t)) -> ∀ j (hj : j < ns.length), j < i + 1 -> ∃ a ∈ ms, gL o (kL a) (kL ns[j])) := fun h j hj hji => by
    by_cases e : j = i
    ·subst e; rw [ht1]; exact h
    ·exact HI.out.2 j hj (by omega)
   have HQ : Hid (¬ (∃ a ∈ ms, gL o (kL a) (kap t)) -> clgt o (ps.map kL) (qs.map kL) = false) := fun h => by
    rw [<- Bool.not_eq_true, HVV.out]
    refine fun e => h ?_
    have := e.2 _ (List.getElem_mem hlt)
    rw [ht1] at this
    exact this
   rw [ht] at hcsn hokn
   have HE : Hid (i < ns.length) := hlt
   have HC : Hid (CsL X6 bn (on + i * 7) (t, st, rt) ∧ OkL w0 (t, st, rt) ∧ bn < X6.heap.size) := ⟨hcsn, hokn, hlbn⟩
   have hsl1 : ArgsAt w0 st t.l.args := hokn.1.1
   obtain ⟨ta, tc, rfl, _, _⟩ := hsl1.slice
   have hsl2 : ArgsAt w0 rt t.r.args := hokn.1.2
   obtain ⟨tb, td, rfl, _, _⟩ := hsl2.slice
   have HRR : Hid (∀ a ∈ ms, litR o a.1 t = lcm o a.1 t) := fun a ha => by have := HLM.out a ha _ (List.getElem_mem hlt); rw [ht] at this; exact this
   have HBi : Hid (Below X6.heap.size X6 wr) := HI.out.1
   clear hcsn hokn hlbn hsl1 hsl2 ht ht1 hlt HI
   obtain ⟨wq, hwq⟩ : ∃ Z, Z = wr := ⟨_, rfl⟩
   subst hwq
   go_wp2
   go_loopw [10, 11] (fun vb vk wr => ∃ (k : Nat) (g : Bool), vk = .int .i64 k ∧ vb = .bool g ∧ k <= ms.length ∧ Hid (g = upL o ms t k ∧ Below X6.heap.size X6 wr)) (fun _ vk _ => ms.length - (intOf vk).toNat)
   case atStart => exact ⟨0, false, rfl, rfl, Nat.zero_le _, (upL_zero _ _ _).symm, HBi.out⟩
   case round =>
    obtain ⟨k, g, rfl, rfl, hk, HN⟩ := hrel
    have hB := HN.out.2
    have hwl : X6.heap.size <= wr.heap.size := hB.size
    by_cases hkl : k < ms.length
    ·have hkI : (k : Int) < (ms.length : Int) := by omega
     have HS := upL_succ o ms t hkl
     cases g
     ·obtain ⟨bm, om, rfl, hlbm, hcsm, hokm⟩ := HM6.out.nth hkl
      obtain ⟨⟨s, ss, rs⟩, hs⟩ : ∃ p, ms[k] = p := ⟨_, rfl⟩
      rw [hs] at hcsm hokm HS
      have hsl : ArgsAt w0 ss s.l.args := hokm.1.1
      have hslr : ArgsAt w0 rs s.r.args := hokm.1.2
      have hcl : ∀ Z, Below wr.heap.size wr Z -> Calls Tryz.prog 14 #[oval o (.slice an nn cn) (.slice aw nw cw), lval s ss rs, lval t (.slice ta t.l.args.length tc) (.slice tb t.r.args.length td)] Z fun e Z' => e = .returned (.int .i64 (litR o s t)) ∧ Below Z.heap.size Z Z' := fun Z hZ => rlits_any w0 o _ _ HO.out s t _ _ _ _ hokm HC.out.2.1 Z ((HB6.out.2.1.trans (hB.mono HB6.out.2.1.size)).trans (hZ.mono (by have := HB6.out.2.1.size; omega)))
      obtain ⟨sa, sc, rfl, _, _⟩ := hsl.slice
      obtain ⟨sb, sd, rfl, _, _⟩ := hslr.slice
      obtain ⟨j0, j1, j2, j3, j4, j5, j6⟩ := hcsm.keep hB hlbm
      obtain ⟨k0, k1, k2, k3, k4, k5, k6⟩ := HC.out.1.keep hB HC.out.2.2
      simp only at j0 j1 j2 j3 j4 j5 j6 k0 k1 k2 k3 k4 k5 k6
      have lbm : bm < wr.heap.size := by omega
      have lbn : bn < wr.heap.size := by have := HC.out.2.2; omega
      have lbo : W.heap.size < wr.heap.size := by have := HB6.out.2.2; omega
      have c0 := cell_far lbm j0
      have c1 := cell_far lbm j1
      have c2 := cell_far lbm j2
      have c3 := cell_far lbm j3
      have c4 := cell_far lbm j4
      have c5 := cell_far lbm j5
      have c6 := cell_far lbm j6
      have d0 := cell_far lbn k0
      have d1 := cell_far lbn k1
      have d2 := cell_far lbn k2
      have d3 := cell_far lbn k3
      have d4 := cell_far lbn k4
      have d5 := cell_far lbn k5
      have d6 := cell_far lbn k6
      have p0 := cell_far lbo (kc hB HB6.out.2.2 q0)
      have p1 := cell_far lbo (kc hB HB6.out.2.2 q1)
      have p2 := cell_far lbo (kc hB HB6.out.2.2 q2)
      simp only at HS
      rw [<- HN.out.1, Bool.false_or] at HS
      have HBB : Hid (Below X6.heap.size X6 wr ∧ X6.heap.size <= wr.heap.size) := ⟨hB, hwl⟩
      clear hsl hslr hs hokm hcsm hlbm j0 j1 j2 j3 j4 j5 j6 k0 k1 k2 k3 k4 k5 k6 lbm lbn lbo HN hB hwl
      obtain ⟨z, hz⟩ : ∃ z, litR o s t = z := ⟨_, rfl⟩
      rw [hz] at HS hcl
      clear hz
      cases hq : (z == 1)
      ·have HX : Hid (false = upL o ms t (k + 1)) := by rw [hq] at HS; exact HS.symm
       clear HS
       go_wp2
       refine wp_region_far (by kernel_rfl) ?_
       repeat (first | go_big_quiet_step (exact calls_far hcl _) | quiet_step (exact calls_far hcl _))
       refine wpQuiet_nil ?_
       intro _ hw'
       obtain ⟨pf, rfl⟩ := hw'
       go_wp2
       go_roundw
       case rel => exact ⟨k + 1, false, by go_num, rfl, by omega, HX.out, HBB.out.1.trans ((below_far wr pf).mono HBB.out.2)⟩
       case measure => simp [intOf]; omega
      ·have HX : Hid (true = upL o ms t (k + 1)) := by rw [hq] at HS; exact HS.symm
       clear HS
       go_wp2
       refine wp_region_far (by kernel_rfl) ?_
       repeat (first | go_big_quiet_step (exact calls_far hcl _) | quiet_step (exact calls_far hcl _))
       refine wpQuiet_nil ?_
       intro _ hw'
       obtain ⟨pf, rfl⟩ := hw'
       go_wp2
       go_roundw
       case rel => exact ⟨k + 1, true, by go_num, rfl, by omega, HX.out, HBB.out.1.trans ((below_far wr pf).mono HBB.out.2)⟩
       case measure => simp [intOf]; omega
     ·rw [<- HN.out.1, Bool.true_or] at HS
      have HX : Hid (true = upL o ms t (k + 1)) := HS.symm
      have HBB : Hid (Below X6.heap.size X6 wr ∧ X6.heap.size <= wr.heap.size) := ⟨hB, hwl⟩
      clear HS HN hB hwl
      go_wp2
      refine wp_region_far (by kernel_rfl) ?_
      repeat (first | go_big_quiet_step (fail) | quiet_step (fail))
      refine wpQuiet_nil ?_
      intro _ hw'
      obtain ⟨pf, rfl⟩ := hw'
      go_wp2
      go_roundw
      case rel => exact ⟨k + 1, true, by go_num, rfl, by omega, HX.out, HBB.out.1.trans ((below_far wr pf).mono HBB.out.2)⟩
      case measure => simp [intOf]; omega
    ·have ha := upL_all o ms t HRR.out (k := k) (by omega)
     rw [<- HN.out.1] at ha
     have HBB : Hid (Below X6.heap.size X6 wr) := hB
     clear HN hB hwl
     cases g
     ·have HF : Hid (clgt o (ps.map kL) (qs.map kL) = false) := HQ.out (fun h => by have := ha.2 h; cases this)
      clear ha
      go_wp2
      go_ret
      exact ⟨ret_bool HF.out.symm, HB6.out.1.trans (HBB.out.mono HB6.out.1.size)⟩
     ·have HF : Hid (∀ j (hj : j < ns.length), j < i + 1 -> ∃ a ∈ ms, gL o (kL a) (kL ns[j])) := HK.out (ha.1 rfl)
      clear ha
      go_wp2
      go_roundw
      case rel => exact ⟨i + 1, by go_num, by have := HE.out; omega, HBB.out, HF.out⟩
      case measure => simp [intOf]; have := HE.out; omega
  ·have HF : Hid (clgt o (ps.map kL) (qs.map kL) = true) := by
    show _ = _
    rw [HVV.out]
    refine ⟨HZ.out, fun b hb => ?_⟩
    obtain ⟨j, hj, rfl⟩ := List.mem_iff_getElem.1 hb
    exact HI.out.2 j hj (by omega)
   have HBB : Hid (Below X6.heap.size X6 wr) := HI.out.1
   clear HI
   go_wp2
   go_ret
   exact ⟨ret_bool HF.out.symm, HB6.out.1.trans (HBB.out.mono HB6.out.1.size)⟩
theorem cright_lits {c : List Lt} (h : crightW c = 0) : ∀ x ∈ c, x.l.rightW = 0 ∧ x.r.rightW = 0 := by
 have hz : lfe (sidesOf c) = 0 := by
  unfold crightW at h
  split at h
  ·omega
  ·split at h
   ·rename_i k; exact absurd h k
   ·rename_i k; simpa using k
 intro x hx
 have hm := lfe_zero.1 hz
 constructor
 ·exact hm _ (by unfold sidesOf; simp only [List.mem_flatMap]; exact ⟨x, hx, by simp⟩)
 ·exact hm _ (by unfold sidesOf; simp only [List.mem_flatMap]; exact ⟨x, hx, by simp⟩)
theorem rright9_any (c : List Lt) (v : Value) (W : World) (hc : ClauseAt W v c) :
  Calls Tryz.prog 41 #[v] W fun e W' => e = .returned (.bool (crightW c == 0)) ∧ Below W.heap.size W W' := by
 have hr := rcright_any c v W hc
 obtain ⟨ca, cc, rfl⟩ := hc.slice
 clear hc
 go_enter Tryz.func41, Tryz.ntmps41
 go_wp2_with fail
 refine hr.mono ?_
 rintro e W1 ⟨rfl, b1⟩
 go_wp2
 go_ret
 exact ⟨rfl, b1⟩
theorem ccm_doc (o : Od) (ps qs : List (Lt × Value × Value)) : mcmp (gL o) (ps.map kL) (qs.map kL) = if (wo kL ps qs).length + (wo kL qs ps).length = 0 then 0 else if clgt o (ps.map kL) (qs.map kL) = true then 1 else if clgt o (qs.map kL) (ps.map kL) = true then -1 else 2 := by
 rw [wo_cmp]
 simp only [<- clgt_iff]
theorem rclauses_any (w0 : World) (o : Od) (vn vw : Value) (ho : OdAt w0 o vn vw) (c d : List Lt) (vc vd : Value) (hc : OkC w0 (c, vc)) (hd : OkC w0 (d, vd)) (W : World) (hW : Below w0.heap.size w0 W) :
  Calls Tryz.prog 16 #[oval o vn vw, vc, vd] W fun e W' => e = .returned (.int .i64 (clsR o c d)) ∧ Below W.heap.size W W' := by
 have HO : Hid (OdAt w0 o vn vw) := ho
 obtain ⟨W1, h1⟩ : ∃ X, W.alloc (robox o vn vw) = X := ⟨_, rfl⟩
 have b1 : Below W.heap.size W W1 := by rw [<- h1]; exact below_box _ _
 have s1 : W1.heap.size = W.heap.size + 1 := by rw [<- h1]; simp
 obtain ⟨o0, o1, o2⟩ := obox_cells W (.bool o.path) vn vw 27
 rw [h1] at o0 o1 o2
 have b01 : Below w0.heap.size w0 W1 := hW.trans (b1.mono hW.size)
 have lw := b01.size
 have HCC : Hid (∀ Z, Below W1.heap.size W1 Z -> Z.cell? ⟨W.heap.size, 0, none⟩ = some (.bool o.path) ∧ Z.cell? ⟨W.heap.size, 1, none⟩ = some vn ∧ Z.cell? ⟨W.heap.size, 2, none⟩ = some vw) := fun Z hZ => ⟨kc hZ (by omega) o0, kc hZ (by omega) o1, kc hZ (by omega) o2⟩
 have HGG : Hid (∀ Z, Below W1.heap.size W1 Z -> Calls Tryz.prog 22 #[gval vn vw] Z fun e Z' => e = .returned (.bool o.g.ok) ∧ Below Z.heap.size Z Z') := fun Z hZ => rgright_any o.g vn vw Z (ho.sg.keep (b01.trans (hZ.mono lw)) (Nat.le_refl _))
 have HEc : Hid (∀ Z, Below W1.heap.size W1 Z -> Calls Tryz.prog 41 #[vc] Z fun e Z' => e = .returned (.bool (crightW c == 0)) ∧ Below Z.heap.size Z Z') := fun Z hZ => rright9_any c vc Z (hc.keep (b01.trans (hZ.mono lw))).1
 have HEd : Hid (∀ Z, Below W1.heap.size W1 Z -> Calls Tryz.prog 41 #[vd] Z fun e Z' => e = .returned (.bool (crightW d == 0)) ∧ Below Z.heap.size Z Z') := fun Z hZ => rright9_any d vd Z (hd.keep (b01.trans (hZ.mono lw))).1
 obtain ⟨ps, eps, rps⟩ : ∃ qs : List (Lt × Value × Value), qs.map (·.1) = c ∧ RdL w0 w0 vc qs := rdL_of_clause hc.1 hc.2
 obtain ⟨qs, eqs, rqs⟩ : ∃ qs : List (Lt × Value × Value), qs.map (·.1) = d ∧ RdL w0 w0 vd qs := rdL_of_clause hd.1 hd.2
 have ep : ps.map kL = c.map kap := map_kap eps
 have eq : qs.map kL = d.map kap := map_kap eqs
 have HWW : Hid (crightW c = 0 -> crightW d = 0 -> o.g.Ok -> ps.length <= 60 ∧ qs.length <= 60 ∧ ∀ Z, Below W1.heap.size W1 Z ->
   (Calls Tryz.prog 42 #[vc, vd] Z fun e Z' => ∃ v, e = .returned v ∧ RdL w0 Z' v (wo kL ps qs) ∧ Below Z.heap.size Z Z') ∧
   (Calls Tryz.prog 42 #[vd, vc] Z fun e Z' => ∃ v, e = .returned v ∧ RdL w0 Z' v (wo kL qs ps) ∧ Below Z.heap.size Z Z') ∧
   (Calls Tryz.prog 43 #[oval o vn vw, vc, vd] Z fun e Z' => e = .returned (.bool (clgt o (ps.map kL) (qs.map kL))) ∧ Below Z.heap.size Z Z') ∧
   (Calls Tryz.prog 43 #[oval o vn vw, vd, vc] Z fun e Z' => e = .returned (.bool (clgt o (qs.map kL) (ps.map kL))) ∧ Below Z.heap.size Z Z')) := fun k1 k2 k3 => by
  have l1 : ps.length <= 60 := by have := right_len k1; rw [<- eps, List.length_map] at this; exact this
  have l2 : qs.length <= 60 := by have := right_len k2; rw [<- eqs, List.length_map] at this; exact this
  have rp : ∀ a ∈ ps, a.1.l.rightW = 0 ∧ a.1.r.rightW = 0 := fun a ha => cright_lits k1 a.1 (by rw [<- eps]; exact List.mem_map_of_mem ha)
  have rq : ∀ a ∈ qs, a.1.l.rightW = 0 ∧ a.1.r.rightW = 0 := fun a ha => cright_lits k2 a.1 (by rw [<- eqs]; exact List.mem_map_of_mem ha)
  refine ⟨l1, l2, fun Z hZ => ?_⟩
  have bz : Below w0.heap.size w0 Z := b01.trans (hZ.mono lw)
  exact ⟨less_any w0 ps qs vc vd Z bz (rps.keep bz) (rqs.keep bz) (by omega) (by omega), less_any w0 qs ps vd vc Z bz (rqs.keep bz) (rps.keep bz) (by omega) (by omega),
   rclause_any w0 o vn vw ho ps qs vc vd Z bz (rps.keep bz) (rqs.keep bz) (by omega) (by omega) (fun a ha b hb => by unfold litR; rw [if_pos ⟨k3, rp a ha, rq b hb⟩]),
   rclause_any w0 o vn vw ho qs ps vd vc Z bz (rqs.keep bz) (rps.keep bz) (by omega) (by omega) (fun a ha b hb => by unfold litR; rw [if_pos ⟨k3, rq a ha, rp b hb⟩])⟩
 have HD := ccm_doc o ps qs
 rw [ep, eq] at HD HWW
 have HB : Hid (Below W.heap.size W W1) := b1
 obtain ⟨ms, hms⟩ : ∃ ms, wo kL ps qs = ms := ⟨_, rfl⟩
 obtain ⟨ns, hns⟩ : ∃ ns, wo kL qs ps = ns := ⟨_, rfl⟩
 have lm1 : ms.length <= ps.length := by rw [<- hms]; exact wo_len _ _ _
 have lm2 : ns.length <= qs.length := by rw [<- hns]; exact wo_len _ _ _
 rw [hms, hns] at HD HWW
 have HR : Hid (clsR o c d = if o.g.ok = true ∧ (crightW c == 0) = true ∧ (crightW d == 0) = true then (if ms.length + ns.length = 0 then 0 else if clgt o (c.map kap) (d.map kap) = true then 1 else if clgt o (d.map kap) (c.map kap) = true then -1 else 2) else 2) := by
  show _ = _
  unfold clsR ccm
  rw [HD]
  by_cases h : o.g.Ok ∧ crightW c = 0 ∧ crightW d = 0
  ·have k : o.g.ok = true ∧ (crightW c == 0) = true ∧ (crightW d == 0) = true := ⟨ok_iff.2 h.1, beq_iff_eq.2 h.2.1, beq_iff_eq.2 h.2.2⟩
   rw [if_pos h, if_pos k]
  ·have k : ¬ (o.g.ok = true ∧ (crightW c == 0) = true ∧ (crightW d == 0) = true) := fun k => h ⟨ok_iff.1 k.1, beq_iff_eq.1 k.2.1, beq_iff_eq.1 k.2.2⟩
   rw [if_neg h, if_neg k]
 obtain ⟨an, nn, cn, rfl⟩ := ho.vn
 obtain ⟨aw, nw, cw, rfl⟩ := ho.vw
 simp only [OkC] at hc hd
 obtain ⟨ca, cc, rfl⟩ := hc.1.slice
 obtain ⟨da, dc, rfl⟩ := hd.1.slice
 obtain ⟨q0, q1, q2⟩ := HCC.out W1 (Below.refl _ _)
 clear hms hns HD b1 o0 o1 o2 b01 lw hc hd hW ho rps rqs eps eqs ep eq
 cases e1 : o.g.ok
 ·have HV : Hid (clsR o c d = 2) := by show _ = _; rw [HR.out, e1]; simp
  rw [e1] at HGG
  clear HR e1
  go_enter Tryz.func16, Tryz.ntmps16
  try rw [h1]
  go_wp2_with fail
  try rw [h1]
  refine (HGG.out _ (Below.refl _ _)).mono ?_
  rintro e W4 ⟨rfl, b4⟩
  go_wp2
  go_ret
  exact ⟨ret_i64 HV.out.symm, HB.out.trans (b4.mono HB.out.size)⟩
 have HOk : Hid o.g.Ok := ok_iff.1 e1
 rw [e1] at HGG HR
 clear e1
 cases e2 : (crightW c == 0)
 ·have HV : Hid (clsR o c d = 2) := by show _ = _; rw [HR.out, e2]; simp
  rw [e2] at HEc
  clear HR e2
  go_enter Tryz.func16, Tryz.ntmps16
  try rw [h1]
  go_wp2_with fail
  try rw [h1]
  refine (HGG.out _ (Below.refl _ _)).mono ?_
  rintro e W4 ⟨rfl, b4⟩
  go_wp2_with fail
  refine (HEc.out _ b4).mono ?_
  rintro e W5 ⟨rfl, cW5⟩
  have b5 : Below W1.heap.size W1 W5 := b4.trans (cW5.mono b4.size)
  clear cW5
  go_wp2
  go_ret
  exact ⟨ret_i64 HV.out.symm, HB.out.trans (b5.mono HB.out.size)⟩
 have HK1 : Hid (crightW c = 0) := by show _ = _; exact beq_iff_eq.1 e2
 rw [e2] at HEc HR
 clear e2
 cases e3 : (crightW d == 0)
 ·have HV : Hid (clsR o c d = 2) := by show _ = _; rw [HR.out, e3]; simp
  rw [e3] at HEd
  clear HR e3
  go_enter Tryz.func16, Tryz.ntmps16
  try rw [h1]
  go_wp2_with fail
  try rw [h1]
  refine (HGG.out _ (Below.refl _ _)).mono ?_
  rintro e W4 ⟨rfl, b4⟩
  go_wp2_with fail
  refine (HEc.out _ b4).mono ?_
  rintro e W5 ⟨rfl, cW5⟩
  have b5 : Below W1.heap.size W1 W5 := b4.trans (cW5.mono b4.size)
  clear cW5
  go_wp2_with fail
  refine (HEd.out _ b5).mono ?_
  rintro e W6 ⟨rfl, cW6⟩
  have b6 : Below W1.heap.size W1 W6 := b5.trans (cW6.mono b5.size)
  clear cW6
  go_wp2
  go_ret
  exact ⟨ret_i64 HV.out.symm, HB.out.trans (b6.mono HB.out.size)⟩
 have HK2 : Hid (crightW d = 0) := by show _ = _; exact beq_iff_eq.1 e3
 rw [e3] at HEd HR
 clear e3
 obtain ⟨l1, l2, hww⟩ := HWW.out HK1.out HK2.out HOk.out
 have HWcd : Hid (∀ Z, Below W1.heap.size W1 Z -> _) := fun Z hZ => (hww Z hZ).1
 have HWdc : Hid (∀ Z, Below W1.heap.size W1 Z -> _) := fun Z hZ => (hww Z hZ).2.1
 have HLcd : Hid (∀ Z, Below W1.heap.size W1 Z -> _) := fun Z hZ => (hww Z hZ).2.2.1
 have HLdc : Hid (∀ Z, Below W1.heap.size W1 Z -> _) := fun Z hZ => (hww Z hZ).2.2.2
 have hwr : IntKind.i64.wrap ((ms.length : Int) + (ns.length : Int)) = (ms.length : Int) + (ns.length : Int) := by
  rw [wrapK]
  exact wrap_small (by omega) (by omega)
 have hwr' : wrap64 ((ms.length : Int) + (ns.length : Int)) = (ms.length : Int) + (ns.length : Int) := wrap_small (by omega) (by omega)
 clear hww HWW HOk HK1 HK2 lm1 lm2 l1 l2
 by_cases e4 : ms.length + ns.length = 0
 ·have HV : Hid (clsR o c d = 0) := by show _ = _; rw [HR.out]; simp [e4]
  have hz : (((ms.length : Int) + (ns.length : Int)) == 0) = true := by rw [beq_iff_eq]; omega
  clear HR e4
  go_enter Tryz.func16, Tryz.ntmps16
  try rw [h1]
  go_wp2_with fail
  try rw [h1]
  refine (HGG.out _ (Below.refl _ _)).mono ?_
  rintro e W4 ⟨rfl, b4⟩
  go_wp2_with fail
  refine (HEc.out _ b4).mono ?_
  rintro e W5 ⟨rfl, cW5⟩
  have b5 : Below W1.heap.size W1 W5 := b4.trans (cW5.mono b4.size)
  clear cW5
  go_wp2_with fail
  refine (HEd.out _ b5).mono ?_
  rintro e W6 ⟨rfl, cW6⟩
  have b6 : Below W1.heap.size W1 W6 := b5.trans (cW6.mono b5.size)
  clear cW6
  go_wp2_with fail
  refine (HWcd.out _ b6).mono ?_
  rintro e W7 ⟨v7, rfl, r7, cW7⟩
  obtain ⟨a7, k7, rfl, _, _⟩ := r7.slice
  have b7 : Below W1.heap.size W1 W7 := b6.trans (cW7.mono b6.size)
  clear cW7 r7
  go_wp2_with fail
  refine (HWdc.out _ b7).mono ?_
  rintro e W8 ⟨v8, rfl, r8, cW8⟩
  obtain ⟨a8, k8, rfl, _, _⟩ := r8.slice
  have b8 : Below W1.heap.size W1 W8 := b7.trans (cW8.mono b7.size)
  clear cW8 r8
  go_wp2
  go_ret
  exact ⟨ret_i64 HV.out.symm, HB.out.trans (b8.mono HB.out.size)⟩
 have hz : (((ms.length : Int) + (ns.length : Int)) == 0) = false := by rw [beq_eq_false_iff_ne]; omega
 rw [if_neg e4] at HR
 clear e4
 cases e5 : clgt o (c.map kap) (d.map kap)
 case true =>
  have HV : Hid (clsR o c d = 1) := by show _ = _; rw [HR.out, e5]; simp
  rw [e5] at HLcd
  clear HR e5
  go_enter Tryz.func16, Tryz.ntmps16
  try rw [h1]
  go_wp2_with fail
  try rw [h1]
  refine (HGG.out _ (Below.refl _ _)).mono ?_
  rintro e W4 ⟨rfl, b4⟩
  go_wp2_with fail
  refine (HEc.out _ b4).mono ?_
  rintro e W5 ⟨rfl, cW5⟩
  have b5 : Below W1.heap.size W1 W5 := b4.trans (cW5.mono b4.size)
  clear cW5
  go_wp2_with fail
  refine (HEd.out _ b5).mono ?_
  rintro e W6 ⟨rfl, cW6⟩
  have b6 : Below W1.heap.size W1 W6 := b5.trans (cW6.mono b5.size)
  clear cW6
  go_wp2_with fail
  refine (HWcd.out _ b6).mono ?_
  rintro e W7 ⟨v7, rfl, r7, cW7⟩
  obtain ⟨a7, k7, rfl, _, _⟩ := r7.slice
  have b7 : Below W1.heap.size W1 W7 := b6.trans (cW7.mono b6.size)
  clear cW7 r7
  go_wp2_with fail
  refine (HWdc.out _ b7).mono ?_
  rintro e W8 ⟨v8, rfl, r8, cW8⟩
  obtain ⟨a8, k8, rfl, _, _⟩ := r8.slice
  have b8 : Below W1.heap.size W1 W8 := b7.trans (cW8.mono b7.size)
  clear cW8 r8
  obtain ⟨g0, g1, g2⟩ := HCC.out W8 b8
  go_wp2_with fail
  refine (HLcd.out _ b8).mono ?_
  rintro e W9 ⟨rfl, cW9⟩
  have b9 : Below W1.heap.size W1 W9 := b8.trans (cW9.mono b8.size)
  clear cW9
  clear g0 g1 g2
  go_wp2
  go_ret
  exact ⟨ret_i64 HV.out.symm, HB.out.trans (b9.mono HB.out.size)⟩
 rw [e5] at HLcd HR
 clear e5
 cases e6 : clgt o (d.map kap) (c.map kap)
 ·have HV : Hid (clsR o c d = 2) := by show _ = _; rw [HR.out, e6]; simp
  rw [e6] at HLdc
  clear HR e6
  go_enter Tryz.func16, Tryz.ntmps16
  try rw [h1]
  go_wp2_with fail
  try rw [h1]
  refine (HGG.out _ (Below.refl _ _)).mono ?_
  rintro e W4 ⟨rfl, b4⟩
  go_wp2_with fail
  refine (HEc.out _ b4).mono ?_
  rintro e W5 ⟨rfl, cW5⟩
  have b5 : Below W1.heap.size W1 W5 := b4.trans (cW5.mono b4.size)
  clear cW5
  go_wp2_with fail
  refine (HEd.out _ b5).mono ?_
  rintro e W6 ⟨rfl, cW6⟩
  have b6 : Below W1.heap.size W1 W6 := b5.trans (cW6.mono b5.size)
  clear cW6
  go_wp2_with fail
  refine (HWcd.out _ b6).mono ?_
  rintro e W7 ⟨v7, rfl, r7, cW7⟩
  obtain ⟨a7, k7, rfl, _, _⟩ := r7.slice
  have b7 : Below W1.heap.size W1 W7 := b6.trans (cW7.mono b6.size)
  clear cW7 r7
  go_wp2_with fail
  refine (HWdc.out _ b7).mono ?_
  rintro e W8 ⟨v8, rfl, r8, cW8⟩
  obtain ⟨a8, k8, rfl, _, _⟩ := r8.slice
  have b8 : Below W1.heap.size W1 W8 := b7.trans (cW8.mono b7.size)
  clear cW8 r8
  obtain ⟨g0, g1, g2⟩ := HCC.out W8 b8
  go_wp2_with fail
  refine (HLcd.out _ b8).mono ?_
  rintro e W9 ⟨rfl, cW9⟩
  have b9 : Below W1.heap.size W1 W9 := b8.trans (cW9.mono b8.size)
  clear cW9
  clear g0 g1 g2
  obtain ⟨g0, g1, g2⟩ := HCC.out W9 b9
  go_wp2_with fail
  refine (HLdc.out _ b9).mono ?_
  rintro e W10 ⟨rfl, cW10⟩
  have b10 : Below W1.heap.size W1 W10 := b9.trans (cW10.mono b9.size)
  clear cW10
  go_wp2
  go_ret
  exact ⟨ret_i64 HV.out.symm, HB.out.trans (b10.mono HB.out.size)⟩
 ·have HV : Hid (clsR o c d = -1) := by show _ = _; rw [HR.out, e6]; simp
  rw [e6] at HLdc
  clear HR e6
  go_enter Tryz.func16, Tryz.ntmps16
  try rw [h1]
  go_wp2_with fail
  try rw [h1]
  refine (HGG.out _ (Below.refl _ _)).mono ?_
  rintro e W4 ⟨rfl, b4⟩
  go_wp2_with fail
  refine (HEc.out _ b4).mono ?_
  rintro e W5 ⟨rfl, cW5⟩
  have b5 : Below W1.heap.size W1 W5 := b4.trans (cW5.mono b4.size)
  clear cW5
  go_wp2_with fail
  refine (HEd.out _ b5).mono ?_
  rintro e W6 ⟨rfl, cW6⟩
  have b6 : Below W1.heap.size W1 W6 := b5.trans (cW6.mono b5.size)
  clear cW6
  go_wp2_with fail
  refine (HWcd.out _ b6).mono ?_
  rintro e W7 ⟨v7, rfl, r7, cW7⟩
  obtain ⟨a7, k7, rfl, _, _⟩ := r7.slice
  have b7 : Below W1.heap.size W1 W7 := b6.trans (cW7.mono b6.size)
  clear cW7 r7
  go_wp2_with fail
  refine (HWdc.out _ b7).mono ?_
  rintro e W8 ⟨v8, rfl, r8, cW8⟩
  obtain ⟨a8, k8, rfl, _, _⟩ := r8.slice
  have b8 : Below W1.heap.size W1 W8 := b7.trans (cW8.mono b7.size)
  clear cW8 r8
  obtain ⟨g0, g1, g2⟩ := HCC.out W8 b8
  go_wp2_with fail
  refine (HLcd.out _ b8).mono ?_
  rintro e W9 ⟨rfl, cW9⟩
  have b9 : Below W1.heap.size W1 W9 := b8.trans (cW9.mono b8.size)
  clear cW9
  clear g0 g1 g2
  obtain ⟨g0, g1, g2⟩ := HCC.out W9 b9
  go_wp2_with fail
  refine (HLdc.out _ b9).mono ?_
  rintro e W10 ⟨rfl, cW10⟩
  have b10 : Below W1.heap.size W1 W10 := b9.trans (cW10.mono b9.size)
  clear cW10
  go_wp2
  go_ret
  exact ⟨ret_i64 HV.out.symm, HB.out.trans (b10.mono HB.out.size)⟩
theorem clauses9_any (o : Od) (vn vw : Value) (c d : List Lt) (vc vd : Value) (w : World) (hg : SgAt w o.g vn vw) (hc : OkC w (c, vc)) (hd : OkC w (d, vd)) :
  Calls Tryz.prog 4 #[oval o vn vw, vc, vd] w fun e w' => e = .returned (.bool true) ∧ Below w.heap.size w w' := by
 have ho := odAt_of hg
 obtain ⟨W1, h1⟩ : ∃ X, w.alloc (.cells #[.bool o.path, vn, vw] 27) = X := ⟨_, rfl⟩
 obtain ⟨W2, h2⟩ : ∃ X, W1.alloc (.cells #[vc, vd] 35) = X := ⟨_, rfl⟩
 have b1 : Below w.heap.size w W1 := by rw [<- h1]; exact below_box _ _
 have b2 : Below W1.heap.size W1 W2 := by rw [<- h2]; exact below_box _ _
 have s1 : W1.heap.size = w.heap.size + 1 := by rw [<- h1]; simp
 obtain ⟨o0, o1, o2⟩ := obox_cells w (.bool o.path) vn vw 27
 rw [h1] at o0 o1 o2
 have b02 : Below w.heap.size w W2 := b1.trans (b2.mono b1.size)
 have hrow := rowC_built W1 [(c, vc), (d, vd)] (by simp)
 have ea : (flC [(c, vc), (d, vd)]).toArray = #[vc, vd] := rfl
 rw [ea, h2] at hrow
 have hli := light_any w _ _ W2 b02 (rdC_of_row hrow (by
  intro p hp
  simp only [List.mem_cons, List.not_mem_nil, or_false] at hp
  rcases hp with rfl | rfl
  ·exact hc
  ·exact hd))
 rw [show [(c, vc), (d, vd)].length = 2 from rfl, s1] at hli
 have HC : Hid (∀ Z, Below W1.heap.size W1 Z -> (Z.cell? ⟨w.heap.size, 0, none⟩ = some (.bool o.path) ∧ Z.cell? ⟨w.heap.size, 1, none⟩ = some vn ∧ Z.cell? ⟨w.heap.size, 2, none⟩ = some vw) ∧ w.heap.size < Z.heap.size) := fun Z hZ => ⟨⟨kc hZ (by omega) o0, kc hZ (by omega) o1, kc hZ (by omega) o2⟩, by have := hZ.size; omega⟩
 have HAl : Hid (∀ Z, Calls Tryz.prog 9 #[] Z fun e Z' => e = .returned (.bool true) ∧ Below Z.heap.size Z Z') := fun Z => alive9_any Z
 have HOw : Hid (∀ Z, Calls Tryz.prog 10 #[oval o vn vw] Z fun e Z' => e = .returned (oval o vn vw) ∧ Below Z.heap.size Z Z') := fun Z => own9_any o vn vw ho.vn ho.vw Z
 have HF : Hid (∀ Z, Below w.heap.size w Z -> (Calls Tryz.prog 15 #[oval o vn vw, vc, vd] Z fun e Z' => e = .returned (.int .i64 (clsR o c d)) ∧ Below Z.heap.size Z Z') ∧ (Calls Tryz.prog 16 #[oval o vn vw, vc, vd] Z fun e Z' => e = .returned (.int .i64 (clsR o c d)) ∧ Below Z.heap.size Z Z')) := fun Z hZ =>
  ⟨oclauses_any w o vn vw ho c d vc vd hc hd Z hZ, rclauses_any w o vn vw ho c d vc vd hc hd Z hZ⟩
 obtain ⟨z1, e1⟩ : ∃ z, clsR o c d = z := ⟨_, rfl⟩
 rw [e1] at HF
 have HB : Hid (Below w.heap.size w W1 ∧ Below W1.heap.size W1 W2) := ⟨b1, b2⟩
 obtain ⟨an, nn, cn, rfl⟩ := ho.vn
 obtain ⟨aw, nw, cw, rfl⟩ := ho.vw
 simp only [OkC] at hc hd
 obtain ⟨ca, cc, rfl⟩ := hc.1.slice
 obtain ⟨da, dc, rfl⟩ := hd.1.slice
 clear e1 b1 b2 b02 hrow ea o0 o1 o2 hc hd ho hg
 go_enter Tryz.func4, Tryz.ntmps4
 try rw [h1]
 go_wp2_with fail
 try rw [h1]
 try rw [h2]
 refine hli.mono ?_
 rintro e W9 ⟨⟨bl, rfl⟩, b9⟩
 have b19 : Below W1.heap.size W1 W9 := HB.out.2.trans (b9.mono HB.out.2.size)
 have b09 : Below w.heap.size w W9 := HB.out.1.trans (b19.mono HB.out.1.size)
 clear hli b9
 cases bl
 ·go_wp2_with fail
  refine (HAl.out W9).mono ?_
  rintro e W10 ⟨rfl, b10⟩
  go_wp2
  go_ret
  exact ⟨rfl, b09.trans (b10.mono b09.size)⟩
 ·have f15 : ∀ Z, Below W9.heap.size W9 Z -> _ := fun Z hZ => (HF.out Z (b09.trans (hZ.mono b09.size))).1
  have f16 : ∀ Z, Below W9.heap.size W9 Z -> _ := fun Z hZ => (HF.out Z (b09.trans (hZ.mono b09.size))).2
  have f9 : ∀ Z, Below W9.heap.size W9 Z -> Calls Tryz.prog 9 #[] Z fun e Z' => e = .returned (.bool true) ∧ Below Z.heap.size Z Z' := fun Z _ => HAl.out Z
  have f10 : ∀ Z, Below W9.heap.size W9 Z -> Calls Tryz.prog 10 #[oval o (.slice an nn cn) (.slice aw nw cw)] Z fun e Z' => e = .returned (oval o (.slice an nn cn) (.slice aw nw cw)) ∧ Below Z.heap.size Z Z' := fun Z _ => HOw.out Z
  obtain ⟨⟨p0, p1, p2⟩, l0⟩ := HC.out W9 b19
  replace p0 := cell_far l0 p0
  replace p1 := cell_far l0 p1
  replace p2 := cell_far l0 p2
  have H09 : Hid (Below w.heap.size w W9) := b09
  clear HF HAl HC HOw b19 b09 l0
  go_wp2
  refine wp_region_far (by kernel_rfl) ?_
  repeat (first | go_big_quiet_step (first | exact calls_far f10 _ | exact calls_far f15 _ | exact calls_far f16 _ | exact calls_far f9 _) | quiet_step (first | exact calls_far f10 _ | exact calls_far f15 _ | exact calls_far f16 _ | exact calls_far f9 _))
  refine wpQuiet_nil ?_
  intro _ hw'
  obtain ⟨pf, rfl⟩ := hw'
  go_wp2
  go_ret
  exact ⟨rfl, H09.out.trans ((below_far W9 pf).mono H09.out.size)⟩
end Go.Proofs.YtglphfhlpobgcaaGreat
