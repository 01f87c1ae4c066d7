import Derived.Test.YtbbfpllffcfmhaaXH
import Derived.Test.YtbbfpllffcfmhaaZB

/-
  enter answers as it should, whatever numbers are free.
-/
namespace Go.Proofs.Ytbbfpllffcfmhaa
open Go.RowKit Go.Maps

theorem enterG_asks (n0 Ba : Nat) (limit : Int) : (enterG n0 Ba limit).Asks 50 (fun v => #[.pointer (some ⟨Ba, 0, none⟩), v]) := by
  intro B s nd W hS hin hfine hcnt
  have hcnt' : s.1.length + 1072741825 ≤ 1073741824 := hcnt
  obtain ⟨free, ⟨bn, br, fv, l, hb⟩, hFr⟩ : ∃ free, BankSt n0 Ba B limit s.1 free W ∧ Fr s.1 free := hS
  obtain ⟨kl, hkl⟩ := nd.key hfine
  show Calls Try.prog 50 #[.pointer (some ⟨Ba, 0, none⟩), nd.val] W fun e W' => e = .returned (.int .i64 (stepG s nd).2) ∧ ∃ B', (∃ free, BankSt n0 Ba B' limit (stepG s nd).1.1 free W' ∧ Fr (stepG s nd).1.1 free) ∧ (∀ r ∈ B', r ∈ B ∨ W.heap.size ≤ r) ∧ Only B W W'
  cases he : entOf s.1 nd with
  | some e =>
    rw [stepG_old he]
    obtain ⟨_, c1, _, _⟩ := hb.cells
    refine (enter_old Ba bn nd.cells (ndCells_len _ _ _ _) e.id W hb.nums.lt c1 (fun X hX => ((((hb.nums.same hX).look keyed82 Try.underlying72 (zero3 _) hkl).1 (.int .i64 e.id) (by rw [numMap_ent, he]; rfl))).1)).mono ?_
    rintro e' W' ⟨h1, h2⟩
    exact ⟨h1, B, ⟨free, ⟨bn, br, fv, l, hb.keep (fun r hr => h2.block r (hb.there r hr))⟩, hFr⟩, fun r hr => .inl hr, Only.of_below h2⟩
  | none =>
    have hn0 : n0 ≤ W.heap.size := by
      have h1 := hb.low Ba (by rw [hb.mine]; simp)
      have h2 := hb.there Ba (by rw [hb.mine]; simp)
      omega
    have htop := hFr.top
    by_cases hf : free = []
    · subst hf
      have hl := hFr.least0
      have hfit : Fit64 ((s.1.length : Int) + 1) := ⟨by omega, by omega⟩
      rw [stepG_new he ⟨hl, hfit⟩]
      refine (enter_gen n0 Ba B limit s.1 [] W bn br fv l nd kl (s.1.length + 1) (fun f => f = []) hb hfine hkl he (by omega) hn0 (fun e he' e2 => hl.2.1 (by rw [← e2]; exact List.mem_map_of_mem he')) s.2.nod hin hfit (fun X hX => (least_new hX (by omega)).mono ?_)).mono ?_
      · rintro e X' ⟨h1, rfl⟩
        exact ⟨[], fv, h1, hX, rfl, Only.refl _ _⟩
      · rintro e W' ⟨h1, B', f', h2, rfl, h3, h4⟩
        exact ⟨h1, B', ⟨[], h2, hFr.new0 nd (by omega)⟩, h3, h4⟩
    · have hmin : ∃ x ∈ free, ∀ y ∈ free, x ≤ y := by
        have hpos : 0 < free.length := List.length_pos_iff.2 hf
        refine ⟨free[0], List.getElem_mem hpos, fun y hy => ?_⟩
        obtain ⟨i, hi, rfl⟩ := List.getElem_of_mem hy
        have := HpF.least hFr.hp i hi
        rwa [fnL_get hi, fnL_get hpos] at this
      obtain ⟨x, hx, hxm⟩ := hmin
      have hl := hFr.least1 hx hxm
      have hfit : Fit64 x := by
        have := (hFr.all x).1 (.inl hx)
        exact ⟨by omega, by omega⟩
      rw [stepG_new he ⟨hl, hfit⟩]
      refine (enter_gen n0 Ba B limit s.1 free W bn br fv l nd kl x (fun f => Hp f ∧ (x :: f).Perm free) hb hfine hkl he (by omega) hn0 (fun e he' e2 => hl.2.1 (by rw [← e2]; exact List.mem_map_of_mem he')) s.2.nod hin hfit (fun X hX => (least_old hX hFr.hp hf (by omega)).mono ?_)).mono ?_
      · rintro e X' ⟨x', f', fv', h1, h2, ⟨h3, _, h5, h6⟩, h7⟩
        have hx' : x' ∈ free := h5.mem_iff.1 List.mem_cons_self
        obtain rfl : x = x' := hl.one (hFr.least1 hx' h6)
        exact ⟨f', fv', h1, h2, ⟨h3, h5⟩, h7⟩
      · rintro e W' ⟨h1, B', f', h2, ⟨h3, h4⟩, h5, h6⟩
        exact ⟨h1, B', ⟨f', h2, hFr.new1 nd h3 h4⟩, h5, h6⟩

end Go.Proofs.Ytbbfpllffcfmhaa

/-
  Make, whatever numbers are free.
-/
namespace Go.Proofs.Ytbbfpllffcfmhaa
open Go.RowKit Go.Maps

theorem GoodF.fits' {es : List Ent} (h : GoodF es) : ∀ e ∈ es, Fit64 e.id := fun _e he => h.fit _ (List.mem_map_of_mem he)

theorem Fr.kept {es : List Ent} {free : List Int} (h : Fr es free) (i : Int) : Fr (es.map (keepE i)) free :=
  ⟨h.hp, by rw [keep_ids, List.length_map]; exact h.all, by rw [keep_ids]; exact h.nod, by rw [List.length_map]; exact h.top⟩

/-- What stays in a bank's neighbourhood. -/
def NearF (n0 Ba : Nat) (B : List Nat) (limit : Int) (es : List Ent) (W w : World) : Prop := ∃ B', (∃ free, BankSt n0 Ba B' limit es free w ∧ Fr es free) ∧ (∀ r ∈ B', r ∈ B ∨ W.heap.size ≤ r) ∧ Only B W w

theorem NearF.of_below {n0 Ba : Nat} {B : List Nat} {limit : Int} {es : List Ent} {W w w' : World} (h : NearF n0 Ba B limit es W w) (hb : Below w.heap.size w w') : NearF n0 Ba B limit es W w' := by
  obtain ⟨B', ⟨f, h1, hf⟩, h2, h3⟩ := h
  exact ⟨B', ⟨f, h1.keep (fun r hr => hb.block r (h1.there r hr).2), hf⟩, h2, h3.trans (Only.of_below (B := B) hb) (fun r hr => .inl hr)⟩

set_option maxRecDepth 100000 in
set_option maxHeartbeats 2000000 in
theorem make_roomF (w0 : World) (n0 Ba : Nat) (B : List Nat) (limit : Int) (s : {es : List Ent // GoodF es}) (t : T) (sl : Value) (W : World) (hn0 : w0.heap.size ≤ n0) (free0 : List Int) (hb : BankSt n0 Ba B limit s.1 free0 W) (hFr : Fr s.1 free0) (hlen : s.1.length ≤ 900000) (hl1 : 1 ≤ limit) (hl2 : limit ≤ 1000000)
    (ha : ArgsAt w0 sl t.args) (hw : Below w0.heap.size w0 W) (hshort : Short t) (hright : t.rightW = 0) (hsh : t.shape = true) (hsz : t.size ≤ 4000) (hroom : (missing s.1 s.2.fits' t : Int) ≤ limit - s.1.length) :
    Calls Try.prog 25 #[.pointer (some ⟨Ba, 0, none⟩), tval t sl] W fun e W' => e = .returned (.tuple #[.int .i64 ((enterG n0 Ba limit).num t s).2, .int .i64 0]) ∧ NearF n0 Ba B limit (((enterG n0 Ba limit).num t s).1.1.map (keepE ((enterG n0 Ba limit).num t s).2)) W W' := by
  obtain ⟨a, c, rfl, hc, hm⟩ := ha.slice
  have hb0 := below_box W (tbox t (.slice a t.args.length c))
  have hN : ∀ r ∈ B, r < W.heap.size := fun r hr => (hb.there r hr).2
  have hnW : n0 ≤ W.heap.size := by
    obtain ⟨bn, br, fv, l, h⟩ := hb
    have h1 := h.low Ba (by rw [h.mine]; simp)
    have h2 := h.there Ba (by rw [h.mine]; simp)
    omega
  have hbN : (W.alloc (tbox t (.slice a t.args.length c))).heap[W.heap.size]? = some (tbox t (.slice a t.args.length c)) := (MapKept.heap_alloc W _).1
  have near0 : NearF n0 Ba B limit s.1 (W.alloc (tbox t (.slice a t.args.length c))) (W.alloc (tbox t (.slice a t.args.length c))) := ⟨B, ⟨free0, hb.keep (fun r hr => hb0.block r (hN r hr)), hFr⟩, fun r hr => .inl hr, Only.refl _ _⟩
  have hw1 : Below w0.heap.size w0 (W.alloc (tbox t (.slice a t.args.length c))) := hw.trans (hb0.mono hw.size)
  have hR := tright_any t (.slice a t.args.length c) _ (ArgsAt.keep hw1 (Nat.le_refl _) ha) hshort
  rw [hright] at hR
  obtain ⟨t0, t1, t2⟩ := tbox_cells W t (.slice a t.args.length c)
  have hsz1 : (W.alloc (tbox t (.slice a t.args.length c))).heap.size = W.heap.size + 1 := by simp
  obtain ⟨W1, hW1⟩ : ∃ W1, W.alloc (tbox t (.slice a t.args.length c)) = W1 := ⟨_, rfl⟩
  rw [hW1] at hR hb0 hbN near0 hw1 t0 t1 t2 hsz1
  have hNear : ∀ X, NearF n0 Ba B limit s.1 W1 X → X.cell? ⟨Ba, 0, none⟩ = some (.int .i64 limit) ∧ X.cell? ⟨W.heap.size, 0, none⟩ = some (.int .i64 t.v) ∧ X.cell? ⟨W.heap.size, 1, none⟩ = some (.string t.fn) ∧ X.cell? ⟨W.heap.size, 2, none⟩ = some (.slice a t.args.length c) ∧ Below w0.heap.size w0 X := by
    rintro X ⟨B', ⟨free, ⟨bn, br, fv, l, h1⟩, hf⟩, h2, h3⟩
    have hx : X.heap[W.heap.size]? = W1.heap[W.heap.size]? := h3.block _ (by omega) (fun h => by have := hN _ h; omega)
    exact ⟨h1.cells.1, (cell_congr hx 0).trans t0, (cell_congr hx 1).trans t1, (cell_congr hx 2).trans t2, hw1.trans (h3.below hw1.size (fun r hr => Nat.le_trans hn0 (hb.there r hr).1))⟩
  have hmiss : ∀ X, NearF n0 Ba B limit s.1 W1 X → Calls Try.prog 48 #[.pointer (some ⟨Ba, 0, none⟩), tval t (.slice a t.args.length c)] X fun e X' => e = .returned (.int .i64 (missing s.1 s.2.fits' t)) ∧ NearF n0 Ba B limit s.1 W1 X' := by
    intro X hX
    obtain ⟨_, _, _, _, hwX⟩ := hNear X hX
    obtain ⟨B', ⟨free, h1, hf⟩, h2, h3⟩ := hX
    refine (missing_any w0 n0 Ba B' limit s.1 free s.2.fits' t _ X hn0 h1 (by have := h3.size; omega) ha hwX hsh (by omega)).mono ?_
    rintro e X' ⟨he, B2, g1, g2, g3⟩
    refine ⟨he, B2, ⟨free, g1, hf⟩, fun r hr => ?_, h3.trans g3 (fun r hr => h2 r hr)⟩
    rcases g2 r hr with h | h
    · exact h2 r h
    · exact .inr (Nat.le_trans h3.size h)
  have hblen : ∀ X, NearF n0 Ba B limit s.1 W1 X → Calls Try.prog 31 #[.pointer (some ⟨Ba, 0, none⟩)] X fun e X' => e = .returned (.int .i64 s.1.length) ∧ X' = X := by
    rintro X ⟨B', ⟨free, ⟨bn, br, fv, l, h1⟩, hf⟩, h2, h3⟩
    exact blen_any h1
  have hnum : ∀ X, NearF n0 Ba B limit s.1 W1 X → Calls Try.prog 49 #[tval t (.slice a t.args.length c), .func (.func 50) #[.pointer (some ⟨Ba, 0, none⟩)] #[]] X fun e X' => e = .returned (.int .i64 ((enterG n0 Ba limit).num t s).2) ∧ ∃ x br, X'.cell? ⟨Ba, 2, none⟩ = some (.map (some br)) ∧ (Instr.lookup 73 (.map (some br)) (.int .i64 ((enterG n0 Ba limit).num t s).2) false).run Try.prog X' = .ok (.pointer (some ⟨x.2, 0, none⟩)) X' ∧ X'.cell? ⟨x.2, 19, none⟩ = some (.int .i64 (x : Ent × Nat).1.kept) ∧ X'.frozen? ⟨x.2, 19, none⟩ = false ∧ Hid (NearF n0 Ba B limit (((enterG n0 Ba limit).num t s).1.1.map (keepE ((enterG n0 Ba limit).num t s).2)) W (X'.setCell ⟨x.2, 19, none⟩ (.int .i64 (wrap64 (x.1.kept + 1))))) := by
    intro X hX
    obtain ⟨_, _, _, _, hwX⟩ := hNear X hX
    obtain ⟨B', h1, h2, h3⟩ := hX
    refine (numEnter_any (enterG n0 Ba limit) w0 hn0 Ba (enterG_asks n0 Ba limit) t B' s _ X h1 ha hwX hsh (by show ((s.1.length + 1072741825 : Nat) : Int) + t.size ≤ 1073741824; omega)).mono ?_
    rintro e X' ⟨he, B2, ⟨free, ⟨bn, br, fv, l, g1⟩, hf⟩, g2, g3⟩
    have hhas : ((enterG n0 Ba limit).num t s).2 ∈ ((enterG n0 Ba limit).num t s).1.1.map (·.id) := ((enterG n0 Ba limit).facts t s).2.1
    have hids : l.map (·.1.id) = ((enterG n0 Ba limit).num t s).1.1.map (·.id) := by rw [← g1.ents, List.map_map]; rfl
    obtain ⟨x, hx, hxi, hone, hrec⟩ := recMap_find l _ (by rw [hids]; exact hhas) (by rw [hids]; exact ((enterG n0 Ba limit).num t s).1.2.nod)
    have hfit := ((enterG n0 Ba limit).num t s).1.2.fit _ hhas
    have hrc := g1.each x hx
    have hgs := World.grownBy_setCell_any X' x.2 19 (.int .i64 (wrap64 (x.1.kept + 1)))
    refine ⟨he, x, br, g1.cells.2.2.1, ((g1.recs.look keyed3 Try.underlying73 (zero85 _) (key3 hfit)).1 _ hrec).2, ?_, by simp [World.frozen?, hrc], B2, ⟨free, ⟨bn, br, fv, _, bank_kept g1 _ x hx hxi hone⟩, hf.kept _⟩, fun r hr => ?_, ?_⟩
    · rw [cell_of_row _ _ _ _ 84 (0, 0) hrc, List.getElem?_toArray]
      exact x.1.cells_kept
    · rcases g2 r hr with h | h
      · rcases h2 r h with h | h
        · exact .inl h
        · exact .inr (by omega)
      · exact .inr (by have := h3.size; omega)
    · have o1 : Only B W W1 := Only.of_below hb0
      have o2 : Only B W1 X' := h3.trans g3 (fun r hr => h2 r hr)
      have o3 : Only [x.2] X' (X'.setCell ⟨x.2, 19, none⟩ (.int .i64 (wrap64 (x.1.kept + 1)))) := Only.of_grown hgs (fun r e => by cases e; simp)
      refine (o1.trans o2 (fun r hr => .inl hr)).trans o3 (fun r hr => ?_)
      cases List.mem_singleton.1 hr
      have hxB : x.2 ∈ B2 := by
        rw [g1.mine]
        simp only [List.mem_cons, List.mem_append, List.mem_map]
        exact .inr (.inr (.inr (.inr ⟨x, hx, rfl⟩)))
      rcases g2 _ hxB with h | h
      · rcases h2 _ h with h | h
        · exact .inl h
        · exact .inr (by omega)
      · exact .inr (by have := h3.size; omega)
  have hdr : ∀ X, NearF n0 Ba B limit s.1 W1 X → NearF n0 Ba B limit s.1 W1 X.drew := fun X hX => hX.of_below (below_drewN (Below.refl _ _) 1)
  have hR' := hR.mono (R' := fun e W2 => e = .returned (.int .i64 0) ∧ Hid (NearF n0 Ba B limit s.1 W1 W2)) (by
    rintro e W2 ⟨he, hb2⟩
    exact ⟨he, near0.of_below hb2⟩)
  clear hR near0 hb0 hw1 hbN hb ha hw hm hnW hsz1 hshort hFr
  obtain ⟨id, hid⟩ : ∃ id, ((enterG n0 Ba limit).num t s).2 = id := ⟨_, rfl⟩
  obtain ⟨es', hes⟩ : ∃ es', ((enterG n0 Ba limit).num t s).1.1 = es' := ⟨_, rfl⟩
  obtain ⟨mi, hmi⟩ : ∃ mi : Nat, missing s.1 s.2.fits' t = mi := ⟨_, rfl⟩
  obtain ⟨n, hn⟩ : ∃ n, s.1.length = n := ⟨_, rfl⟩
  rw [hid, hes] at hnum ⊢
  rw [hmi] at hmiss hroom
  rw [hn] at hblen hroom hlen
  obtain ⟨es, hes0⟩ : ∃ es, s.1 = es := ⟨_, rfl⟩
  rw [hes0] at hblen hmiss hnum hNear hdr hR'
  clear hid hes hmi hn hes0
  have hgt : ¬ (limit - (n : Int) < (mi : Int)) := by omega
  obtain ⟨S, hS⟩ : ∃ S : World → Prop, ∀ X, S X ↔ NearF n0 Ba B limit es W1 X := ⟨_, fun _ => Iff.rfl⟩
  simp only [← hS] at hNear hmiss hblen hnum hdr hR'
  clear hS
  subst hW1
  go_enter Try.func25, Try.ntmps25
  go_wp2_with (first | (go_at_call 8; refine hR'.mono ?_; rintro e W2 ⟨rfl, HW2⟩))
  obtain ⟨n1, n2, n3, n4, _⟩ := hNear _ (hdr _ HW2)
  have hSd := hdr _ HW2
  clear HW2 hR'
  go_region_held3 (fun w => w.cell? ⟨Ba, 0, none⟩ = some (.int .i64 limit) ∧ w.cell? ⟨W.heap.size, 0, none⟩ = some (.int .i64 t.v) ∧ w.cell? ⟨W.heap.size, 1, none⟩ = some (.string t.fn) ∧ w.cell? ⟨W.heap.size, 2, none⟩ = some (.slice a t.args.length c) ∧ Hid (S w)) (first | exact ⟨n1, n2, n3, n4, hSd⟩ | exact HK) (first
    | (go_at_call 48; refine (hmiss _ hSd).mono ?_; rintro e W3 ⟨rfl, HW3⟩; have HK : W3.cell? ⟨Ba, 0, none⟩ = some (.int .i64 limit) ∧ W3.cell? ⟨W.heap.size, 0, none⟩ = some (.int .i64 t.v) ∧ W3.cell? ⟨W.heap.size, 1, none⟩ = some (.string t.fn) ∧ W3.cell? ⟨W.heap.size, 2, none⟩ = some (.slice a t.args.length c) ∧ Hid (S W3) := (fun ⟨q1, q2, q3, q4, _⟩ => ⟨q1, q2, q3, q4, HW3⟩) (hNear _ HW3))
    | (go_at_call 31; refine (hblen _ HW3).mono ?_; rintro e W4 ⟨rfl, rfl⟩))
  obtain ⟨m1, m2, m3, m4, _⟩ := hNear _ HW3
  have hnum' := hnum _ HW3
  have hwr : IntKind.i64.wrap (limit - (n : Int)) = limit - n := wrap_small _ (by omega) (by omega)
  clear hnum hmiss hblen hdr hNear HK hSd n1 n2 n3 n4
  go_wp2_with (first | (go_at_call 49; refine hnum'.mono ?_; rintro e W5 ⟨rfl, x, br, q1, q2, q3, q4, HQ⟩))
  go_ret2
  exact ⟨rfl, HQ⟩

end Go.Proofs.Ytbbfpllffcfmhaa

/-
  Make, where there is no room.
-/
namespace Go.Proofs.Ytbbfpllffcfmhaa
open Go.RowKit Go.Maps

theorem hidF {p : Prop} (h : p) : Hid p := h

set_option maxRecDepth 100000 in
set_option maxHeartbeats 2000000 in
theorem make_fullF (w0 : World) (n0 Ba : Nat) (B : List Nat) (limit : Int) (s : {es : List Ent // GoodF es}) (t : T) (sl : Value) (W : World) (hn0 : w0.heap.size ≤ n0) (free0 : List Int) (hb : BankSt n0 Ba B limit s.1 free0 W) (hFr : Fr s.1 free0) (hlen : s.1.length ≤ 900000) (hcap : (s.1.length : Int) ≤ limit) (hl1 : 1 ≤ limit) (hl2 : limit ≤ 1000000)
    (ha : ArgsAt w0 sl t.args) (hw : Below w0.heap.size w0 W) (hshort : Short t) (hright : t.rightW = 0) (hsh : t.shape = true) (hsz : t.size ≤ 4000) (hroom : limit - s.1.length < (missing s.1 s.2.fits' t : Int)) :
    Calls Try.prog 25 #[.pointer (some ⟨Ba, 0, none⟩), tval t sl] W fun e W' => e = .returned (.tuple #[.int .i64 0, .int .i64 5]) ∧ NearF n0 Ba B limit s.1 W W' := by
  obtain ⟨a, c, rfl, hc, hm⟩ := ha.slice
  have hb0 := below_box W (tbox t (.slice a t.args.length c))
  have hN : ∀ r ∈ B, r < W.heap.size := fun r hr => (hb.there r hr).2
  have hnW : n0 ≤ W.heap.size := by
    obtain ⟨bn, br, fv, l, h⟩ := hb
    have h1 := h.low Ba (by rw [h.mine]; simp)
    have h2 := h.there Ba (by rw [h.mine]; simp)
    omega
  have hbN : (W.alloc (tbox t (.slice a t.args.length c))).heap[W.heap.size]? = some (tbox t (.slice a t.args.length c)) := (MapKept.heap_alloc W _).1
  have near0 : NearF n0 Ba B limit s.1 (W.alloc (tbox t (.slice a t.args.length c))) (W.alloc (tbox t (.slice a t.args.length c))) := ⟨B, ⟨free0, hb.keep (fun r hr => hb0.block r (hN r hr)), hFr⟩, fun r hr => .inl hr, Only.refl _ _⟩
  have hw1 : Below w0.heap.size w0 (W.alloc (tbox t (.slice a t.args.length c))) := hw.trans (hb0.mono hw.size)
  have hR := tright_any t (.slice a t.args.length c) _ (ArgsAt.keep hw1 (Nat.le_refl _) ha) hshort
  rw [hright] at hR
  obtain ⟨t0, t1, t2⟩ := tbox_cells W t (.slice a t.args.length c)
  have hsz1 : (W.alloc (tbox t (.slice a t.args.length c))).heap.size = W.heap.size + 1 := by simp
  obtain ⟨W1, hW1⟩ : ∃ W1, W.alloc (tbox t (.slice a t.args.length c)) = W1 := ⟨_, rfl⟩
  rw [hW1] at hR hb0 hbN near0 hw1 t0 t1 t2 hsz1
  have hNear : ∀ X, NearF n0 Ba B limit s.1 W1 X → X.cell? ⟨Ba, 0, none⟩ = some (.int .i64 limit) ∧ X.cell? ⟨W.heap.size, 0, none⟩ = some (.int .i64 t.v) ∧ X.cell? ⟨W.heap.size, 1, none⟩ = some (.string t.fn) ∧ X.cell? ⟨W.heap.size, 2, none⟩ = some (.slice a t.args.length c) ∧ Below w0.heap.size w0 X := by
    rintro X ⟨B', ⟨free, ⟨bn, br, fv, l, h1⟩, hf⟩, h2, h3⟩
    have hx : X.heap[W.heap.size]? = W1.heap[W.heap.size]? := h3.block _ (by omega) (fun h => by have := hN _ h; omega)
    exact ⟨h1.cells.1, (cell_congr hx 0).trans t0, (cell_congr hx 1).trans t1, (cell_congr hx 2).trans t2, hw1.trans (h3.below hw1.size (fun r hr => Nat.le_trans hn0 (hb.there r hr).1))⟩
  have hmiss : ∀ X, NearF n0 Ba B limit s.1 W1 X → Calls Try.prog 48 #[.pointer (some ⟨Ba, 0, none⟩), tval t (.slice a t.args.length c)] X fun e X' => e = .returned (.int .i64 (missing s.1 s.2.fits' t)) ∧ NearF n0 Ba B limit s.1 W1 X' := by
    intro X hX
    obtain ⟨_, _, _, _, hwX⟩ := hNear X hX
    obtain ⟨B', ⟨free, h1, hf⟩, h2, h3⟩ := hX
    refine (missing_any w0 n0 Ba B' limit s.1 free s.2.fits' t _ X hn0 h1 (by have := h3.size; omega) ha hwX hsh (by omega)).mono ?_
    rintro e X' ⟨he, B2, g1, g2, g3⟩
    refine ⟨he, B2, ⟨free, g1, hf⟩, fun r hr => ?_, h3.trans g3 (fun r hr => h2 r hr)⟩
    rcases g2 r hr with h | h
    · exact h2 r h
    · exact .inr (Nat.le_trans h3.size h)
  have hblen : ∀ X, NearF n0 Ba B limit s.1 W1 X → Calls Try.prog 31 #[.pointer (some ⟨Ba, 0, none⟩)] X fun e X' => e = .returned (.int .i64 s.1.length) ∧ X' = X := by
    rintro X ⟨B', ⟨free, ⟨bn, br, fv, l, h1⟩, hf⟩, h2, h3⟩
    exact blen_any h1
  have hend : ∀ X, NearF n0 Ba B limit s.1 W1 X → NearF n0 Ba B limit s.1 W X := by
    rintro X ⟨B', h1, h2, h3⟩
    exact ⟨B', h1, fun r hr => (h2 r hr).imp id (fun h => by omega), (Only.of_below (B := B) hb0).trans h3 (fun r hr => .inl hr)⟩
  have hdr : ∀ X, NearF n0 Ba B limit s.1 W1 X → NearF n0 Ba B limit s.1 W1 X.drew := fun X hX => hX.of_below (below_drewN (Below.refl _ _) 1)
  have hR' := hR.mono (R' := fun e W2 => e = .returned (.int .i64 0) ∧ Hid (NearF n0 Ba B limit s.1 W1 W2)) (by
    rintro e W2 ⟨he, hb2⟩
    exact ⟨he, near0.of_below hb2⟩)
  clear hR near0 hb0 hw1 hbN hb ha hw hm hnW hsz1 hshort hFr
  obtain ⟨mi, hmi⟩ : ∃ mi : Nat, missing s.1 s.2.fits' t = mi := ⟨_, rfl⟩
  obtain ⟨n, hn⟩ : ∃ n, s.1.length = n := ⟨_, rfl⟩
  rw [hmi] at hmiss hroom
  rw [hn] at hblen hroom hlen hcap
  obtain ⟨es, hes0⟩ : ∃ es, s.1 = es := ⟨_, rfl⟩
  rw [hes0] at hblen hmiss hend hNear hdr hR' ⊢
  clear hmi hn hes0
  have hgt : limit - (n : Int) < (mi : Int) := by omega
  have HEnd := hidF hend
  clear hend
  obtain ⟨S, hS⟩ : ∃ S : World → Prop, ∀ X, S X ↔ NearF n0 Ba B limit es W1 X := ⟨_, fun _ => Iff.rfl⟩
  simp only [← hS] at hNear hmiss hblen hdr hR' HEnd
  clear hS
  subst hW1
  go_enter Try.func25, Try.ntmps25
  go_wp2_with (first | (go_at_call 8; refine hR'.mono ?_; rintro e W2 ⟨rfl, HW2⟩))
  obtain ⟨n1, n2, n3, n4, _⟩ := hNear _ (hdr _ HW2)
  have hSd := hdr _ HW2
  clear HW2 hR'
  go_region_held3 (fun w => w.cell? ⟨Ba, 0, none⟩ = some (.int .i64 limit) ∧ w.cell? ⟨W.heap.size, 0, none⟩ = some (.int .i64 t.v) ∧ w.cell? ⟨W.heap.size, 1, none⟩ = some (.string t.fn) ∧ w.cell? ⟨W.heap.size, 2, none⟩ = some (.slice a t.args.length c) ∧ Hid (S w)) (first | exact ⟨n1, n2, n3, n4, hSd⟩ | exact HK) (first
    | (go_at_call 48; refine (hmiss _ hSd).mono ?_; rintro e W3 ⟨rfl, HW3⟩; have HK : W3.cell? ⟨Ba, 0, none⟩ = some (.int .i64 limit) ∧ W3.cell? ⟨W.heap.size, 0, none⟩ = some (.int .i64 t.v) ∧ W3.cell? ⟨W.heap.size, 1, none⟩ = some (.string t.fn) ∧ W3.cell? ⟨W.heap.size, 2, none⟩ = some (.slice a t.args.length c) ∧ Hid (S W3) := (fun ⟨q1, q2, q3, q4, _⟩ => ⟨q1, q2, q3, q4, HW3⟩) (hNear _ HW3))
    | (go_at_call 31; refine (hblen _ HW3).mono ?_; rintro e W4 ⟨rfl, rfl⟩))
  obtain ⟨m1, m2, m3, m4, _⟩ := hNear _ HW3
  have HQ := hidF (HEnd.out _ HW3)
  have hwr : IntKind.i64.wrap (limit - (n : Int)) = limit - n := wrap_small _ (by omega) (by omega)
  clear hmiss hblen hdr hNear HK hSd n1 n2 n3 n4
  go_wp2
  go_ret2
  exact ⟨rfl, HQ⟩

end Go.Proofs.Ytbbfpllffcfmhaa
