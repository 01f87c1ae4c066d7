import Derived.Test.YthkinkcpfcpehaaGreatDoorLF
import Derived.Deep.RegionHeld3
import Derived.Maps.OwnSet
import Derived.Deep.MidRow
import Derived.Deep.WholeRow
namespace Go.Proofs.YthkinkcpfcpehaaGreatDoor.Lx
set_option maxRecDepth 100000
set_option maxHeartbeats 4000000
section
open Go.RowKit Go.Shelf
theorem u8_ne {c k : UInt8} {z : Int} (hz : z = k.toNat) (h : c ≠ k) : ((c.toNat : Int) == z) = false := by
  subst hz
  rw [beq_eq_false_iff_ne]
  intro e
  exact h (UInt8.toNat_inj.1 (by omega))
theorem u8_eq {c k : UInt8} {z : Int} (hz : z = k.toNat) (h : c = k) : ((c.toNat : Int) == z) = true := by
  subst hz; subst h; simp
def cl (i : Nat) (o : Option (List UInt8 × Nat)) : Int := match o with
  | none => -1
  | some p => i + p.2 - 1
theorem cl_map (i d : Nat) (f : List UInt8 → List UInt8) (o : Option (List UInt8 × Nat)) : cl i (o.map fun p => (f p.1, p.2 + d)) = cl (i + d) o := by
  cases o with
  | none => rfl
  | some p => simp [cl]; omega
set_option maxRecDepth 100000 in
theorem closing_any (s : ByteArray) (w : World) (hp : 0 < s.size) (hs : s.size ≤ 2097154) : Calls Tryz.prog 193 #[.string s] w fun e w' => e = .returned (.int .i64 (cl 1 (qs (s.data.toList.drop 1)))) ∧ w' = w := by
  have HP : Hid (0 < s.size) := hp
  clear hp
  go_enter Tryz.func193, Tryz.ntmps193
  go_wp2
  go_loopw [3] (fun vi wr => ∃ i : Nat, vi = .int .i64 i ∧ i ≤ s.size ∧ wr = w ∧ Hid (cl i (qs (s.data.toList.drop i)) = cl 1 (qs (s.data.toList.drop 1)))) (fun vi _ => s.size - (intOf vi).toNat)
  case atStart => exact ⟨1, rfl, HP.out, rfl, rfl⟩
  case round =>
    obtain ⟨i, rfl, hi, rfl, HI⟩ := hrel
    by_cases hlt : i < s.size
    · have HD : Hid (s.data.toList.drop i = s[i] :: s.data.toList.drop (i + 1)) := drop_cons s i hlt
      by_cases h1 : s[i] = 39
      · have g1 : ((s[i].toNat : Int) == 39) = true := u8_eq (k := 39) rfl h1
        have HF : Hid (cl 1 (qs (s.data.toList.drop 1)) = i) := by show _ = _; rw [← HI.out, HD.out, h1, qs_end]; simp [cl]
        clear h1
        go_wp2_with (first | (go_at_call 156; refine (printable_any _ _).mono ?_; rintro e wq ⟨rfl, rfl⟩) | (go_at_call 182; refine (escaped_any _ _).mono ?_; rintro e wq ⟨rfl, rfl⟩))
        go_ret
        exact ⟨ret_i64 HF.out.symm, rfl⟩
      · have g1 : ((s[i].toNat : Int) == 39) = false := u8_ne (k := 39) rfl h1
        cases h2 : prB s[i].toNat
        · have HF : Hid (cl 1 (qs (s.data.toList.drop 1)) = -1) := by show _ = _; rw [← HI.out, HD.out, qs_bad _ h1 h2]; rfl
          clear h1
          go_wp2_with (first | (go_at_call 156; refine (printable_any _ _).mono ?_; rintro e wq ⟨rfl, rfl⟩) | (go_at_call 182; refine (escaped_any _ _).mono ?_; rintro e wq ⟨rfl, rfl⟩))
          go_ret
          exact ⟨ret_i64 HF.out.symm, rfl⟩
        · by_cases h3 : s[i] = 92
          · have g3 : ((s[i].toNat : Int) == 92) = true := u8_eq (k := 92) rfl h3
            by_cases hl2 : i + 1 < s.size
            · have HD2 : Hid (s.data.toList.drop (i + 1) = s[i + 1] :: s.data.toList.drop (i + 1 + 1)) := drop_cons s (i + 1) hl2
              have hE : (((i : Int) + 1) == (s.size : Int)) = false := by rw [beq_eq_false_iff_ne]; omega
              cases h4 : esB s[i + 1].toNat
              · have HF : Hid (cl 1 (qs (s.data.toList.drop 1)) = -1) := by show _ = _; rw [← HI.out, HD.out, h3, HD2.out, qs_esc_no _ h4]; rfl
                clear h1 h3
                go_wp2_with (first | (go_at_call 156; refine (printable_any _ _).mono ?_; rintro e wq ⟨rfl, rfl⟩) | (go_at_call 182; refine (escaped_any _ _).mono ?_; rintro e wq ⟨rfl, rfl⟩))
                go_ret
                exact ⟨ret_i64 HF.out.symm, rfl⟩
              · have HF : Hid (cl (i + 2) (qs (s.data.toList.drop (i + 2))) = cl 1 (qs (s.data.toList.drop 1))) := by show _ = _; rw [← HI.out, HD.out, h3, HD2.out, qs_esc _ h4, cl_map]
                clear h1 h3
                go_wp2_with (first | (go_at_call 156; refine (printable_any _ _).mono ?_; rintro e wq ⟨rfl, rfl⟩) | (go_at_call 182; refine (escaped_any _ _).mono ?_; rintro e wq ⟨rfl, rfl⟩))
                go_roundw
                case rel => exact ⟨i + 2, by go_num, by omega, by simp, HF.out⟩
                case measure => simp [intOf]; omega
            · have hE : (((i : Int) + 1) == (s.size : Int)) = true := by rw [beq_iff_eq]; omega
              have HF : Hid (cl 1 (qs (s.data.toList.drop 1)) = -1) := by show _ = _; rw [← HI.out, HD.out, h3, drop_end s (i + 1) (by omega), qs_esc_nil]; rfl
              clear h1 h3
              go_wp2_with (first | (go_at_call 156; refine (printable_any _ _).mono ?_; rintro e wq ⟨rfl, rfl⟩) | (go_at_call 182; refine (escaped_any _ _).mono ?_; rintro e wq ⟨rfl, rfl⟩))
              go_ret
              exact ⟨ret_i64 HF.out.symm, rfl⟩
          · have g3 : ((s[i].toNat : Int) == 92) = false := u8_ne (k := 92) rfl h3
            have HF : Hid (cl (i + 1) (qs (s.data.toList.drop (i + 1))) = cl 1 (qs (s.data.toList.drop 1))) := by show _ = _; rw [← HI.out, HD.out, qs_one _ h1 h2 h3, cl_map]
            clear h1 h3
            go_wp2_with (first | (go_at_call 156; refine (printable_any _ _).mono ?_; rintro e wq ⟨rfl, rfl⟩) | (go_at_call 182; refine (escaped_any _ _).mono ?_; rintro e wq ⟨rfl, rfl⟩))
            go_roundw
            case rel => exact ⟨i + 1, by go_num, by omega, by simp, HF.out⟩
            case measure => simp [intOf]; omega
    · have HF : Hid (cl 1 (qs (s.data.toList.drop 1)) = -1) := by show _ = _; rw [← HI.out, drop_end s i (by omega), qs_nil]; rfl
      go_wp2
      go_ret
      exact ⟨ret_i64 HF.out.symm, rfl⟩
set_option maxRecDepth 100000 in
theorem unquoted_any (s : ByteArray) (n : List UInt8) (w : World) (hn : uq s.data.toList = some n) (hs : s.size ≤ 2097154) : Calls Tryz.prog 194 #[.string s] w fun e w' => e = .returned (.string (ofL n)) ∧ Below w.heap.size w w' := by
  have HU : Hid (uq s.data.toList = some n) := hn
  have HN : Hid (Bd w.heap.size [] w (w.alloc (.cells #[.pointer none, .slice none 0 0] 72))) := Bd.new w
  clear hn
  go_enter Tryz.func194, Tryz.ntmps194
  go_wp2
  go_loopw [4] (fun vi wr => ∃ i : Nat, vi = .int .i64 i ∧ i ≤ s.size ∧ Hid (∃ acc r, Bd w.heap.size acc w wr ∧ uq (s.data.toList.drop i) = some r ∧ acc ++ r = n ∧ acc.length ≤ i)) (fun vi _ => s.size - (intOf vi).toNat)
  case atStart => exact ⟨0, rfl, Nat.zero_le _, [], n, HN.out, by rw [List.drop_zero]; exact HU.out, rfl, Nat.le_refl _⟩
  case round =>
    obtain ⟨i, rfl, hi, acc, r, hB, hr, hacc, hl⟩ := hrel
    have HB : Hid (Bd w.heap.size acc w wr ∧ acc.length ≤ i) := ⟨hB, hl⟩
    have HA : Hid (acc ++ r = n) := hacc
    clear hB hl hacc
    by_cases hlt : i < s.size
    · rw [drop_cons s i hlt] at hr
      by_cases h3 : s[i] = 92
      · have g3 : ((s[i].toNat : Int) == 92) = true := u8_eq (k := 92) rfl h3
        rw [h3] at hr
        clear h3
        by_cases hl2 : i + 1 < s.size
        · rw [drop_cons s (i + 1) hl2, uq_esc] at hr
          obtain ⟨r', h5, h6⟩ := Option.map_eq_some_iff.1 hr
          have HR : Hid (uq (s.data.toList.drop (i + 2)) = some r' ∧ r = s[i + 1] :: r') := ⟨h5, h6.symm⟩
          clear hr h5 h6
          go_wp2_with fail
          refine (HB.out.1.write s[i + 1] (by have := HB.out.2; omega)).mono ?_
          rintro e W2 ⟨rfl, h2⟩
          have HB2 : Hid (∃ acc r, Bd w.heap.size acc w W2 ∧ uq (s.data.toList.drop (i + 2)) = some r ∧ acc ++ r = n ∧ acc.length ≤ i + 2) := ⟨_, r', h2, HR.out.1, by rw [← HA.out, HR.out.2]; simp, by have := HB.out.2; simp; omega⟩
          clear h2
          go_wp2
          go_roundw
          case rel => exact ⟨i + 2, by go_num, by omega, HB2.out⟩
          case measure => simp [intOf]; omega
        · rw [drop_end s (i + 1) (by omega), uq_esc_nil] at hr
          cases hr
      · have g3 : ((s[i].toNat : Int) == 92) = false := u8_ne (k := 92) rfl h3
        rw [uq_one _ h3] at hr
        obtain ⟨r', h5, h6⟩ := Option.map_eq_some_iff.1 hr
        have HR : Hid (uq (s.data.toList.drop (i + 1)) = some r' ∧ r = s[i] :: r') := ⟨h5, h6.symm⟩
        clear hr h5 h6 h3
        go_wp2_with fail
        refine (HB.out.1.write s[i] (by have := HB.out.2; omega)).mono ?_
        rintro e W2 ⟨rfl, h2⟩
        have HB2 : Hid (∃ acc r, Bd w.heap.size acc w W2 ∧ uq (s.data.toList.drop (i + 1)) = some r ∧ acc ++ r = n ∧ acc.length ≤ i + 1) := ⟨_, r', h2, HR.out.1, by rw [← HA.out, HR.out.2]; simp, by have := HB.out.2; simp; omega⟩
        clear h2
        go_wp2
        go_roundw
        case rel => exact ⟨i + 1, by go_num, by omega, HB2.out⟩
        case measure => simp [intOf]; omega
    · rw [drop_end s i (by omega), uq_nil] at hr
      cases hr
      go_wp2_with fail
      refine HB.out.1.string.mono ?_
      rintro e W3 ⟨rfl, h3⟩
      go_wp2
      go_ret
      refine ⟨ret_str ?_, h3⟩
      rw [← HA.out]; simp
end
section
open Go.RowKit Go.Shelf
theorem below_box (w : World) (o : Obj) : Below w.heap.size w (w.alloc o) := (Below.refl _ _).alloc (Nat.le_refl _) _
theorem below_box2 (w : World) (o1 o2 : Obj) : Below w.heap.size w ((w.alloc o1).alloc o2) := ((Below.refl _ _).alloc (Nat.le_refl _) _).alloc (by simp) _
theorem kc {A B : World} {n : Nat} (h : Below n A B) {b o : Nat} {v : Value} (hb : b < n) (c : A.cell? ⟨b, o, none⟩ = some v) : B.cell? ⟨b, o, none⟩ = some v := (h.cell (p := ⟨b, o, none⟩) hb).trans c
theorem cell_at {W : World} {b o : Nat} {l : Array Value} {ty : TypeId} {v : Value} (h : W.heap[b]? = some (.cells l ty (0, 0))) (hv : l[o]? = some v) : W.cell? ⟨b, o, none⟩ = some v := by
  simp [World.cell?, h, hv]
structure Only (B : List Nat) (w w' : World) : Prop where
  os : w'.os = w.os
  tape : w'.tape = w.tape
  output : w'.output = w.output
  size : w.heap.size ≤ w'.heap.size
  block : ∀ k, k < w.heap.size → k ∉ B → w'.heap[k]? = w.heap[k]?
theorem Only.refl (B : List Nat) (w : World) : Only B w w := ⟨rfl, rfl, rfl, Nat.le_refl _, fun _ _ _ => rfl⟩
/-- Behind one another, where the second's blocks are the first's, or new. -/
theorem Only.trans {B B' : List Nat} {x y z : World} (h : Only B x y) (k : Only B' y z) (hB : ∀ r ∈ B', r ∈ B ∨ x.heap.size ≤ r) : Only B x z :=
  ⟨k.os.trans h.os, k.tape.trans h.tape, k.output.trans h.output, Nat.le_trans h.size k.size, fun i hi hn => (k.block i (Nat.lt_of_lt_of_le hi h.size) (fun hm => by
    rcases hB i hm with h' | h'
    · exact hn h'
    · omega)).trans (h.block i hi hn)⟩
theorem Only.below {B : List Nat} {w w' : World} {n : Nat} (h : Only B w w') (hn : n ≤ w.heap.size) (hB : ∀ r ∈ B, n ≤ r) : Below n w w' :=
  ⟨h.os, h.tape, h.output, h.size, fun k hk => h.block k (by omega) (fun hm => by have := hB k hm; omega)⟩
theorem only_setCell (W : World) (p o : Nat) (v : Value) : Only [p] W (W.setCell ⟨p, o, none⟩ v) :=
  ⟨rfl, rfl, rfl, by simp, fun k _ hn => Below.heap_setCell _ _ _ k (by simpa using hn)⟩
/-- Cells in the midst of a block are put. -/
theorem heap_put (b : Nat) (ty : TypeId) : ∀ (vs : List Value) (o : Nat) (w : World) (cur : Array Value), w.heap[b]? = some (.cells cur ty (0, 0)) → o + vs.length ≤ cur.size →
    ∃ cur' : Array Value, (w.setCells b o vs).heap[b]? = some (.cells cur' ty (0, 0)) ∧ cur'.toList = cur.toList.take o ++ vs ++ cur.toList.drop (o + vs.length) ∧ Only [b] w (w.setCells b o vs)
  | [], o, w, cur, h, _ => ⟨cur, h, by simp, Only.refl _ _⟩
  | v :: r, o, w, cur, h, hl => by
    have h1 := Go.heap_setCell_same w b o cur ty v h
    have hlo : o < cur.toList.length := by simp at hl ⊢; omega
    obtain ⟨cur', g1, g2, g3⟩ := heap_put b ty r (o + 1) _ _ h1 (by simp at hl ⊢; omega)
    refine ⟨cur', g1, ?_, (only_setCell w b o v).trans g3 (by simp)⟩
    rw [g2]
    have e : (cur.setIfInBounds o v).toList = cur.toList.take o ++ v :: cur.toList.drop (o + 1) := by
      rw [Array.toList_setIfInBounds, List.set_eq_take_append_cons_drop, if_pos hlo]
    have hto : (cur.toList.take o).length = o := by rw [List.length_take]; omega
    rw [e]
    have e1 : (cur.toList.take o ++ v :: cur.toList.drop (o + 1)).take (o + 1) = cur.toList.take o ++ [v] := by
      rw [List.take_append, hto, List.take_of_length_le (by omega)]
      simp
    have e2 : (cur.toList.take o ++ v :: cur.toList.drop (o + 1)).drop (o + 1 + r.length) = cur.toList.drop (o + (v :: r).length) := by
      rw [List.drop_append, hto, List.drop_eq_nil_of_le (by omega), List.nil_append, show o + 1 + r.length - o = r.length + 1 by omega, List.drop_succ_cons, List.drop_drop]
      congr 1
      simp
      omega
    rw [e1, e2]
    simp
/-- A thing of several cells is stored into its box. -/
theorem agg_store (ty : TypeId) (Y : World) (bx : Nat) (cur : Array Value) (vs : List Value) (h : Y.heap[bx]? = some (.cells cur ty (0, 0))) (hl : cur.size = vs.length) (hi : (Tryz.prog.info? ty).map (·.size) = some vs.length) (h1 : ∀ u ∈ vs, u.oneCell' = true) :
    ∃ Y', (Instr.storeAt ty (.pointer (some ⟨bx, 0, none⟩)) (.agg vs.toArray)).run Tryz.prog Y = .ok () Y' ∧ Y'.heap[bx]? = some (.cells vs.toArray ty (0, 0)) ∧ Only [bx] Y Y' := by
  obtain ⟨cur', p1, p2, p3⟩ := heap_put bx ty vs 0 Y _ h (by omega)
  have hr := run_storeAt_mid (P := Tryz.prog) Y bx 0 ty vs.toArray (fun j hj => by
    have hj3 : j < cur.size := by rw [hl]; simpa using hj
    simp [World.cell?, World.frozen?, h, hj3]) (by simpa using hi) (all_oneCell_toArray h1)
  have e : cur' = vs.toArray := by
    apply Array.toList_inj.1
    rw [p2]
    have : cur.toList.drop (0 + vs.length) = [] := List.drop_eq_nil_of_le (by simp [hl])
    rw [this]
    simp
  rw [e] at p1
  exact ⟨_, hr, p1, p3⟩
/-- wpAnyH_take, the operation laid out. -/
theorem take_mk {P : Program} {md : Region.Mode} {ops : Array Oper} {Q : Exit → Act → World → Prop} {S : World → Prop} (i : Nat) (v : Value) {d : Option Tmp} {op : Op} {ty : TypeId} {pos : String} {aft} {gd} {fuel : Nat} {listed : Array Bool} {a : Act} {w : World} (hi : ops[i]? = some ⟨d, op, ty, pos, aft, gd⟩)
    (hs : Region.noSelect ops = true) (hf : Region.free md ops listed i = true) (hr : (Region.ready md ops listed).contains i = true)
    (hQ : ∀ c a w, Q (.panic c) (a.put d v) w → Q (.panic c) a w) (hy : YieldsIf P ops S ⟨d, op, ty, pos, aft, gd⟩ v a) (hS : S w)
    (h : wpAnyH P md ops Q S fuel (listed.setIfInBounds i true) (a.put d v) w) : wpAnyH P md ops Q S (fuel + 1) listed a w :=
  wpAnyH_take hi hs hf hr hQ hy hS h
/-- A store, by its run. -/
theorem wp_store_run {op : Oper} {a : Act} {w w' : World} {K : Act → World → Prop} {Q : Exit → Act → World → Prop} (ty : TypeId) (x y : Operand) (ho : op.op = .store ty x y) (xv yv : Value) (hx : a.eval x = xv) (hy : a.eval y = yv)
    (hrun : (Instr.storeAt ty xv yv).run Tryz.prog w = .ok () w') (h : K (a.put op.dst undef) w') : Oper.wp Tryz.prog op a w K Q := by
  unfold Oper.wp execOp
  simp only [ho, hx, hy, Sem.run_bind, hrun, Result.andThen_ok, Sem.run_pure]
  exact h
theorem wpList_store_run {ops : Array Oper} {rest : List Oper} {op : Oper} {a : Act} {w w' : World} {Q : Exit → Act → World → Prop} (hgd : op.guard = none) (ty : TypeId) (x y : Operand) (ho : op.op = .store ty x y) (xv yv : Value) (hx : a.eval x = xv) (hy : a.eval y = yv)
    (hrun : (Instr.storeAt ty xv yv).run Tryz.prog w = .ok () w') (h : wpList Tryz.prog ops Q rest (a.put op.dst undef) w') : wpList Tryz.prog ops Q (op :: rest) a w :=
  wpList_plain hgd fun _ hK => wp_store_run ty x y ho xv yv hx hy hrun (hK _ _ h)
/-- How many blanks open a text. -/
def sk : List UInt8 → Nat
  | [] => 0
  | c :: r => if c = 32 ∨ c = 9 ∨ c = 13 then sk r + 1 else if c = 37 then r.length + 1 else 0
theorem sk_le : ∀ l : List UInt8, sk l ≤ l.length
  | [] => Nat.le_refl _
  | c :: r => by
    have := sk_le r
    unfold sk
    split
    · simp; omega
    · split <;> simp
set_option maxRecDepth 100000 in
theorem skip_any (s : ByteArray) (k : Nat) (w : World) (hk : k ≤ s.size) (hs : s.size ≤ 2097154) : Calls Tryz.prog 128 #[.string s, .int .i64 (k : Nat)] w fun e w' => e = .returned (.int .i64 ((k + sk (s.data.toList.drop k) : Nat) : Nat)) ∧ w' = w := by
  have HK : Hid (k ≤ s.size) := hk
  clear hk
  go_enter Tryz.func128, Tryz.ntmps128
  go_wp2
  go_loopw [1] (fun vi wr => ∃ i : Nat, vi = .int .i64 i ∧ i ≤ s.size ∧ wr = w ∧ Hid (k + sk (s.data.toList.drop k) = i + sk (s.data.toList.drop i))) (fun vi _ => s.size - (intOf vi).toNat)
  case atStart => exact ⟨k, rfl, HK.out, rfl, rfl⟩
  case round =>
    obtain ⟨i, rfl, hi, rfl, HI⟩ := hrel
    by_cases hlt : i < s.size
    · have HD : Hid (s.data.toList.drop i = s[i] :: s.data.toList.drop (i + 1)) := drop_cons s i hlt
      by_cases hb : s[i] = 32 ∨ s[i] = 9 ∨ s[i] = 13
      · have HF : Hid (k + sk (s.data.toList.drop k) = i + 1 + sk (s.data.toList.drop (i + 1))) := by show _ = _; rw [HI.out, HD.out, sk, if_pos hb]; omega
        by_cases h1 : s[i] = 32
        · have g1 : ((s[i].toNat : Int) == 32) = true := u8_eq (k := 32) rfl h1
          clear hb h1
          go_wp2
          go_roundw
          case rel => exact ⟨i + 1, by go_num, by omega, by simp, HF.out⟩
          case measure => simp [intOf]; omega
        · have g1 : ((s[i].toNat : Int) == 32) = false := u8_ne (k := 32) rfl h1
          by_cases h2 : s[i] = 9
          · have g2 : ((s[i].toNat : Int) == 9) = true := u8_eq (k := 9) rfl h2
            clear hb h1 h2
            go_wp2
            go_roundw
            case rel => exact ⟨i + 1, by go_num, by omega, by simp, HF.out⟩
            case measure => simp [intOf]; omega
          · have g2 : ((s[i].toNat : Int) == 9) = false := u8_ne (k := 9) rfl h2
            have g3 : ((s[i].toNat : Int) == 13) = true := u8_eq (k := 13) rfl (by simpa [h1, h2] using hb)
            clear hb h1 h2
            go_wp2
            go_roundw
            case rel => exact ⟨i + 1, by go_num, by omega, by simp, HF.out⟩
            case measure => simp [intOf]; omega
      · have h1 : ((s[i].toNat : Int) == 32) = false := u8_ne (k := 32) rfl (fun e => hb (.inl e))
        have h2 : ((s[i].toNat : Int) == 9) = false := u8_ne (k := 9) rfl (fun e => hb (.inr (.inl e)))
        have h3 : ((s[i].toNat : Int) == 13) = false := u8_ne (k := 13) rfl (fun e => hb (.inr (.inr e)))
        by_cases h4 : s[i] = 37
        · have g4 : ((s[i].toNat : Int) == 37) = true := u8_eq (k := 37) rfl h4
          have HF : Hid (k + sk (s.data.toList.drop k) = s.size) := by show _ = _; rw [HI.out, HD.out, sk, if_neg hb, if_pos h4, List.length_drop, size_len]; omega
          clear hb h4
          go_wp2
          go_ret
          exact ⟨ret_i64 (by rw [HF.out]), rfl⟩
        · have g4 : ((s[i].toNat : Int) == 37) = false := u8_ne (k := 37) rfl h4
          have HF : Hid (k + sk (s.data.toList.drop k) = i) := by show _ = _; rw [HI.out, HD.out, sk, if_neg hb, if_neg h4]; omega
          clear hb h4
          go_wp2
          go_ret
          exact ⟨ret_i64 (by rw [HF.out]), rfl⟩
    · have HF : Hid (k + sk (s.data.toList.drop k) = i) := by show _ = _; rw [HI.out, drop_end s i (by omega)]; simp [sk]
      go_wp2
      go_ret
      exact ⟨ret_i64 (by rw [HF.out]), rfl⟩
/-- What stands at the beginning of a text: its kind, its bytes, how many it takes, an error. -/
structure Rd where
  k : Int
  t : List UInt8
  n : Nat
  e : Int
def badR (e : Int) : Rd := ⟨0, [], 0, e⟩
abbrev rdV (r : Rd) : Value := .tuple #[.agg #[.int .i64 r.k, .int .i64 0, .string (ofL r.t)], .int .i64 (r.n : Nat), .int .i64 r.e]
def rdW (k : Int) (l : List UInt8) : Rd := if 63 < wlen l then badR 3 else ⟨k, l.take (wlen l), wlen l, 0⟩
def rdQ (r : List UInt8) : Rd := match qs r with
  | none => badR 20
  | some p => if bnB p.1 then (if 63 < p.1.length then badR 3 else ⟨1, p.1, p.2 + 1, 0⟩) else badR 20
def dTrue : List UInt8 := [36, 116, 114, 117, 101]
def dFalse : List UInt8 := [36, 102, 97, 108, 115, 101]
def rdD (l : List UInt8) : Rd :=
  let n := 1 + wlen (l.drop 1)
  if l.take n = dTrue then ⟨3, dTrue, n, 0⟩ else if l.take n = dFalse then ⟨3, dFalse, n, 0⟩ else badR 20
def mks : List (List UInt8) := [[60, 61, 62], [61, 62], [33, 61], [40], [41], [91], [93], [44], [58], [33], [63], [126], [38], [124], [61]]
def rdM (l : List UInt8) : Rd := match mks.find? (fun m => Lib.hasPrefix l m) with
  | some m => ⟨4, m, m.length, 0⟩
  | none => badR 20
def rd (l : List UInt8) : Rd :=
  if smB (hd l) then rdW 1 l else if caB (hd l) then rdW 2 l else if hd l = 39 then rdQ (l.drop 1) else if hd l = 36 then rdD l else rdM l
/-- The box of an answer. -/
def Rb (w W : World) : Prop := Below w.heap.size w W ∧ W.heap[w.heap.size]? = some (.cells #[.int .i64 0, .int .i64 0, .string ⟨#[]⟩] 57 (0, 0))
theorem Rb.new (w : World) : Rb w (w.alloc (.cells #[.int .i64 0, .int .i64 0, .string ⟨#[]⟩] 57)) := ⟨below_box _ _, (MapKept.heap_alloc w _).1⟩
theorem Rb.keep {w W W' : World} (h : Rb w W) (hb : Below W.heap.size W W') : Rb w W' := ⟨h.1.trans (hb.mono h.1.size), (hb.block _ (Array.getElem?_eq_some_iff.1 h.2).1).trans h.2⟩
theorem Tryz.info34z : (Tryz.prog.info? 57).map (·.size) = some 3 := by kernel_rfl
theorem Rb.told {w W : World} (h : Rb w W) (k a : Int) (s : ByteArray) :
    ∃ W', (Instr.storeAt 57 (.pointer (some ⟨w.heap.size, 0, none⟩)) (.agg #[.int .i64 k, .int .i64 a, .string s])).run Tryz.prog W = .ok () W' ∧ (W'.cell? ⟨w.heap.size, 0, none⟩ = some (.int .i64 k) ∧ W'.cell? ⟨w.heap.size, 1, none⟩ = some (.int .i64 a) ∧ W'.cell? ⟨w.heap.size, 2, none⟩ = some (.string s)) ∧ Below w.heap.size w W' := by
  obtain ⟨W', h1, h2, h3⟩ := agg_store 57 W w.heap.size _ [.int .i64 k, .int .i64 a, .string s] h.2 rfl Tryz.info34z (by intro z hz; simp only [List.mem_cons, List.not_mem_nil, or_false] at hz; rcases hz with rfl | rfl | rfl <;> rfl)
  refine ⟨W', h1, ⟨?_, ?_, ?_⟩, h.1.trans (h3.below h.1.size (by simp))⟩ <;> simp [World.cell?, h2]
end
section
open Go.RowKit Go.Shelf
theorem extract_take (s : ByteArray) (n : Nat) : s.extract 0 n = ofL (s.data.toList.take n) := by
  refine ofL_of ?_
  rw [Lib.extract_data]; simp
theorem extract_mid (s : ByteArray) (i j : Nat) : s.extract i j = ofL ((s.data.toList.drop i).take (j - i)) := by
  refine ofL_of ?_
  rw [Lib.extract_data]
theorem extract_drop (s : ByteArray) (i : Nat) : s.extract i s.size = ofL (s.data.toList.drop i) := by
  refine ofL_of ?_
  rw [Lib.extract_data, List.take_of_length_le]
  rw [List.length_drop, size_len]; omega
theorem clone_any (s : ByteArray) (w : World) (hs : s.size ≤ 2097154) : Calls Tryz.prog 192 #[.string s] w fun e w' => e = .returned (.string s) ∧ Below w.heap.size w w' := by
  go_enter Tryz.func192, Tryz.ntmps192
  go_wp2_with (go_at_call 206; refine (Tryz.stringslite_Clone s _ (by omega)).mono ?_; rintro e W1 ⟨rfl, b1⟩)
  go_ret
  exact ⟨rfl, b1⟩
set_option maxRecDepth 100000 in
theorem readWord_any (k : Int) (s : ByteArray) (w : World) (hs : s.size ≤ 2097154) : Calls Tryz.prog 170 #[.int .i64 k, .string s] w fun e w' => e = .returned (rdV (rdW k s.data.toList)) ∧ Below w.heap.size w w' := by
  have HR : Hid (Rb w (w.alloc (.cells #[.int .i64 0, .int .i64 0, .string ⟨#[]⟩] 57))) := Rb.new w
  obtain ⟨W1, h1⟩ : ∃ X, w.alloc (.cells #[.int .i64 0, .int .i64 0, .string ⟨#[]⟩] 57) = X := ⟨_, rfl⟩
  rw [h1] at HR
  have HE : Hid (w.alloc (.cells #[.int .i64 0, .int .i64 0, .string ⟨#[]⟩] 57) = W1) := h1
  clear h1
  have hw := wordSize_any s W1 hs
  have hle : wlen s.data.toList ≤ s.size := by have := wlen_le s.data.toList; rwa [size_len] at this
  by_cases h6 : 63 < wlen s.data.toList
  · have HF : Hid (rdW k s.data.toList = badR 3) := by show _ = _; unfold rdW; rw [if_pos h6]
    obtain ⟨n, hn⟩ : ∃ n, wlen s.data.toList = n := ⟨_, rfl⟩
    rw [hn] at h6 hle hw
    clear hn
    obtain ⟨W2, hrun, ⟨k0, k1, k2⟩, hb2⟩ := HR.out.told 0 0 ⟨#[]⟩
    go_enter Tryz.func170, Tryz.ntmps170
    go_wp2_with fail
    rw [HE.out]
    refine hw.mono ?_
    rintro e W3 ⟨rfl, rfl⟩
    go_wp2_with (first | (refine wpList_store_run rfl 57 _ _ rfl (.pointer (some ⟨w.heap.size, 0, none⟩)) (.agg #[.int .i64 0, .int .i64 0, .string ⟨#[]⟩]) rfl rfl hrun ?_))
    refine bodyPost_ret (v := rdV (badR 3)) (by simp [results, Tryz.results170, go_sem, *, badR, ofL]) rfl ⟨by rw [HF.out], hb2⟩
  · have HF : Hid (rdW k s.data.toList = ⟨k, s.data.toList.take (wlen s.data.toList), wlen s.data.toList, 0⟩) := by show _ = _; unfold rdW; rw [if_neg h6]
    have hcl := fun W => clone_any (s.extract 0 (wlen s.data.toList)) W (by rw [extract_take, ofL_size, List.length_take, size_len]; omega)
    have HT : Hid (s.extract 0 (wlen s.data.toList) = ofL (s.data.toList.take (wlen s.data.toList))) := extract_take _ _
    obtain ⟨n, hn⟩ : ∃ n, wlen s.data.toList = n := ⟨_, rfl⟩
    rw [hn] at h6 hle hw HF hcl HT
    clear hn
    go_enter Tryz.func170, Tryz.ntmps170
    go_wp2_with fail
    rw [HE.out]
    refine hw.mono ?_
    rintro e W3 ⟨rfl, rfl⟩
    go_wp2_with fail
    refine (hcl _).mono ?_
    rintro e W4 ⟨rfl, b4⟩
    rw [HT.out]
    obtain ⟨W2, hrun, ⟨k0, k1, k2⟩, hb2⟩ := (HR.out.keep b4).told k 0 (ofL (s.data.toList.take n))
    clear hcl hw b4
    go_wp2_with (first | (refine wpList_store_run rfl 57 _ _ rfl (.pointer (some ⟨w.heap.size, 0, none⟩)) (.agg #[.int .i64 k, .int .i64 0, .string (ofL (s.data.toList.take n))]) rfl rfl hrun ?_))
    refine bodyPost_ret (v := rdV ⟨k, s.data.toList.take n, n, 0⟩) (by simp [results, Tryz.results170, go_sem, *]) rfl ⟨by rw [HF.out], hb2⟩
end
section
open Go.RowKit Go.Shelf
theorem uq_len : ∀ (l n : List UInt8), uq l = some n → n.length ≤ l.length := by
  intro l
  induction h : l.length using Nat.strongRecOn generalizing l with
  | _ m ih =>
    intro n hn
    subst h
    cases l with
    | nil => rw [uq_nil] at hn; cases hn; simp
    | cons c r =>
      by_cases h3 : c = 92
      · subst h3
        cases r with
        | nil => rw [uq_esc_nil] at hn; cases hn
        | cons d r =>
          rw [uq_esc] at hn
          obtain ⟨n', h5, rfl⟩ := Option.map_eq_some_iff.1 hn
          have := ih r.length (by simp; omega) r rfl n' h5
          simp; omega
      · rw [uq_one _ h3] at hn
        obtain ⟨n', h5, rfl⟩ := Option.map_eq_some_iff.1 hn
        have := ih r.length (by simp) r rfl n' h5
        simp; omega
set_option maxRecDepth 100000 in
theorem readQuoted_any (s : ByteArray) (w : World) (hp : 0 < s.size) (hs : s.size ≤ 2097154) : Calls Tryz.prog 171 #[.string s] w fun e w' => e = .returned (rdV (rdQ (s.data.toList.drop 1))) ∧ Below w.heap.size w w' := by
  have HR : Hid (Rb w (w.alloc (.cells #[.int .i64 0, .int .i64 0, .string ⟨#[]⟩] 57))) := Rb.new w
  obtain ⟨W1, h1⟩ : ∃ X, w.alloc (.cells #[.int .i64 0, .int .i64 0, .string ⟨#[]⟩] 57) = X := ⟨_, rfl⟩
  rw [h1] at HR
  have HE : Hid (w.alloc (.cells #[.int .i64 0, .int .i64 0, .string ⟨#[]⟩] 57) = W1) := h1
  clear h1
  have hw := closing_any s W1 hp hs
  cases hq : qs (s.data.toList.drop 1) with
  | none =>
    have HF : Hid (rdQ (s.data.toList.drop 1) = badR 20) := by show _ = _; unfold rdQ; rw [hq]
    rw [hq] at hw
    have hw' : Calls Tryz.prog 193 #[.string s] W1 fun e w' => e = .returned (.int .i64 (-1)) ∧ w' = W1 := hw
    clear hq hw
    obtain ⟨W2, hrun, ⟨k0, k1, k2⟩, hb2⟩ := HR.out.told 0 0 ⟨#[]⟩
    go_enter Tryz.func171, Tryz.ntmps171
    go_wp2_with fail
    rw [HE.out]
    refine hw'.mono ?_
    rintro e W3 ⟨rfl, rfl⟩
    go_wp2_with (first | (refine wpList_store_run rfl 57 _ _ rfl (.pointer (some ⟨w.heap.size, 0, none⟩)) (.agg #[.int .i64 0, .int .i64 0, .string ⟨#[]⟩]) rfl rfl hrun ?_))
    refine bodyPost_ret (v := rdV (badR 20)) (by simp [results, Tryz.results171, go_sem, *, badR, ofL]) rfl ⟨by rw [HF.out], hb2⟩
  | some p =>
    obtain ⟨n, k⟩ := p
    obtain ⟨u1, u2, u3⟩ := qs_uq _ _ (Nat.le_refl _) n k hq
    rw [List.length_drop, size_len] at u2
    rw [hq] at hw
    have hw' : Calls Tryz.prog 193 #[.string s] W1 fun e w' => e = .returned (.int .i64 (k : Nat)) ∧ w' = W1 := by
      have e : cl 1 (some (n, k)) = (k : Nat) := by simp [cl]; omega
      rw [e] at hw; exact hw
    have hun := fun W => unquoted_any (s.extract 1 k) n W (by rw [extract_mid, ofL_data]; exact u3) (by rw [extract_mid, ofL_size, List.length_take]; omega)
    have hnl : n.length ≤ 2097154 := by
      have := uq_len _ _ u3
      rw [List.length_take] at this
      omega
    have hbe := fun W => begins_any (ofL n) W
    simp only [ofL_data] at hbe
    have hns : (ofL n).size = n.length := ofL_size n
    obtain ⟨N, hN⟩ : ∃ N, ofL n = N := ⟨_, rfl⟩
    have hk1 : (1 : Int) ≤ (k : Int) := by omega
    have hk2 : k ≤ s.size := by omega
    cases hb : bnB n with
    | false =>
      have HF : Hid (rdQ (s.data.toList.drop 1) = badR 20) := by show _ = _; unfold rdQ; rw [hq]; simp [hb]
      rw [hb] at hbe
      rw [hN] at hun hbe hns
      clear hq hw u1 u2 u3 hb
      go_enter Tryz.func171, Tryz.ntmps171
      go_wp2_with fail
      rw [HE.out]
      refine hw'.mono ?_
      rintro e W3 ⟨rfl, rfl⟩
      go_wp2_with fail
      refine (hun _).mono ?_
      rintro e W4 ⟨rfl, b4⟩
      have HR4 : Hid (Rb w W4) := HR.out.keep b4
      clear b4 hun
      go_wp2_with fail
      refine (hbe _).mono ?_
      clear hbe
      rintro e W5 ⟨rfl, rfl⟩
      obtain ⟨W2, hrun, ⟨k0, k1, k2⟩, hb2⟩ := HR4.out.told 0 0 ⟨#[]⟩
      go_wp2_with (first | (refine wpList_store_run rfl 57 _ _ rfl (.pointer (some ⟨w.heap.size, 0, none⟩)) (.agg #[.int .i64 0, .int .i64 0, .string ⟨#[]⟩]) rfl rfl hrun ?_))
      refine bodyPost_ret (v := rdV (badR 20)) (by simp [results, Tryz.results171, go_sem, *, badR, ofL]) rfl ⟨by rw [HF.out], hb2⟩
    | true =>
      rw [hb] at hbe
      by_cases h6 : 63 < n.length
      · have HF : Hid (rdQ (s.data.toList.drop 1) = badR 3) := by show _ = _; unfold rdQ; rw [hq]; simp [hb, h6]
        rw [hN] at hun hbe hns
        have h6' : 63 < N.size := by rw [hns]; exact h6
        clear hq hw u1 u2 u3 hb h6 hns
        go_enter Tryz.func171, Tryz.ntmps171
        go_wp2_with fail
        rw [HE.out]
        refine hw'.mono ?_
        rintro e W3 ⟨rfl, rfl⟩
        go_wp2_with fail
        refine (hun _).mono ?_
        rintro e W4 ⟨rfl, b4⟩
        have HR4 : Hid (Rb w W4) := HR.out.keep b4
        clear b4 hun
        go_wp2_with fail
        refine (hbe _).mono ?_
        clear hbe
        rintro e W5 ⟨rfl, rfl⟩
        obtain ⟨W2, hrun, ⟨k0, k1, k2⟩, hb2⟩ := HR4.out.told 0 0 ⟨#[]⟩
        go_wp2_with (first | (refine wpList_store_run rfl 57 _ _ rfl (.pointer (some ⟨w.heap.size, 0, none⟩)) (.agg #[.int .i64 0, .int .i64 0, .string ⟨#[]⟩]) rfl rfl hrun ?_))
        refine bodyPost_ret (v := rdV (badR 3)) (by simp [results, Tryz.results171, go_sem, *, badR, ofL]) rfl ⟨by rw [HF.out], hb2⟩
      · have HF : Hid (rdQ (s.data.toList.drop 1) = ⟨1, n, k + 1, 0⟩) := by show _ = _; unfold rdQ; rw [hq]; simp [hb, h6]
        rw [hN] at hun hbe hns
        have h6' : ¬ 63 < N.size := by rw [hns]; exact h6
        have HN : Hid (ofL n = N) := hN
        clear hq hw u1 u2 u3 hb h6 hns hN
        go_enter Tryz.func171, Tryz.ntmps171
        go_wp2_with fail
        rw [HE.out]
        refine hw'.mono ?_
        rintro e W3 ⟨rfl, rfl⟩
        go_wp2_with fail
        refine (hun _).mono ?_
        rintro e W4 ⟨rfl, b4⟩
        have HR4 : Hid (Rb w W4) := HR.out.keep b4
        clear b4 hun
        go_wp2_with fail
        refine (hbe _).mono ?_
        clear hbe
        rintro e W5 ⟨rfl, rfl⟩
        obtain ⟨W2, hrun, ⟨k0, k1, k2⟩, hb2⟩ := HR4.out.told 1 0 N
        go_wp2_with (first | (refine wpList_store_run rfl 57 _ _ rfl (.pointer (some ⟨w.heap.size, 0, none⟩)) (.agg #[.int .i64 1, .int .i64 0, .string N]) rfl rfl hrun ?_))
        refine bodyPost_ret (v := rdV ⟨1, n, k + 1, 0⟩) (by simp [results, Tryz.results171, go_sem, *, HN.out]) rfl ⟨by rw [HF.out], hb2⟩
end
