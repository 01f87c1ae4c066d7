import Derived.Test.YthkinkcpfcpehaaGreatDoorHM
import Derived.Test.YthkinkcpfcpehaaGreatDoorHShelf
import Derived.Lib.AppendStr
import Derived.Lib.UnsafeStr
namespace Go.Proofs.YthkinkcpfcpehaaGreatDoor
set_option maxRecDepth 100000
set_option maxHeartbeats 8000000
section
open Go.RowKit Go.Maps Go.Sort Go.Shelf
theorem numbered_small (w : World) : NumC 100 w := by
  intro n hn W hW
  have hc := Sh.Tryz.strconv_Itoa_small n hn
  have hl : (Lib.decDigits n).length ≤ 2 := by
    by_cases h : n < 10
    · rw [Lib.decDigits_one h]; simp
    · rw [Lib.decDigits_two h hn]; simp
  clear hW
  go_enter Tryz.func73, Tryz.ntmps73
  go_wp2_with fail
  refine (hc _).mono ?_
  rintro e W2 ⟨rfl, rfl⟩
  go_wp2
  all_goals first
    | (exfalso; omega)
    | (go_ret; exact ⟨rfl, Below.refl _ _⟩)
/-- slices.Sort's two contracts at this program. -/
theorem sorts46 (m : Nat) : AnyZ.SortsIn Tryz.prog Sh.Tryz.sorted46_ren Fence.wide m :=
  ⟨fun blk off cap ss W hH hblk hsz => callsIn_wide.2 (AnyM.slices_Sort_string Sh.Tryz.sort88 blk off cap ss W hH hblk hsz),
   fun p cap W => callsIn_wide.2 (AnyM.slices_Sort_string_none Sh.Tryz.sort88 p cap W)⟩
theorem keys_any (mb : Option Nat) (W : World) : Calls Tryz.prog 47 #[.map mb] W fun e w' => e = .returned (.func (.func 89) #[] #[.pointer (some ⟨W.heap.size, 0, none⟩)]) ∧ w' = W.alloc (.cells #[.map mb] 50) :=
  callsIn_wide.1 (AnyZ.keys_in Sh.Tryz.keys47 Fence.wide 5 trivial rfl mb W)
theorem strKeys_len {H : Type} (D : DataW H) : (strKeys D).length = Maps.size D := by
  cases D <;> simp [strKeys, Maps.size]
theorem sorted_keys {b k : Nat} {m : Value → Option Value} {w : World} (h : MapIs w 9 b m k) (hk : k ≤ 4194304) :
    Calls Tryz.prog 46 #[.func (.func 89) #[] #[.pointer (some ⟨w.heap.size, 0, none⟩)]] (w.alloc (.cells #[.map (some b)] 50)) fun e w' => ∃ a c, e = .returned (.slice a k c) ∧ Below w.heap.size w w' := by
  obtain ⟨D, hown, hsz, -⟩ := h
  have hmax : Maps.size D ≤ maxLen := by rw [hsz]; unfold maxLen; omega
  have hbytes : Maps.size D * 16 ≤ 140737488355328 := by rw [hsz]; omega
  have hbl := hown.lt
  have hseq : SeqGives Fence.wide 2 Tryz.prog 89 #[.pointer (some ⟨w.heap.size, 0, none⟩)] encStr (fun ss => ss.Perm (strKeys D)) (Maps.size D) (w.alloc (.cells #[.map (some b)] 50)) :=
    AnyZ.keys_gives (ρ := Sh.Tryz.keys47_ren) { Sh.Tryz.keys47 with } Fence.wide _ trivial rfl (by omega) w.heap.size b _ D _ (by simp) (by simp) (by
      obtain ⟨es, clock, hb, Ft, hs, hD⟩ := hown
      exact ⟨es, clock, (Below.heap_alloc _ _ b hbl).trans hb, Ft, hs, hD⟩)
  refine (callsIn_wide.1 (AnyZ.sorted_in Sh.Tryz.sorted46 Fence.wide 5 trivial trivial trivial trivial rfl (by omega) (sorts46 _) (enters_of Tryz.func88 (by kernel_rfl) rfl) 89 #[.pointer (some ⟨w.heap.size, 0, none⟩)] trivial (enters_of Tryz.func89 (by kernel_rfl) rfl) _ _ hmax hbytes _ hseq)).mono ?_
  rintro e w' ⟨v, ss, rfl, hS, hrow, -, hb⟩
  obtain ⟨a, c, rfl⟩ := Lx.row_slice hrow
  have hlen : ss.length = k := by rw [hS.length_eq, strKeys_len, hsz]
  rw [hlen]
  exact ⟨a, c, rfl, (below_box w _).trans (hb.mono (below_box w _).size)⟩
end
section
open Go.RowKit Go.Shelf
theorem liesW : liesAt Tryz.prog Tryz.prog.depth 74 (2 / Tryz.prog.cellsOf 74) 0 72 1 = true := by kernel_rfl
theorem wcopyFresh_any (b : Nat) (w : World) (h0 : w.cell? ⟨b, 0, none⟩ = some (.pointer none)) (hsh : w.shape? b = some (74, 2)) (hfz : w.frozen? ⟨b, 0, none⟩ = false) :
    Calls Tryz.prog 150 #[.pointer (some ⟨b, 0, none⟩)] w fun e w' => e = .returned (.tuple #[]) ∧ w' = w.setCell ⟨b, 0, none⟩ (.pointer (some ⟨b, 0, none⟩)) := by
  obtain ⟨j, hj, hjs⟩ := Option.map_eq_some_iff.1 Lx.Tryz.Builder_Extra_169.sizeBuilder
  have hl := liesW
  go_enter Tryz.func150, Tryz.ntmps150
  go_wp2
  rw [Lib.run_to_unsafe w ⟨b, 0, none⟩ Tryz.underlying69 Tryz.underlying185 hj (by rw [hjs]; decide) hsh (Nat.zero_lt_succ 1)]
  simp only [Result.andThen]
  rw [Oper.upon_value]
  go_wp2
  rw [run_callFunc_extern Tryz.func183 (by kernel_rfl) (by kernel_rfl) (by kernel_rfl) (e := Extern.AbiNoEscape.same) (by kernel_rfl)]
  rw [Lib.run_noEscape]
  simp only [Result.andThen]
  rw [Oper.upon_value]
  go_wp2
  rw [Lib.run_from_unsafe w ⟨b, 0, none⟩ Tryz.underlying185 Tryz.underlying69 hj hsh hl]
  simp only [Result.andThen]
  rw [Oper.upon_value]
  go_wp2
  go_end0
  exact ⟨rfl, rfl⟩
theorem wcopyCheck_any (B b : Nat) (bs : List Value) (w : World) (h : Lib.IsBuilder 74 5 B b bs w) :
    Calls Tryz.prog 150 #[.pointer (some ⟨b, 0, none⟩)] w fun e w' => e = .returned (.tuple #[]) ∧ (Lib.BuilderAt 74 5 B b (.pointer (some ⟨b, 0, none⟩)) bs w' ∧ Below B w w') ∧ w'.heap.size = w.heap.size ∧ w'.os = w.os ∧ w'.tape = w.tape ∧ w'.output = w.output ∧ ∀ k, k ≠ b → w'.heap[k]? = w.heap[k]? := by
  rcases h with h | h
  · refine (wcopyFresh_any b w h.cell0 h.shape h.frozen0).mono ?_
    rintro e w' ⟨rfl, rfl⟩
    exact ⟨rfl, ⟨h.used _, (Below.refl B w).setCell (p := ⟨b, 0, none⟩) h.1 _⟩, by simp [World.setCell], rfl, rfl, rfl, fun k hk => Below.heap_setCell _ _ _ k hk⟩
  · refine (Lx.copyUsed_any b w h.cell0).mono ?_
    rintro e w' ⟨rfl, rfl⟩
    exact ⟨rfl, ⟨h, Below.refl B _⟩, rfl, rfl, rfl, rfl, fun _ _ => rfl⟩
/-- What stays while the writer with block B writes: every block but B, and but rows of bytes behind it. -/
structure Kp (B : Nat) (W W' : World) : Prop where
  os : W'.os = W.os
  tape : W'.tape = W.tape
  output : W'.output = W.output
  size : W.heap.size ≤ W'.heap.size
  blk : ∀ k, k < W.heap.size → k ≠ B → (B < k → ∀ cs fr, W.heap[k]? ≠ some (.cells cs 5 fr)) → W'.heap[k]? = W.heap[k]?
theorem Kp.refl (B : Nat) (W : World) : Kp B W W := ⟨rfl, rfl, rfl, Nat.le_refl _, fun _ _ _ _ => rfl⟩
theorem Kp.trans {B : Nat} {X Y Z : World} (h : Kp B X Y) (k : Kp B Y Z) : Kp B X Z :=
  ⟨k.os.trans h.os, k.tape.trans h.tape, k.output.trans h.output, Nat.le_trans h.size k.size, fun n hn hB hc => (k.blk n (Nat.lt_of_lt_of_le hn h.size) hB (fun hb cs fr => by rw [h.blk n hn hB hc]; exact hc hb cs fr)).trans (h.blk n hn hB hc)⟩
theorem Kp.of_below {B : Nat} {X Y : World} (h : Below X.heap.size X Y) : Kp B X Y := ⟨h.os, h.tape, h.output, h.size, fun k hk _ _ => h.block k hk⟩
theorem Kp.below {B m : Nat} {X Y : World} (h : Kp B X Y) (hm : m ≤ B) (hX : B < X.heap.size) : Below m X Y := ⟨h.os, h.tape, h.output, h.size, fun k hk => h.blk k (by omega) (by omega) (fun hb => by omega)⟩
/-- A block of another type stays. -/
theorem Kp.same {B : Nat} {X Y : World} (h : Kp B X Y) {k : Nat} {cs : Array Value} {ty : TypeId} (hk : X.heap[k]? = some (.cells cs ty (0, 0))) (hB : k ≠ B) (hty : ty ≠ 5) : Y.heap[k]? = some (.cells cs ty (0, 0)) := by
  rw [h.blk k (Array.getElem?_eq_some_iff.1 hk).1 hB (fun _ cs' fr' he => by rw [hk] at he; cases he; exact hty rfl), hk]
/-- The writer holds these bytes. -/
structure Wr (B : Nat) (l : List UInt8) (W : World) : Prop where
  b : Lib.IsBuilder 74 5 B B (Lib.byteCells l) W
  lt : B < W.heap.size
theorem Wr.new (w : World) : Wr w.heap.size [] (w.alloc (.cells #[.pointer none, .slice none 0 0] 74)) :=
  ⟨.inl ⟨Nat.le_refl _, .slice none 0 0, (MapKept.heap_alloc _ _).1, World.ownsRow_nil _ _ _ _, by simp [Value.ownBlock]⟩, by simp⟩
theorem IsBuilder_at {T e B b : Nat} {bs : List Value} {w : World} (h : Lib.IsBuilder T e B b bs w) : ∃ p, Lib.BuilderAt T e B b p bs w := by
  rcases h with h | h
  · exact ⟨_, h⟩
  · exact ⟨_, h⟩
theorem Wr.keep {B : Nat} {l : List UInt8} {W W' : World} (h : Wr B l W) (hb : Below W.heap.size W W') : Wr B l W' := by
  have key : ∀ p, Lib.BuilderAt 74 5 B B p (Lib.byteCells l) W → Lib.BuilderAt 74 5 B B p (Lib.byteCells l) W' := by
    rintro p ⟨h1, v, hv, hrow, hne⟩
    exact ⟨h1, v, (hb.block B h.lt).trans hv, Lx.row_keep hrow (fun g hg => hb.block g (hrow.lt g hg).2), hne⟩
  refine ⟨?_, Nat.lt_of_lt_of_le h.lt hb.size⟩
  rcases h.b with h | h
  · exact .inl (key _ h)
  · exact .inr (key _ h)
theorem writeString_any {B : Nat} {l : List UInt8} {w : World} (h : Wr B l w) (s : ByteArray) (hlen : l.length + s.size ≤ 140737488355328) :
    Calls Tryz.prog 111 #[.pointer (some ⟨B, 0, none⟩), .string s] w fun e w' => e = .returned (.tuple #[.int .i64 s.size, .nilIface]) ∧ Wr B (l ++ s.data.toList) w' ∧ Kp B w w' := by
  obtain ⟨i0, hi, hz0, hz1, hz2⟩ := info_parts Lx.Tryz.info5
  have hlt := h.lt
  have hbb := h.b
  have hl2 : (Lib.byteCells l).length + s.size ≤ 140737488355328 := by rw [Lib.byteCells_length]; exact hlen
  have happ : Lib.byteCells l ++ Lib.strCells s = Lib.byteCells (l ++ s.data.toList) := by rw [Lib.byteCells_append]; rfl
  obtain ⟨bs, hbs⟩ : ∃ bs, Lib.byteCells l = bs := ⟨_, rfl⟩
  rw [hbs] at hbb hl2 happ
  have HA := hidR happ
  clear h happ hbs hlen
  go_enter Tryz.func111, Tryz.ntmps111
  go_wp2_with (go_at_call 150; refine (wcopyCheck_any B B bs _ hbb).mono ?_)
  rintro e w1 ⟨rfl, ⟨h1, hb1⟩, hs1, ho1, ht1, hou1, hk1⟩
  obtain ⟨hB, v, hbk, hown, hne⟩ := h1
  have c0 : w1.cell? ⟨B, 0, none⟩ = some (.pointer (some ⟨B, 0, none⟩)) := by rw [Lib.cell_of_heap hbk]; rfl
  have c1 : w1.cell? ⟨B, 1, none⟩ = some v := by rw [Lib.cell_of_heap hbk]; rfl
  go_wp2_with (at_builtin; refine Lib.wpList_append_own_string _ rfl _ _ 70 9 rfl B 5 i0 Tryz.underlying70 Tryz.underlying9 hi hz0 hz1 hz2 _ _ _ rfl hown s rfl ?c3 ?c4 ?c5 ?_)
  case c3 => unfold maxLen; omega
  case c4 => omega
  case c5 => omega
  intro v' w2 hown' hgrow _
  have hlt1 : B < w1.heap.size := by omega
  have hb2 : w2.heap[B]? = some (.cells #[.pointer (some ⟨B, 0, none⟩), v] 74 (0, 0)) := by
    rw [hgrow.block B hlt1 (fun e => hne e.symm)]
    exact hbk
  have d0 : w2.cell? ⟨B, 0, none⟩ = some (.pointer (some ⟨B, 0, none⟩)) := by rw [Lib.cell_of_heap hb2]; rfl
  have d1 : w2.cell? ⟨B, 1, none⟩ = some v := by rw [Lib.cell_of_heap hb2]; rfl
  have f1 : w2.frozen? ⟨B, 1, none⟩ = false := Lib.frozen_of_heap hb2 1
  obtain ⟨ao, n', cap, rfl⟩ : ∃ ao n' cap, v' = .slice ao n' cap := by
    rcases hown'.2 with ⟨hv, _⟩ | ⟨g, cap, cur, hv, _⟩
    · exact ⟨_, _, _, hv⟩
    · exact ⟨_, _, _, hv⟩
  have HF : Hid (Wr B (l ++ s.data.toList) (w2.setCell ⟨B, 1, none⟩ (.slice ao n' cap)) ∧ Kp B w (w2.setCell ⟨B, 1, none⟩ (.slice ao n' cap))) := by
    refine ⟨⟨.inr ?_, ?_⟩, ?_⟩
    · rw [← HA.out]
      exact Lib.BuilderAt.put (T := 74) (e := 5) hB hb2 (bs' := bs ++ Lib.strCells s) (by simpa [Lib.strCells_length] using hown') (by decide)
    · have := hgrow.size
      show B < (w2.setCell _ _).heap.size
      simp [World.setCell]; omega
    · refine ⟨hgrow.os.trans ho1, hgrow.tape.trans ht1, hgrow.output.trans hou1, by have := hgrow.size; simp [World.setCell]; omega, fun k hk hkB hc => ?_⟩
      have e1 : (w2.setCell ⟨B, 1, none⟩ (.slice ao n' cap)).heap[k]? = w2.heap[k]? := Below.heap_setCell _ _ _ k hkB
      rw [e1, ← hk1 k hkB]
      refine hgrow.block k (by omega) (fun e => ?_)
      -- the row is of bytes
      rcases hown.2 with ⟨hv, _⟩ | ⟨g, cap', cur, hv, hBg, hg, _⟩
      · rw [hv] at e; simp [Value.ownBlock] at e
      · rw [hv] at e
        have hgk : k = g := by simpa [Value.ownBlock] using e
        subst hgk
        refine hc (by omega) cur (0, 0) ?_
        rw [← hk1 k hkB]
        exact hg
  clear hown hown' hgrow hne hbk hb1 hk1 hbb
  go_wp2
  go_ret2
  exact ⟨rfl, HF.out.1, HF.out.2⟩
/-- A row of texts is written. -/
def cat (ss : List ByteArray) : List UInt8 := ss.flatMap fun s => s.data.toList
theorem put_any {B n c : Nat} {l : List UInt8} {w : World} (h : Wr B l w) (ss : List ByteArray) (hr : w.heap[n]? = some (.cells (ss.map Value.string).toArray 9 (0, 0))) (hn : n ≠ B) (hss : ss.length ≤ 64) (hlen : l.length + (cat ss).length ≤ 140737488355328) :
    Calls Tryz.prog 68 #[.pointer (some ⟨B, 0, none⟩), .slice (some ⟨n, 0, none⟩) ss.length c] w fun e w' => e = .returned (.tuple #[]) ∧ Wr B (l ++ cat ss) w' ∧ Kp B w w' := by
  obtain ⟨N, hN⟩ : ∃ N, ss.length = N := ⟨_, rfl⟩
  have HN := hidR hN
  have HR := hidR hr
  have HH := hidR h
  have HL := hidR hlen
  rw [hN] at hss ⊢
  clear h hr hlen hN
  go_enter Tryz.func68, Tryz.ntmps68
  go_wp2
  go_loopw [8] (fun vi wr => ∃ i : Nat, vi = .int .i64 i ∧ i ≤ N ∧ Hid (∃ l1, l1 ++ cat (ss.drop i) = l ++ cat ss ∧ Wr B l1 wr ∧ Kp B w wr)) (fun vi _ => N - (intOf vi).toNat)
  case atStart => exact ⟨0, rfl, Nat.zero_le _, l, by simp, HH.out, Kp.refl _ _⟩
  case round =>
    obtain ⟨i, rfl, hi, HI⟩ := hrel
    by_cases hlt : i < N
    · have hil : i < ss.length := by rw [HN.out]; exact hlt
      obtain ⟨l1, hl1, hw1, hk1⟩ := HI.out
      have hrr := hk1.same HR.out hn (by decide)
      have y0 : wr.cell? ⟨n, i, none⟩ = some (.string ss[i]) := cell_storeR hrr (by simp [hil])
      have hcat : cat (ss.drop i) = ss[i].data.toList ++ cat (ss.drop (i + 1)) := by rw [List.drop_eq_getElem_cons hil]; rfl
      rw [hcat] at hl1
      have hws := writeString_any hw1 ss[i] (by
        have h1 := congrArg List.length hl1
        simp only [List.length_append, Lx.size_len] at h1
        have := HL.out
        omega)
      have HT : Hid ((l1 ++ ss[i].data.toList) ++ cat (ss.drop (i + 1)) = l ++ cat ss) := by show _ = _; rw [List.append_assoc]; exact hl1
      have HK1 := hidR hk1
      generalize ss[i] = t at y0 hws HT
      clear hl1 hw1 hk1 hrr hcat HI
      go_wp2_with fail
      refine hws.mono ?_
      rintro e W2 ⟨rfl, hw2, hk2⟩
      have HM : Hid (∃ l1, l1 ++ cat (ss.drop (i + 1)) = l ++ cat ss ∧ Wr B l1 W2 ∧ Kp B w W2) := ⟨_, HT.out, hw2, HK1.out.trans hk2⟩
      clear hws hw2 hk2
      go_wp2
      go_roundw
      case rel => exact ⟨i + 1, by go_num, by omega, HM.out⟩
      case measure => simp [intOf]; omega
    · have hin : i = N := by omega
      subst hin
      have HF : Hid (Wr B (l ++ cat ss) wr ∧ Kp B w wr) := by
        obtain ⟨l1, hl1, hw1, hk1⟩ := HI.out
        rw [← HN.out, List.drop_length] at hl1
        have : l1 = l ++ cat ss := by rw [← hl1]; simp [cat]
        rw [← this]
        exact ⟨hw1, hk1⟩
      clear HI
      go_wp2
      refine bodyPost_end (results_none rfl _ _ _) rfl ?_
      exact ⟨rfl, HF.out.1, HF.out.2⟩
end
section
open Go.RowKit Go.Shelf
theorem putn {B : Nat} {l : List UInt8} {w : World} (h : Wr B l w) (ss : List ByteArray) (hss : ss.length ≤ 64) (hlen : l.length + (cat ss).length ≤ 140737488355328) :
    Calls Tryz.prog 68 #[.pointer (some ⟨B, 0, none⟩), .slice (some ⟨w.heap.size, 0, none⟩) ss.length ss.length] (w.alloc (.cells (ss.map Value.string).toArray 9)) fun e w' => e = .returned (.tuple #[]) ∧ Wr B (l ++ cat ss) w' ∧ Kp B w w' := by
  have hb := below_box w (.cells (ss.map Value.string).toArray 9)
  refine (put_any (h.keep hb) ss (MapKept.heap_alloc _ _).1 (by have := h.lt; omega) hss hlen).mono ?_
  rintro e w' ⟨rfl, h1, h2⟩
  exact ⟨rfl, h1, (Kp.of_below hb).trans h2⟩
theorem put1 {B : Nat} {l : List UInt8} {w : World} (h : Wr B l w) (s : ByteArray) (hlen : l.length + s.size ≤ 140737488355328) :
    Calls Tryz.prog 68 #[.pointer (some ⟨B, 0, none⟩), .slice (some ⟨w.heap.size, 0, none⟩) 1 1] (w.alloc (.cells #[.string s] 9)) fun e w' => e = .returned (.tuple #[]) ∧ Wr B (l ++ s.data.toList) w' ∧ Kp B w w' := by
  have hc : cat [s] = s.data.toList := by simp [cat]
  have := putn h [s] (by simp) (by rw [hc, Lx.size_len]; exact hlen)
  rwa [hc] at this
theorem put2 {B : Nat} {l : List UInt8} {w : World} (h : Wr B l w) (s t : ByteArray) (hlen : l.length + (s.size + t.size) ≤ 140737488355328) :
    Calls Tryz.prog 68 #[.pointer (some ⟨B, 0, none⟩), .slice (some ⟨w.heap.size, 0, none⟩) 2 2] (w.alloc (.cells #[.string s, .string t] 9)) fun e w' => e = .returned (.tuple #[]) ∧ Wr B (l ++ (s.data.toList ++ t.data.toList)) w' ∧ Kp B w w' := by
  have hc : cat [s, t] = s.data.toList ++ t.data.toList := by simp [cat]
  have := putn h [s, t] (by simp) (by rw [hc, List.length_append, Lx.size_len, Lx.size_len]; exact hlen)
  rwa [hc] at this
theorem put3 {B : Nat} {l : List UInt8} {w : World} (h : Wr B l w) (s t u : ByteArray) (hlen : l.length + (s.size + t.size + u.size) ≤ 140737488355328) :
    Calls Tryz.prog 68 #[.pointer (some ⟨B, 0, none⟩), .slice (some ⟨w.heap.size, 0, none⟩) 3 3] (w.alloc (.cells #[.string s, .string t, .string u] 9)) fun e w' => e = .returned (.tuple #[]) ∧ Wr B (l ++ (s.data.toList ++ t.data.toList ++ u.data.toList)) w' ∧ Kp B w w' := by
  have hc : cat [s, t, u] = s.data.toList ++ t.data.toList ++ u.data.toList := by simp [cat]
  have := putn h [s, t, u] (by simp) (by rw [hc, List.length_append, List.length_append, Lx.size_len, Lx.size_len, Lx.size_len]; exact hlen)
  rwa [hc] at this
theorem put4 {B : Nat} {l : List UInt8} {w : World} (h : Wr B l w) (s t u v : ByteArray) (hlen : l.length + (s.size + t.size + u.size + v.size) ≤ 140737488355328) :
    Calls Tryz.prog 68 #[.pointer (some ⟨B, 0, none⟩), .slice (some ⟨w.heap.size, 0, none⟩) 4 4] (w.alloc (.cells #[.string s, .string t, .string u, .string v] 9)) fun e w' => e = .returned (.tuple #[]) ∧ Wr B (l ++ (s.data.toList ++ t.data.toList ++ u.data.toList ++ v.data.toList)) w' ∧ Kp B w w' := by
  have hc : cat [s, t, u, v] = s.data.toList ++ t.data.toList ++ u.data.toList ++ v.data.toList := by simp [cat]
  have := putn h [s, t, u, v] (by simp) (by rw [hc, List.length_append, List.length_append, List.length_append, Lx.size_len, Lx.size_len, Lx.size_len, Lx.size_len]; exact hlen)
  rwa [hc] at this
theorem ArgsP.kp {B : Nat} {W W' : World} {sl : Value} {l : List T} (h : ArgsP (fun k => k < B) W sl l) (hk : Kp B W W') : ArgsP (fun k => k < B) W' sl l :=
  h.keep hk.size fun k hP hl => ⟨hP, hk.blk k hl (Nat.ne_of_lt hP) (fun hb => absurd hb (by omega))⟩
/-- The text of a term. -/
def shT : T → List UInt8
  | .mk v fn ts => if vB (.mk v fn ts) = true then fn.data.toList else Lx.shL fn.data.toList ++ (if ts.length = 0 then [] else shTs ts 40 ++ [41])
where shTs : List T → UInt8 → List UInt8
  | [], _ => []
  | a :: r, c => c :: (shT a ++ shTs r 44)
theorem shT_eq (t : T) : shT t = if vB t = true then t.fn.data.toList else Lx.shL t.fn.data.toList ++ (if t.args.length = 0 then [] else shT.shTs t.args 40 ++ [41]) := by cases t; rw [shT]; rfl
theorem idx166_0 (W : World) : (Instr.index 166 (.agg #[.string ⟨#[40]⟩, .string ⟨#[44]⟩]) (.int .i64 0)).run Tryz.prog W = .ok (.string ⟨#[40]⟩) W := by kernel_rfl
theorem idx166_1 (W : World) : (Instr.index 166 (.agg #[.string ⟨#[40]⟩, .string ⟨#[44]⟩]) (.int .i64 1)).run Tryz.prog W = .ok (.string ⟨#[44]⟩) W := by kernel_rfl
/-- What stands ahead of the argument i. -/
def sepC (i : Nat) : UInt8 := if i = 0 then 40 else 44
theorem shTs_step {l : List T} {i : Nat} (h : i < l.length) : shT.shTs (l.drop i) (sepC i) = sepC i :: (shT l[i] ++ shT.shTs (l.drop (i + 1)) (sepC (i + 1))) := by
  rw [List.drop_eq_getElem_cons h, shT.shTs]
  rfl
theorem wterm_any (t : T) : t.nsm → ∀ (B : Nat) (l : List UInt8) (w : World) (sl : Value), Wr B l w → ArgsP (fun k => k < B) w sl t.args → l.length + (shT t).length ≤ 140737488355328 → Calls Tryz.prog 109 #[.pointer (some ⟨B, 0, none⟩), tval t sl] w fun e w' => e = .returned (.tuple #[]) ∧ Wr B (l ++ shT t) w' ∧ Kp B w w' := by
  refine T.ind (P := fun t => t.nsm → ∀ (B : Nat) (l : List UInt8) (w : World) (sl : Value), Wr B l w → ArgsP (fun k => k < B) w sl t.args → l.length + (shT t).length ≤ 140737488355328 → Calls Tryz.prog 109 #[.pointer (some ⟨B, 0, none⟩), tval t sl] w fun e w' => e = .returned (.tuple #[]) ∧ Wr B (l ++ shT t) w' ∧ Kp B w w') (fun t ih => ?_) t
  intro hnm B l w sl h ha hlen
  have hb0 := below_box w (tbox t sl)
  have hz0 := (MapKept.heap_alloc w (tbox t sl)).1
  have hv := isVariable_any (T.nsm_fn hnm) (ha.args.keep hb0 (Nat.le_refl _))
  have hlt := h.lt
  have h0 := h.keep hb0
  have ha0 := ha.kp (Kp.of_below (B := B) hb0)
  obtain ⟨W0, hW0⟩ : ∃ X : World, w.alloc (tbox t sl) = X := ⟨_, rfl⟩
  obtain ⟨R, hR⟩ : ∃ R, w.heap.size = R := ⟨_, rfl⟩
  rw [hW0] at hb0 hz0 hv h0 ha0
  rw [hR] at hz0 hlt
  obtain ⟨sa, sc, rfl, hsc, hsm⟩ := ha.slice'
  have HE := hidR (shT_eq t)
  have HW0 := hidR hW0
  have HL := hidR hlen
  have HNM := hidR hnm
  have H0 := hidR (And.intro (Kp.of_below (B := B) hb0) (And.intro h0 ha0))
  have HIH := hidR ih
  obtain ⟨b1, hb1⟩ : ∃ b, vB t = b := ⟨_, rfl⟩
  rw [hb1] at hv HE
  have hRB : R ≠ B := by omega
  have hcell : Hid (∀ X : World, X.heap[R]? = some (tbox t (.slice sa t.args.length sc)) → X.cell? ⟨R, 0, none⟩ = some (.int .i64 t.v) ∧ X.cell? ⟨R, 1, none⟩ = some (.string t.fn) ∧ X.cell? ⟨R, 2, none⟩ = some (.slice sa t.args.length sc)) := fun X hX => ⟨cell_storeR (vs := [_, _, _]) hX rfl, cell_storeR (vs := [_, _, _]) hX rfl, cell_storeR (vs := [_, _, _]) hX rfl⟩
  obtain ⟨x0, x1, x2⟩ := hcell.out W0 hz0
  have HZ0 := hidR hz0
  clear h ha hlen ih hb0 h0 ha0 hW0 hb1 hnm hz0 hlt
  go_enter Tryz.func109, Tryz.ntmps109
  go_upto_region 1 with fail
  try simp only [hR]
  rw [show _ = W0 from HW0.out]
  clear HW0
  go_wp2_with fail
  refine hv.mono ?_
  rintro e W1 ⟨rfl, hbW1⟩
  clear hv x0 x1 x2
  have hz1 : W1.heap[R]? = some (tbox t (.slice sa t.args.length sc)) := (hbW1.block R (Array.getElem?_eq_some_iff.1 HZ0.out).1).trans HZ0.out
  obtain ⟨x0, x1, x2⟩ := hcell.out W1 hz1
  have hw1 := H0.out.2.1.keep hbW1
  have hk1 := H0.out.1.trans (Kp.of_below (B := B) hbW1)
  cases b1 with
  | true =>
    have HF : Hid (shT t = t.fn.data.toList) := by show _ = _; rw [HE.out]; rfl
    have hp := put1 hw1 t.fn (by have := HL.out; rw [HF.out, Lx.size_len] at this; exact this)
    have HK := hidR hk1
    clear hw1 hk1 hbW1 HZ0 hz1 H0 HE
    go_wp2_with fail
    refine hp.mono ?_
    rintro e W2 ⟨rfl, hw2, hk2⟩
    have HX : Hid (Wr B (l ++ shT t) W2 ∧ Kp B w W2) := ⟨by rw [HF.out]; exact hw2, HK.out.trans hk2⟩
    clear hp hw2 hk2
    go_wp2
    (try simp only [Exit.inBlock, Exit.then])
    refine bodyPost_ret (results_none rfl _ _ _) rfl ?_
    exact ⟨rfl, HX.out.1, HX.out.2⟩
  | false =>
    rw [if_neg (by simp)] at HE
    have hs1 := Lx.show_any t.fn W1 (T.nsm_fn HNM.out)
    have ha1 := H0.out.2.2.kp (Kp.of_below (B := B) hbW1)
    have HX1 := hidR (And.intro hw1 (And.intro hk1 (And.intro ha1 hz1)))
    clear hw1 hk1 hbW1 HZ0 hz1 H0 ha1
    go_wp2_with fail
    refine hs1.mono ?_
    rintro e W2 ⟨rfl, hbW2⟩
    have hz2 : W2.heap[R]? = some (tbox t (.slice sa t.args.length sc)) := (hbW2.block R (Array.getElem?_eq_some_iff.1 HX1.out.2.2.2).1).trans HX1.out.2.2.2
    have hp := put1 (HX1.out.1.keep hbW2) (Lx.ofL (Lx.shL t.fn.data.toList)) (by have h1 := HL.out; rw [HE.out, List.length_append] at h1; rw [Lx.ofL_size]; omega)
    rw [Lx.ofL_data] at hp
    have HX2 := hidR (And.intro (HX1.out.2.1.trans (Kp.of_below (B := B) hbW2)) (And.intro (HX1.out.2.2.1.kp (Kp.of_below (B := B) hbW2)) hz2))
    clear hs1 hbW2 hz2 x0 x1 x2 HX1
    go_wp2_with fail
    refine hp.mono ?_
    rintro e W3 ⟨rfl, hw3, hk3⟩
    have hz3 := hk3.same HX2.out.2.2 hRB (by decide)
    obtain ⟨x0, x1, x2⟩ := hcell.out W3 hz3
    have HX3 := hidR (And.intro hw3 (And.intro (HX2.out.1.trans hk3) (HX2.out.2.1.kp hk3)))
    obtain ⟨n, hn⟩ : ∃ n, t.args.length = n := ⟨_, rfl⟩
    have HN := hidR hn
    rw [hn] at x2 HX3 HE hsc
    clear hp hw3 hk3 hz3 HX2 hcell hn
    by_cases h0 : n = 0
    · have h0b : ((n : Int) == 0) = true := by subst h0; rfl
      have HX : Hid (Wr B (l ++ shT t) W3 ∧ Kp B w W3) := ⟨by rw [HE.out, if_pos h0, List.append_nil]; exact HX3.out.1, HX3.out.2.1⟩
      subst h0
      clear HX3 HE
      go_wp2
      (try simp only [Exit.inBlock, Exit.then])
      refine bodyPost_ret (results_none rfl _ _ _) rfl ?_
      exact ⟨rfl, HX.out.1, HX.out.2⟩
    · have h0b : ((n : Int) == 0) = false := by simp; omega
      rw [if_neg h0] at HE
      go_wp2
      go_loopw [4, 5, 26] (fun v4 v5 vi wr => ∃ i : Nat, vi = .int .i64 i ∧ i ≤ n ∧ Hid (∃ l1, l1 ++ (shT.shTs (t.args.drop i) (sepC i) ++ [41]) = l ++ shT t ∧ Wr B l1 wr ∧ Kp B w wr ∧ ArgsP (fun k => k < B) wr (.slice sa n sc) t.args)) (fun v4 v5 vi _ => n - (intOf vi).toNat)
      case atStart => exact ⟨0, rfl, Nat.zero_le _, _, by rw [HE.out, List.drop_zero, List.append_assoc]; rfl, HX3.out.1, HX3.out.2.1, HX3.out.2.2⟩
      case round =>
        obtain ⟨i, rfl, hi, HI⟩ := hrel
        by_cases hlt : i < n
        · have hil : i < t.args.length := by rw [HN.out]; exact hlt
          obtain ⟨l1, hl1, hw1, hk1, ha1⟩ := HI.out
          have hai := ha1
          rw [← HN.out] at hai
          obtain ⟨b, o, s, rfl, hbB, hbl, y0, y1, y2, hss⟩ := hai.nth hil
          obtain ⟨a1, c1, rfl, _, _⟩ := hss.slice'
          rw [shTs_step hil] at hl1
          have hbG := below_box wr (tbox t.args[i] (.slice a1 t.args[i].args.length c1))
          have hzG := (MapKept.heap_alloc wr (tbox t.args[i] (.slice a1 t.args[i].args.length c1))).1
          obtain ⟨G, hG⟩ : ∃ G, wr.heap.size = G := ⟨_, rfl⟩
          obtain ⟨X1, hX1⟩ : ∃ X : World, wr.alloc (tbox t.args[i] (.slice a1 t.args[i].args.length c1)) = X := ⟨_, rfl⟩
          have hGB : G ≠ B := by have := hw1.lt; omega
          rw [hX1] at hbG hzG
          rw [hG] at hzG
          have hll := congrArg List.length hl1
          simp only [List.length_append, List.length_cons, List.length_nil] at hll
          have HLL := HL.out
          have hp := put1 (hw1.keep hbG) ⟨#[sepC i]⟩ (by show l1.length + 1 ≤ _; omega)
          have hih := HIH.out t.args[i] (List.getElem_mem hil) (T.nsm_args HNM.out _ (List.getElem_mem hil)) B
          have HS1 : Hid (∀ X : World, Wr B (l1 ++ [sepC i]) X → Kp B X1 X → X.heap[G]? = some (tbox t.args[i] (.slice a1 t.args[i].args.length c1)) ∧ Calls Tryz.prog 109 #[.pointer (some ⟨B, 0, none⟩), tval t.args[i] (.slice a1 t.args[i].args.length c1)] X fun e w' => e = .returned (.tuple #[]) ∧ Wr B (l1 ++ [sepC i] ++ shT t.args[i]) w' ∧ Kp B X w') := fun X hX hkX => by
            refine ⟨hkX.same hzG hGB (by decide), hih (l1 ++ [sepC i]) X _ hX ((hss.kp (Kp.of_below (B := B) hbG)).kp hkX) ?_⟩
            simp only [List.length_append, List.length_cons, List.length_nil]; omega
          have HT : Hid (l1 ++ [sepC i] ++ shT t.args[i] ++ (shT.shTs (t.args.drop (i + 1)) (sepC (i + 1)) ++ [41]) = l ++ shT t) := by show _ = _; rw [← hl1]; simp
          have HKX : Hid (∀ X : World, Kp B X1 X → Kp B w X ∧ ArgsP (fun k => k < B) X (.slice (some ⟨b, o, none⟩) n sc) t.args) := fun X hX => ⟨(hk1.trans (Kp.of_below hbG)).trans hX, (ha1.kp (Kp.of_below hbG)).kp hX⟩
          have HX1 := hidR hX1
          generalize t.args[i] = u at y0 y1 y2 HS1 HT HX1
          clear hl1 hw1 hk1 ha1 hai hss hbG hzG hX1 hih HI HX3 HE
          go_upto_region 8 with fail
          try simp only [hG]
          rw [show _ = X1 from HX1.out]
          clear HX1
          by_cases hi0 : i = 0
          · subst hi0
            have q0 := idx166_0 X1
            have hmn : min (0 : Int) 1 = 0 := rfl
            have hp' : Calls Tryz.prog 68 #[.pointer (some ⟨B, 0, none⟩), .slice (some ⟨X1.heap.size, 0, none⟩) 1 1] (X1.alloc (.cells #[.string ⟨#[40]⟩] 9)) fun e w' => e = .returned (.tuple #[]) ∧ Wr B (l1 ++ [sepC 0]) w' ∧ Kp B X1 w' := hp
            clear hp hG
            go_wp2_with fail
            refine hp'.mono ?_
            rintro e X2 ⟨rfl, hw2, hk2⟩
            obtain ⟨hzG2, hc2⟩ := HS1.out X2 hw2 hk2
            obtain ⟨g0, g1, g2⟩ : X2.cell? ⟨G, 0, none⟩ = some (.int .i64 u.v) ∧ X2.cell? ⟨G, 1, none⟩ = some (.string u.fn) ∧ X2.cell? ⟨G, 2, none⟩ = some (.slice a1 u.args.length c1) := ⟨cell_storeR (vs := [_, _, _]) hzG2 rfl, cell_storeR (vs := [_, _, _]) hzG2 rfl, cell_storeR (vs := [_, _, _]) hzG2 rfl⟩
            have HK2 := hidR hk2
            clear hp' hw2 hk2 hzG2 HS1 q0
            go_wp2_with fail
            refine hc2.mono ?_
            rintro e X3 ⟨rfl, hw3, hk3⟩
            have HM : Hid (∃ l1, l1 ++ (shT.shTs (t.args.drop (0 + 1)) (sepC (0 + 1)) ++ [41]) = l ++ shT t ∧ Wr B l1 X3 ∧ Kp B w X3 ∧ ArgsP (fun k => k < B) X3 (.slice (some ⟨b, o, none⟩) n sc) t.args) := ⟨_, HT.out, hw3, HKX.out _ (HK2.out.trans hk3)⟩
            clear hc2 hw3 hk3 g0 g1 g2
            go_wp2
            go_roundw
            case rel => exact ⟨0 + 1, by go_num, by omega, HM.out⟩
            case measure => simp [intOf]; omega
          · have q0 := idx166_1 X1
            have hmn : min (i : Int) 1 = 1 := by omega
            have hs44 : sepC i = 44 := if_neg hi0
            have hp' : Calls Tryz.prog 68 #[.pointer (some ⟨B, 0, none⟩), .slice (some ⟨X1.heap.size, 0, none⟩) 1 1] (X1.alloc (.cells #[.string ⟨#[44]⟩] 9)) fun e w' => e = .returned (.tuple #[]) ∧ Wr B (l1 ++ [sepC i]) w' ∧ Kp B X1 w' := by rw [hs44] at hp ⊢; exact hp
            clear hp hG hs44
            go_wp2_with fail
            refine hp'.mono ?_
            rintro e X2 ⟨rfl, hw2, hk2⟩
            obtain ⟨hzG2, hc2⟩ := HS1.out X2 hw2 hk2
            obtain ⟨g0, g1, g2⟩ : X2.cell? ⟨G, 0, none⟩ = some (.int .i64 u.v) ∧ X2.cell? ⟨G, 1, none⟩ = some (.string u.fn) ∧ X2.cell? ⟨G, 2, none⟩ = some (.slice a1 u.args.length c1) := ⟨cell_storeR (vs := [_, _, _]) hzG2 rfl, cell_storeR (vs := [_, _, _]) hzG2 rfl, cell_storeR (vs := [_, _, _]) hzG2 rfl⟩
            have HK2 := hidR hk2
            clear hp' hw2 hk2 hzG2 HS1 q0
            go_wp2_with fail
            refine hc2.mono ?_
            rintro e X3 ⟨rfl, hw3, hk3⟩
            have HM : Hid (∃ l1, l1 ++ (shT.shTs (t.args.drop (i + 1)) (sepC (i + 1)) ++ [41]) = l ++ shT t ∧ Wr B l1 X3 ∧ Kp B w X3 ∧ ArgsP (fun k => k < B) X3 (.slice (some ⟨b, o, none⟩) n sc) t.args) := ⟨_, HT.out, hw3, HKX.out _ (HK2.out.trans hk3)⟩
            clear hc2 hw3 hk3 g0 g1 g2
            go_wp2
            go_roundw
            case rel => exact ⟨i + 1, by go_num, by omega, HM.out⟩
            case measure => simp [intOf]; omega
        · have hin : i = n := by omega
          subst hin
          obtain ⟨l1, hl1, hw1, hk1, -⟩ := HI.out
          rw [← HN.out, List.drop_length, shT.shTs, List.nil_append] at hl1
          have hp := put1 hw1 ⟨#[41]⟩ (by have h1 := congrArg List.length hl1; have := HL.out; simp only [List.length_append, List.length_cons, List.length_nil] at h1; show l1.length + 1 ≤ _; omega)
          have hp' : Calls Tryz.prog 68 #[.pointer (some ⟨B, 0, none⟩), .slice (some ⟨wr.heap.size, 0, none⟩) 1 1] (wr.alloc (.cells #[.string ⟨#[41]⟩] 9)) fun e w' => e = .returned (.tuple #[]) ∧ Wr B (l ++ shT t) w' ∧ Kp B wr w' := by rw [← hl1]; exact hp
          have HK1 := hidR hk1
          clear hp hl1 hw1 hk1 HI HX3 HE
          go_wp2_with fail
          refine hp'.mono ?_
          rintro e W9 ⟨rfl, hw9, hk9⟩
          have HX : Hid (Wr B (l ++ shT t) W9 ∧ Kp B w W9) := ⟨hw9, HK1.out.trans hk9⟩
          clear hp' hw9 hk9
          go_wp2
          refine bodyPost_end (results_none rfl _ _ _) rfl ?_
          exact ⟨rfl, HX.out.1, HX.out.2⟩
end
