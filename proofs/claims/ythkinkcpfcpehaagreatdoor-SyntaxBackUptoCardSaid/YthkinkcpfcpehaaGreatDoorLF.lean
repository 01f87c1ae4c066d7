import Derived.Shelf.Strings.Builder1
import Derived.Shelf.LaysM
import Derived.Shelf.Strconv.Clone
import Derived.Shelf.Strings.Prefix
import Derived.Test.YthkinkcpfcpehaaGreatDoorRows
import Derived.WalkKit
import Derived.WalkSpells
import Derived.WalkLawsBesides
import Derived.Lib.Strings
import Derived.Lib.Bytealg
namespace Go.Proofs.YthkinkcpfcpehaaGreatDoor.Lx
set_option maxRecDepth 100000
set_option maxHeartbeats 2000000
section
open Go.Shelf Go.RowKit
def Tryz.lays169_ren : Go.Shelf.Ren := ⟨fun | 169 => 36 | n => n, fun | 70 => 69 | 9 => 9 | 0 => 0 | 72 => 72 | 37 => 70 | 127 => 110 | 3 => 3 | 5 => 5 | n => n, fun | n => n⟩
theorem Tryz.lays169 : Go.Proofs.Lays.n169 Tryz.prog Tryz.lays169_ren := {
  mixed := by kernel_rfl
  f169 := Tryz.func36.trans (congrArg some (by kernel_rfl))
  t0 := Tryz.underlying0
  a0 := Tryz.isAgg0
  z0 := Tryz.sizeOf0
  v0 := Tryz.zeroValue0
  t3 := Tryz.underlying3
  a3 := Tryz.isAgg3
  z3 := Tryz.sizeOf3
  v3 := Tryz.zeroValue3
  t9 := Tryz.underlying9
  a9 := Tryz.isAgg9
  z9 := Tryz.sizeOf9
  v9 := Tryz.zeroValue9
  t37 := Tryz.underlying70
  a37 := Tryz.isAgg70
  z37 := Tryz.sizeOf70
  v37 := Tryz.zeroValue70
  t70 := Tryz.underlying69
  a70 := Tryz.isAgg69
  z70 := Tryz.sizeOf69
  v70 := Tryz.zeroValue69
  t72 := Tryz.underlying72
  a72 := Tryz.isAgg72
  z72 := Tryz.sizeOf72
  v72 := Tryz.zeroValue72
  t127 := Tryz.underlying110
  a127 := Tryz.isAgg110
  z127 := Tryz.sizeOf110
  v127 := Tryz.zeroValue110 }
theorem Tryz.Builder_Extra_169 : Builder.Extra Tryz.prog Tryz.lays169_ren := {
  sizeBuilder := by kernel_rfl
  liesBuilder := by kernel_rfl
  t5 := Tryz.underlying5
  a5 := Tryz.isAgg5
  z5 := Tryz.sizeOf5
  v5 := Tryz.zeroValue5
  infoByte := by kernel_rfl
  cellsByte := by kernel_rfl
  sizeByte := by kernel_rfl
  neB5 := by decide }
theorem Tryz.Builder_String_any (B b : Nat) (l : List UInt8) (w : World) (h : Lib.IsBuilder 72 5 B b (Lib.byteCells l) w) (hBw : B ≤ w.heap.size) :
    Calls Tryz.prog 36 #[.pointer (some ⟨b, 0, none⟩)] w fun e w' => e = .returned (.string ⟨l.toArray⟩) ∧ Below B w w' := Any.Builder_String_any Tryz.lays169 Tryz.Builder_Extra_169 B b l w h hBw
def Tryz.laysM316_ren : Go.Shelf.Ren := ⟨fun | 316 => 206 | n => n, fun | 9 => 9 | 3 => 3 | 4 => 4 | 37 => 70 | 0 => 0 | 127 => 110 | 5 => 5 | n => n, fun | n => n⟩
theorem Tryz.laysM316 : Go.Proofs.LaysM.n316 Tryz.prog Tryz.laysM316_ren := {
  mixed := by kernel_rfl
  f316 := Tryz.func206.trans (congrArg some (by kernel_rfl))
  t0 := Tryz.underlying0
  a0 := Tryz.isAgg0
  z0 := Tryz.sizeOf0
  v0 := Tryz.zeroValue0
  t3 := Tryz.underlying3
  a3 := Tryz.isAgg3
  z3 := Tryz.sizeOf3
  v3 := Tryz.zeroValue3
  t4 := Tryz.underlying4
  a4 := Tryz.isAgg4
  z4 := Tryz.sizeOf4
  v4 := Tryz.zeroValue4
  t9 := Tryz.underlying9
  a9 := Tryz.isAgg9
  z9 := Tryz.sizeOf9
  v9 := Tryz.zeroValue9
  t37 := Tryz.underlying70
  a37 := Tryz.isAgg70
  z37 := Tryz.sizeOf70
  v37 := Tryz.zeroValue70
  t127 := Tryz.underlying110
  a127 := Tryz.isAgg110
  z127 := Tryz.sizeOf110
  v127 := Tryz.zeroValue110
  t5 := Tryz.underlying5
  a5 := Tryz.isAgg5
  z5 := Tryz.sizeOf5
  v5 := Tryz.zeroValue5
  i0 := by kernel_rfl
  i3 := by kernel_rfl
  i4 := by kernel_rfl
  i5 := by kernel_rfl
  i9 := by kernel_rfl
  i37 := by kernel_rfl
  i127 := by kernel_rfl }
theorem Tryz.stringslite_Clone (s : ByteArray) (w : World) (hlim : s.size ≤ 281474976710656) :
    Calls Tryz.prog 206 #[.string s] w fun e w' => e = .returned (.string s) ∧ Below w.heap.size w w' := Any.stringslite_Clone Tryz.laysM316 s w hlim
def Tryz.lays206_ren : Go.Shelf.Ren := ⟨fun | 206 => 179 | n => n, fun | 9 => 9 | 4 => 4 | 3 => 3 | n => n, fun | n => n⟩
theorem Tryz.lays206 : Go.Proofs.Lays.n206 Tryz.prog Tryz.lays206_ren := {
  mixed := by kernel_rfl
  f206 := Tryz.func179.trans (congrArg some (by kernel_rfl))
  t3 := Tryz.underlying3
  a3 := Tryz.isAgg3
  z3 := Tryz.sizeOf3
  v3 := Tryz.zeroValue3
  t4 := Tryz.underlying4
  a4 := Tryz.isAgg4
  z4 := Tryz.sizeOf4
  v4 := Tryz.zeroValue4
  t9 := Tryz.underlying9
  a9 := Tryz.isAgg9
  z9 := Tryz.sizeOf9
  v9 := Tryz.zeroValue9 }
theorem Tryz.stringslite_HasPrefix (s p : ByteArray) (w : World) :
    Calls Tryz.prog 179 #[.string s, .string p] w fun e w' => e = .returned (.bool (Lib.hasPrefix s.data.toList p.data.toList)) ∧ w' = w := Any.stringslite_HasPrefix Tryz.lays206 s p w
def Tryz.lays99_ren : Go.Shelf.Ren := ⟨fun | 99 => 147 | 206 => 179 | n => n, fun | 9 => 9 | 4 => 4 | 3 => 3 | n => n, fun | n => n⟩
theorem Tryz.lays99 : Go.Proofs.Lays.n99 Tryz.prog Tryz.lays99_ren := {
  mixed := by kernel_rfl
  f99 := Tryz.func147.trans (congrArg some (by kernel_rfl))
  f206 := Tryz.func179.trans (congrArg some (by kernel_rfl))
  t3 := Tryz.underlying3
  a3 := Tryz.isAgg3
  z3 := Tryz.sizeOf3
  v3 := Tryz.zeroValue3
  t4 := Tryz.underlying4
  a4 := Tryz.isAgg4
  z4 := Tryz.sizeOf4
  v4 := Tryz.zeroValue4
  t9 := Tryz.underlying9
  a9 := Tryz.isAgg9
  z9 := Tryz.sizeOf9
  v9 := Tryz.zeroValue9 }
theorem Tryz.strings_HasPrefix (s p : ByteArray) (w : World) :
    Calls Tryz.prog 147 #[.string s, .string p] w fun e w' => e = .returned (.bool (Lib.hasPrefix s.data.toList p.data.toList)) ∧ w' = w := Any.strings_HasPrefix Tryz.lays99 s p w
end
section
open Go.RowKit
theorem ret_bool {a b : Bool} (h : a = b) : Ending.returned (.bool a) = .returned (.bool b) := by rw [h]
theorem ret_i64 {a b : Int} (h : a = b) : Ending.returned (.int .i64 a) = .returned (.int .i64 b) := by rw [h]
def smB (c : Int) : Bool := decide (97 ≤ c) && decide (c ≤ 122)
def caB (c : Int) : Bool := decide (65 ≤ c) && decide (c ≤ 90)
def wdB (c : Int) : Bool := smB c || caB c || (decide (48 ≤ c) && decide (c ≤ 57)) || c == 95
def prB (c : Int) : Bool := decide (32 ≤ c) && decide (c ≤ 126)
def esB (c : Int) : Bool := c == 39 || c == 92
theorem small_any (c : Int) (w : World) : Calls Tryz.prog 169 #[.int .u8 c] w fun e w' => e = .returned (.bool (smB c)) ∧ w' = w := by
  go_enter Tryz.func169, Tryz.ntmps169
  go_wp2
  all_goals go_ret
  all_goals refine ⟨ret_bool ?_, rfl⟩
  all_goals first | (simp_all [smB]; done) | (simp_all [smB]; omega) | (simp_all [smB]; grind)
theorem capital_any (c : Int) (w : World) : Calls Tryz.prog 153 #[.int .u8 c] w fun e w' => e = .returned (.bool (caB c)) ∧ w' = w := by
  go_enter Tryz.func153, Tryz.ntmps153
  go_wp2
  all_goals go_ret
  all_goals refine ⟨ret_bool ?_, rfl⟩
  all_goals first | (simp_all [caB]; done) | (simp_all [caB]; omega) | (simp_all [caB]; grind)
theorem printable_any (c : Int) (w : World) : Calls Tryz.prog 156 #[.int .u8 c] w fun e w' => e = .returned (.bool (prB c)) ∧ w' = w := by
  go_enter Tryz.func156, Tryz.ntmps156
  go_wp2
  all_goals go_ret
  all_goals refine ⟨ret_bool ?_, rfl⟩
  all_goals first | (simp_all [prB]; done) | (simp_all [prB]; omega) | (simp_all [prB]; grind)
theorem escaped_any (c : Int) (w : World) : Calls Tryz.prog 182 #[.int .u8 c] w fun e w' => e = .returned (.bool (esB c)) ∧ w' = w := by
  go_enter Tryz.func182, Tryz.ntmps182
  go_wp2
  all_goals go_ret
  all_goals refine ⟨ret_bool ?_, rfl⟩
  all_goals first | (simp_all [esB]; done) | (simp_all [esB]; omega) | (simp_all [esB]; grind)
theorem word_any (c : Int) (w : World) : Calls Tryz.prog 185 #[.int .u8 c] w fun e w' => e = .returned (.bool (wdB c)) ∧ w' = w := by
  go_enter Tryz.func185, Tryz.ntmps185
  go_wp2_with (first | (go_at_call 169; refine (small_any _ _).mono ?_; rintro e w' ⟨rfl, rfl⟩) | (go_at_call 153; refine (capital_any _ _).mono ?_; rintro e w' ⟨rfl, rfl⟩))
  all_goals go_ret
  all_goals refine ⟨ret_bool ?_, rfl⟩
  all_goals first | (simp_all [wdB]; done) | (simp_all [wdB]; omega) | (simp_all [wdB]; grind)
end
section
open Go.RowKit
def ofL (l : List UInt8) : ByteArray := ⟨l.toArray⟩
theorem ofL_of {u : ByteArray} {l : List UInt8} (h : u.data.toList = l) : u = ofL l := by
  subst h; rfl
theorem ofL_data (l : List UInt8) : (ofL l).data.toList = l := rfl
theorem ofL_size (l : List UInt8) : (ofL l).size = l.length := rfl
theorem ofL_self (u : ByteArray) : ofL u.data.toList = u := (ofL_of rfl).symm
theorem size_len (u : ByteArray) : u.data.toList.length = u.size := by obtain ⟨⟨l⟩⟩ := u; rfl
theorem drop_cons (s : ByteArray) (i : Nat) (h : i < s.size) : s.data.toList.drop i = s[i] :: s.data.toList.drop (i + 1) := by
  rw [List.drop_eq_getElem_cons (by rw [size_len]; exact h)]
  rfl
theorem drop_end (s : ByteArray) (i : Nat) (h : s.size ≤ i) : s.data.toList.drop i = [] := List.drop_of_length_le (by rw [size_len]; exact h)
theorem is_empty (s : ByteArray) : s.toList.isEmpty = decide (s.size = 0) := by
  rw [Lib.toList_data, ← size_len]
  cases s.data.toList <;> simp
def hd (l : List UInt8) : Int := ((l.headD 0).toNat : Int)
theorem hd_of (s : ByteArray) (h : 0 < s.size) : hd s.data.toList = s[0].toNat := by
  have := drop_cons s 0 h
  rw [List.drop_zero] at this
  rw [this]; rfl
def wlen (l : List UInt8) : Nat := (l.takeWhile fun c => wdB c.toNat).length
theorem wlen_yes {c : UInt8} {r : List UInt8} (h : wdB c.toNat = true) : wlen (c :: r) = wlen r + 1 := by simp [wlen, h]
theorem wlen_no {c : UInt8} {r : List UInt8} (h : wdB c.toNat = false) : wlen (c :: r) = 0 := by simp [wlen, h]
theorem wlen_nil : wlen [] = 0 := rfl
theorem wlen_le (l : List UInt8) : wlen l ≤ l.length := by
  induction l with
  | nil => exact Nat.le_refl _
  | cons c r ih =>
    cases h : wdB c.toNat
    · rw [wlen_no h]; omega
    · rw [wlen_yes h]; simp; omega
theorem wordSize_any (s : ByteArray) (w : World) (hs : s.size ≤ 2097154) : Calls Tryz.prog 154 #[.string s] w fun e w' => e = .returned (.int .i64 (wlen s.data.toList : Nat)) ∧ w' = w := by
  go_enter Tryz.func154, Tryz.ntmps154
  go_wp2
  go_loopw [3] (fun vi wr => ∃ i : Nat, vi = .int .i64 i ∧ i ≤ s.size ∧ wr = w ∧ Hid (wlen s.data.toList = i + wlen (s.data.toList.drop i))) (fun vi _ => s.size - (intOf vi).toNat)
  case atStart => exact ⟨0, rfl, Nat.zero_le _, rfl, by show _ = _; simp⟩
  case round =>
    obtain ⟨i, rfl, hi, rfl, HI⟩ := hrel
    by_cases hlt : i < s.size
    · have HD : Hid (s.data.toList.drop i = s[i] :: s.data.toList.drop (i + 1)) := drop_cons s i hlt
      cases hw : wdB s[i].toNat
      · have HW : Hid (wdB s[i].toNat = false) := hw
        go_wp2_with (go_at_call 185; refine (word_any _ _).mono ?_; rintro e w' ⟨rfl, rfl⟩)
        go_ret
        refine ⟨ret_i64 ?_, rfl⟩
        rw [HI.out, HD.out, wlen_no HW.out]; simp
      · have HW : Hid (wdB s[i].toNat = true) := hw
        go_wp2_with (go_at_call 185; refine (word_any _ _).mono ?_; rintro e w' ⟨rfl, rfl⟩)
        go_roundw
        case rel => exact ⟨i + 1, by go_num, by omega, by simp, by show _ = _; rw [HI.out, HD.out, wlen_yes HW.out]; omega⟩
        case measure => simp [intOf]; omega
    · go_wp2_with (go_at_call 185; refine (word_any _ _).mono ?_; rintro e w' ⟨rfl, rfl⟩)
      go_ret
      refine ⟨ret_i64 ?_, rfl⟩
      rw [HI.out, drop_end s i (by omega), wlen_nil]; simp
def plB (l : List UInt8) : Bool := !l.isEmpty && smB (hd l) && ((wlen l : Int) == (l.length : Int))
def vrB (l : List UInt8) : Bool := !l.isEmpty && decide (l.length ≤ 63) && caB (hd l) && ((wlen l : Int) == (l.length : Int))
def bnB (l : List UInt8) : Bool := !l.isEmpty && !caB (hd l) && (hd l != 64) && (hd l != 36)
def nmB (l : List UInt8) : Bool := bnB l && decide (l.length ≤ 63) && l.all fun c => prB c.toNat
theorem ne_of_pos {s : ByteArray} (h : 0 < s.size) : s.data.toList.isEmpty = false := by
  have := drop_cons s 0 h
  rw [List.drop_zero] at this
  rw [this]; rfl
theorem nil_of_zero {s : ByteArray} (h : ¬ 0 < s.size) : s.data.toList = [] := by
  have := drop_end s 0 (by omega)
  rwa [List.drop_zero] at this
theorem plain_any (s : ByteArray) (w : World) (hs : s.size ≤ 2097154) : Calls Tryz.prog 180 #[.string s] w fun e w' => e = .returned (.bool (plB s.data.toList)) ∧ w' = w := by
  by_cases hp : 0 < s.size
  · have hE : s.toList.isEmpty = false := by rw [is_empty]; exact decide_eq_false (by omega)
    have HE : Hid (plB s.data.toList = (smB s[0].toNat && ((wlen s.data.toList : Int) == (s.size : Int)))) := by
      show _ = _
      unfold plB
      rw [ne_of_pos hp, hd_of s hp, size_len]; rfl
    go_enter Tryz.func180, Tryz.ntmps180
    go_wp2_with (first | (go_at_call 169; refine (small_any _ _).mono ?_; rintro e w' ⟨rfl, rfl⟩) | (go_at_call 154; refine (wordSize_any s _ hs).mono ?_; rintro e w' ⟨rfl, rfl⟩))
    all_goals go_ret
    all_goals refine ⟨ret_bool ?_, rfl⟩
    all_goals rw [HE.out]
    all_goals simp_all
  · have hE : s.toList.isEmpty = true := by rw [is_empty]; exact decide_eq_true (by omega)
    have HE : Hid (plB s.data.toList = false) := by
      show _ = _
      unfold plB
      rw [nil_of_zero hp]; rfl
    go_enter Tryz.func180, Tryz.ntmps180
    go_wp2_with (first | (go_at_call 169; refine (small_any _ _).mono ?_; rintro e w' ⟨rfl, rfl⟩) | (go_at_call 154; refine (wordSize_any s _ hs).mono ?_; rintro e w' ⟨rfl, rfl⟩))
    all_goals go_ret
    all_goals exact ⟨ret_bool HE.out.symm, rfl⟩
theorem begins_any (s : ByteArray) (w : World) : Calls Tryz.prog 155 #[.string s] w fun e w' => e = .returned (.bool (bnB s.data.toList)) ∧ w' = w := by
  by_cases hp : 0 < s.size
  · have hE : s.toList.isEmpty = false := by rw [is_empty]; exact decide_eq_false (by omega)
    have HE : Hid (bnB s.data.toList = (!caB s[0].toNat && ((s[0].toNat : Int) != 64) && ((s[0].toNat : Int) != 36))) := by
      show _ = _
      unfold bnB
      rw [ne_of_pos hp, hd_of s hp]; rfl
    go_enter Tryz.func155, Tryz.ntmps155
    go_wp2_with (first | (go_at_call 153; refine (capital_any _ _).mono ?_; rintro e w' ⟨rfl, rfl⟩))
    all_goals go_ret
    all_goals refine ⟨ret_bool ?_, rfl⟩
    all_goals rw [HE.out]
    all_goals simp_all
  · have hE : s.toList.isEmpty = true := by rw [is_empty]; exact decide_eq_true (by omega)
    have HE : Hid (bnB s.data.toList = false) := by
      show _ = _
      unfold bnB
      rw [nil_of_zero hp]; rfl
    go_enter Tryz.func155, Tryz.ntmps155
    go_wp2_with (first | (go_at_call 153; refine (capital_any _ _).mono ?_; rintro e w' ⟨rfl, rfl⟩))
    all_goals go_ret
    all_goals exact ⟨ret_bool HE.out.symm, rfl⟩
theorem isVar_any (s : ByteArray) (w : World) (hs : s.size ≤ 2097154) : Calls Tryz.prog 115 #[.string s] w fun e w' => e = .returned (.bool (vrB s.data.toList)) ∧ w' = w := by
  by_cases hp : 0 < s.size
  · have hE : s.toList.isEmpty = false := by rw [is_empty]; exact decide_eq_false (by omega)
    have HE : Hid (vrB s.data.toList = (decide (s.size ≤ 63) && caB s[0].toNat && ((wlen s.data.toList : Int) == (s.size : Int)))) := by
      show _ = _
      unfold vrB
      rw [ne_of_pos hp, hd_of s hp, size_len]; rfl
    go_enter Tryz.func115, Tryz.ntmps115
    go_wp2_with (first | (go_at_call 153; refine (capital_any _ _).mono ?_; rintro e w' ⟨rfl, rfl⟩) | (go_at_call 154; refine (wordSize_any s _ hs).mono ?_; rintro e w' ⟨rfl, rfl⟩))
    all_goals go_ret
    all_goals refine ⟨ret_bool ?_, rfl⟩
    all_goals rw [HE.out]
    all_goals first | (simp_all; done) | (simp_all; omega) | (simp_all; intros; omega)
  · have hE : s.toList.isEmpty = true := by rw [is_empty]; exact decide_eq_true (by omega)
    have HE : Hid (vrB s.data.toList = false) := by
      show _ = _
      unfold vrB
      rw [nil_of_zero hp]; rfl
    go_enter Tryz.func115, Tryz.ntmps115
    go_wp2_with (first | (go_at_call 153; refine (capital_any _ _).mono ?_; rintro e w' ⟨rfl, rfl⟩) | (go_at_call 154; refine (wordSize_any s _ hs).mono ?_; rintro e w' ⟨rfl, rfl⟩))
    all_goals go_ret
    all_goals exact ⟨ret_bool HE.out.symm, rfl⟩
end
section
open Go.RowKit Go.Shelf
theorem Tryz.info5 : (Tryz.prog.info? 5).map (fun i => (i.zero, i.size, i.bytes)) = some (some (.int .u8 0), 1, 1) := by kernel_rfl
theorem copyUsed_any (b : Nat) (w : World) (h0 : w.cell? ⟨b, 0, none⟩ = some (.pointer (some ⟨b, 0, none⟩))) :
    Calls Tryz.prog 150 #[.pointer (some ⟨b, 0, none⟩)] w fun e w' => e = .returned (.tuple #[]) ∧ w' = w := by
  obtain ⟨j, hj, _⟩ := Option.map_eq_some_iff.1 Tryz.Builder_Extra_169.sizeBuilder
  go_enter Tryz.func150, Tryz.ntmps150
  go_wp2
  rw [Lib.run_neq_ptr_same w _ Tryz.underlying69 hj]
  go_wp2
  go_end0
  exact ⟨rfl, rfl⟩
theorem copyFresh_any (b : Nat) (w : World) (h0 : w.cell? ⟨b, 0, none⟩ = some (.pointer none)) (hsh : w.shape? b = some (72, 2)) (hfz : w.frozen? ⟨b, 0, none⟩ = false) :
    Calls Tryz.prog 150 #[.pointer (some ⟨b, 0, none⟩)] w fun e w' => e = .returned (.tuple #[]) ∧ w' = w.setCell ⟨b, 0, none⟩ (.pointer (some ⟨b, 0, none⟩)) := by
  obtain ⟨j, hj, hjs⟩ := Option.map_eq_some_iff.1 Tryz.Builder_Extra_169.sizeBuilder
  have hl := Tryz.Builder_Extra_169.liesBuilder
  go_enter Tryz.func150, Tryz.ntmps150
  go_wp2
  rw [Lib.run_to_unsafe w ⟨b, 0, none⟩ Tryz.underlying69 Tryz.underlying185 hj (by rw [hjs]; decide) hsh (Nat.zero_lt_succ 1)]
  simp only [Result.andThen]
  rw [Oper.upon_value]
  go_wp2
  rw [run_callFunc_extern Tryz.func183 (by kernel_rfl) (by kernel_rfl) (by kernel_rfl) (e := Extern.AbiNoEscape.same) (by kernel_rfl)]
  rw [Lib.run_noEscape]
  simp only [Result.andThen]
  rw [Oper.upon_value]
  go_wp2
  rw [Lib.run_from_unsafe w ⟨b, 0, none⟩ Tryz.underlying185 Tryz.underlying69 hj hsh hl]
  simp only [Result.andThen]
  rw [Oper.upon_value]
  go_wp2
  go_end0
  exact ⟨rfl, rfl⟩
theorem copyCheck_any (B b : Nat) (bs : List Value) (w : World) (h : Lib.IsBuilder 72 5 B b bs w) :
    Calls Tryz.prog 150 #[.pointer (some ⟨b, 0, none⟩)] w fun e w' => e = .returned (.tuple #[]) ∧ (Lib.BuilderAt 72 5 B b (.pointer (some ⟨b, 0, none⟩)) bs w' ∧ Below B w w') := by
  rcases h with h | h
  · refine (copyFresh_any b w h.cell0 h.shape h.frozen0).mono ?_
    rintro e w' ⟨rfl, rfl⟩
    exact ⟨rfl, h.used _, (Below.refl B w).setCell (p := ⟨b, 0, none⟩) h.1 _⟩
  · refine (copyUsed_any b w h.cell0).mono ?_
    rintro e w' ⟨rfl, rfl⟩
    exact ⟨rfl, h, Below.refl B _⟩
set_option maxRecDepth 100000 in
theorem writeByte_any (B b : Nat) (bs : List Value) (c : Int) (w : World) (h : Lib.IsBuilder 72 5 B b bs w) (hlen : bs.length + 1 ≤ 140737488355328) (hBw : B ≤ w.heap.size) :
    Calls Tryz.prog 181 #[.pointer (some ⟨b, 0, none⟩), .int .u8 c] w fun e w' => e = .returned .nilIface ∧ Lib.IsBuilder 72 5 B b (bs ++ [.int .u8 c]) w' ∧ Below B w w' := by
  obtain ⟨i0, hi, hz0, hz1, hz2⟩ := info_parts Tryz.info5
  go_enter Tryz.func181, Tryz.ntmps181
  go_wp2_with (go_at_call 150; refine (copyCheck_any B b bs _ h).mono ?_)
  rintro e w1 ⟨rfl, h1, hb1⟩
  obtain ⟨hB, v, hbk, hown, hne⟩ := h1
  have c0 : w1.cell? ⟨b, 0, none⟩ = some (.pointer (some ⟨b, 0, none⟩)) := by rw [Lib.cell_of_heap hbk]; rfl
  have c1 : w1.cell? ⟨b, 1, none⟩ = some v := by rw [Lib.cell_of_heap hbk]; rfl
  go_wp2_with (at_builtin; refine wpList_append_own _ rfl _ _ 70 rfl B 5 i0 (.int .u8 0) 1 1 Tryz.underlying70 hi hz0 hz1 hz2 rfl (by decide) _ _ _ rfl (hown.alloc _) ⟨w1.heap.size, 0, none⟩ 1 1 [.int .u8 c] rfl rfl ?c1 ?c2 ?c3 ?c4 ?c5 ?_)
  case c1 =>
    intro j u hj
    match j, hj with
    | 0, hj => simp at hj; subst hj; simp [Addr.add]
  case c2 => intro u hu; simp at hu; subst hu; rfl
  case c3 => unfold maxLen; omega
  case c4 => omega
  case c5 => have := hb1.size; simp; omega
  intro v' w2 hown' hgrow _
  have hlt : b < w1.heap.size := by
    rcases Nat.lt_or_ge b w1.heap.size with h' | h'
    · exact h'
    · simp [Array.getElem?_eq_none h'] at hbk
  have hb2 : w2.heap[b]? = some (.cells #[.pointer (some ⟨b, 0, none⟩), v] 72 (0, 0)) := by
    rw [hgrow.block b (by simp; omega) (fun e => hne e.symm), Lib.alloc_old w1 _ b hlt]
    exact hbk
  have d0 : w2.cell? ⟨b, 0, none⟩ = some (.pointer (some ⟨b, 0, none⟩)) := by rw [Lib.cell_of_heap hb2]; rfl
  have d1 : w2.cell? ⟨b, 1, none⟩ = some v := by rw [Lib.cell_of_heap hb2]; rfl
  have f1 : w2.frozen? ⟨b, 1, none⟩ = false := Lib.frozen_of_heap hb2 1
  obtain ⟨g, cap, rfl⟩ : ∃ g cap, v' = .slice (some ⟨g, 0, none⟩) (bs.length + 1) cap := by
    rcases hown'.2 with ⟨_, h0⟩ | ⟨g, cap, cur, hv, _⟩
    · omega
    · exact ⟨g, cap, hv⟩
  go_wp2
  go_ret
  refine ⟨rfl, .inr ?_, ?_⟩
  · exact Lib.BuilderAt.put (T := 72) (e := 5) hB hb2 (bs' := bs ++ [.int .u8 c]) (by simpa using hown') (by decide)
  · exact ((hb1.alloc (by have := hb1.size; omega) _).grown hgrow (by have := hb1.size; simp; omega) (fun k hk => (hown.lt k hk).1)).setCell (p := ⟨b, 1, none⟩) hB _
/-- A builder that holds these bytes. -/
def Bd (B : Nat) (l : List UInt8) (w W : World) : Prop := Lib.IsBuilder 72 5 B B (Lib.byteCells l) W ∧ Below B w W ∧ B ≤ W.heap.size ∧ l.length ≤ 4194308
theorem Bd.new (w : World) : Bd w.heap.size [] w (w.alloc (.cells #[.pointer none, .slice none 0 0] 72)) :=
  ⟨.inl ⟨Nat.le_refl _, .slice none 0 0, (MapKept.heap_alloc _ _).1, World.ownsRow_nil _ _ _ _, by simp [Value.ownBlock]⟩, (Below.refl _ _).alloc (Nat.le_refl _) _, by simp, by simp⟩
theorem Bd.write {B : Nat} {l : List UInt8} {w W : World} (h : Bd B l w W) (c : UInt8) (hl : l.length + 1 ≤ 4194308) :
    Calls Tryz.prog 181 #[.pointer (some ⟨B, 0, none⟩), .int .u8 (c.toNat : Int)] W fun e W' => e = .returned .nilIface ∧ Bd B (l ++ [c]) w W' := by
  obtain ⟨h1, h2, h3, h4⟩ := h
  refine (writeByte_any B B _ _ W h1 (by simp [Lib.byteCells]; omega) h3).mono ?_
  rintro e W' ⟨rfl, k1, k2⟩
  refine ⟨rfl, ?_, h2.trans k2, Nat.le_trans h3 k2.size, by simpa using hl⟩
  simpa [Lib.byteCells] using k1
theorem Bd.string {B : Nat} {l : List UInt8} {w W : World} (h : Bd B l w W) :
    Calls Tryz.prog 36 #[.pointer (some ⟨B, 0, none⟩)] W fun e W' => e = .returned (.string (ofL l)) ∧ Below B w W' := by
  obtain ⟨h1, h2, h3, h4⟩ := h
  refine (Tryz.Builder_String_any B B l W h1 h3).mono ?_
  rintro e W' ⟨rfl, k2⟩
  exact ⟨rfl, h2.trans k2⟩
end
section
open Go.RowKit Go.Shelf
def esc (c : UInt8) : List UInt8 := if esB c.toNat then [92, c] else [c]
def escL (l : List UInt8) : List UInt8 := l.flatMap esc
theorem escL_cons (c : UInt8) (r : List UInt8) : escL (c :: r) = esc c ++ escL r := rfl
theorem escL_len (l : List UInt8) : (escL l).length ≤ 2 * l.length := by
  induction l with
  | nil => simp [escL]
  | cons c r ih =>
    rw [escL_cons]
    have : (esc c).length ≤ 2 := by unfold esc; split <;> simp
    simp; omega
def shL (l : List UInt8) : List UInt8 := if plB l then l else 39 :: (escL l ++ [39])
theorem ret_str {a b : ByteArray} (h : a = b) : Ending.returned (.string a) = .returned (.string b) := by rw [h]
set_option maxRecDepth 100000 in
theorem show_any (s : ByteArray) (w : World) (hs : s.size ≤ 2097152) : Calls Tryz.prog 148 #[.string s] w fun e w' => e = .returned (.string (ofL (shL s.data.toList))) ∧ Below w.heap.size w w' := by
  have hc : ∀ W, Calls Tryz.prog 180 #[.string s] W fun e w' => e = .returned (.bool (plB s.data.toList)) ∧ w' = W := fun W => plain_any s W (by omega)
  cases hb : plB s.data.toList
  · rw [hb] at hc
    have HS : Hid (shL s.data.toList = 39 :: (escL s.data.toList ++ [39])) := by show _ = _; unfold shL; rw [hb]; rfl
    have HN : Hid (Bd w.heap.size [] w (w.alloc (.cells #[.pointer none, .slice none 0 0] 72))) := Bd.new w
    have HL : Hid ((escL s.data.toList).length ≤ 2 * s.size) := by have := escL_len s.data.toList; rwa [size_len] at this
    clear hb
    go_enter Tryz.func148, Tryz.ntmps148
    go_wp2_with (first | (go_at_call 180; refine (hc _).mono ?_; rintro e w' ⟨rfl, rfl⟩))
    refine (HN.out.write 39 (by simp)).mono ?_
    rintro e W1 ⟨rfl, h1⟩
    have HB1 : Hid (Bd w'.heap.size ([] ++ [39]) w' W1) := h1
    clear h1 hc
    go_wp2
    go_loopw [4, 11] (fun _ vi wr => ∃ i : Nat, vi = .int .i64 i ∧ i ≤ s.size ∧ Hid (∃ acc, Bd w'.heap.size acc w' wr ∧ acc ++ escL (s.data.toList.drop i) = 39 :: escL s.data.toList)) (fun _ vi _ => s.size - (intOf vi).toNat)
    case atStart => exact ⟨0, rfl, Nat.zero_le _, _, HB1.out, by simp⟩
    case round =>
      obtain ⟨i, rfl, hi, acc, hB, hacc⟩ := hrel
      by_cases hlt : i < s.size
      · have hlen : acc.length ≤ 2 * s.size + 1 := by have := congrArg List.length hacc; simp at this; have := HL.out; omega
        rw [drop_cons s i hlt, escL_cons] at hacc
        have HA : Hid (acc ++ (esc s[i] ++ escL (s.data.toList.drop (i + 1))) = 39 :: escL s.data.toList) := hacc
        have HB : Hid (Bd w'.heap.size acc w' wr ∧ acc.length ≤ 2 * s.size + 1) := ⟨hB, hlen⟩
        clear hB hacc hlen
        cases hw : esB s[i].toNat
        · have HW : Hid (esc s[i] = [s[i]]) := by show _ = _; unfold esc; rw [hw]; rfl
          go_wp2_with (go_at_call 182; refine (escaped_any _ _).mono ?_; rintro e wq ⟨rfl, rfl⟩)
          refine (HB.out.1.write s[i] (by have := HB.out.2; omega)).mono ?_
          rintro e W2 ⟨rfl, h2⟩
          have HB2 : Hid (∃ acc, Bd w'.heap.size acc w' W2 ∧ acc ++ escL (s.data.toList.drop (i + 1)) = 39 :: escL s.data.toList) := ⟨_, h2, by rw [← HA.out, HW.out]; simp⟩
          clear h2
          go_wp2
          go_roundw
          case rel => exact ⟨i + 1, by go_num, by omega, HB2.out⟩
          case measure => simp [intOf]; omega
        · have HW : Hid (esc s[i] = [92, s[i]]) := by show _ = _; unfold esc; rw [hw]; rfl
          go_wp2_with (go_at_call 182; refine (escaped_any _ _).mono ?_; rintro e wq ⟨rfl, rfl⟩)
          refine (HB.out.1.write 92 (by have := HB.out.2; omega)).mono ?_
          rintro e W2 ⟨rfl, h2⟩
          have HB2 : Hid (Bd w'.heap.size (acc ++ [92]) w' W2) := h2
          clear h2
          go_wp2_with fail
          refine (HB2.out.write s[i] (by have := HB.out.2; simp; omega)).mono ?_
          rintro e W3 ⟨rfl, h3⟩
          have HB3 : Hid (∃ acc, Bd w'.heap.size acc w' W3 ∧ acc ++ escL (s.data.toList.drop (i + 1)) = 39 :: escL s.data.toList) := ⟨_, h3, by rw [← HA.out, HW.out]; simp⟩
          clear h3
          go_wp2
          go_roundw
          case rel => exact ⟨i + 1, by go_num, by omega, HB3.out⟩
          case measure => simp [intOf]; omega
      · rw [drop_end s i (by omega)] at hacc
        have HA : Hid (acc = 39 :: escL s.data.toList) := by show _ = _; rw [← hacc]; simp [escL]
        have HB : Hid (Bd w'.heap.size acc w' wr) := hB
        clear hB hacc
        go_wp2_with fail
        refine (HB.out.write 39 (by have := HA.out; rw [this]; have := HL.out; simp; omega)).mono ?_
        rintro e W2 ⟨rfl, h2⟩
        have HB2 : Hid (Bd w'.heap.size (acc ++ [39]) w' W2) := h2
        clear h2
        go_wp2_with fail
        refine HB2.out.string.mono ?_
        rintro e W3 ⟨rfl, h3⟩
        go_wp2
        go_ret
        refine ⟨ret_str ?_, h3⟩
        rw [HA.out, HS.out]; rfl
  · rw [hb] at hc
    have HS : Hid (shL s.data.toList = s.data.toList) := by show _ = _; unfold shL; rw [hb]; rfl
    clear hb
    go_enter Tryz.func148, Tryz.ntmps148
    go_wp2_with (first | (go_at_call 180; refine (hc _).mono ?_; rintro e w' ⟨rfl, rfl⟩))
    go_ret
    refine ⟨ret_str ?_, Below.refl _ _⟩
    rw [HS.out, ofL_self]
end
section
open Go.RowKit Go.Shelf
/-- What stands behind an opening quote: the name, and how many bytes it takes with the closing one. -/
def qs : List UInt8 → Option (List UInt8 × Nat)
  | [] => none
  | c :: r =>
    if c = 39 then some ([], 1)
    else if prB c.toNat = false then none
    else if c = 92 then
      match r with
      | [] => none
      | d :: r' => if esB d.toNat then (qs r').map fun p => (d :: p.1, p.2 + 2) else none
    else (qs r).map fun p => (c :: p.1, p.2 + 1)
theorem qs_nil : qs [] = none := by unfold qs; rfl
theorem qs_end (r : List UInt8) : qs (39 :: r) = some ([], 1) := by unfold qs; simp
theorem qs_bad {c : UInt8} (r : List UInt8) (h : c ≠ 39) (hp : prB c.toNat = false) : qs (c :: r) = none := by unfold qs; simp [h, hp]
theorem qs_one {c : UInt8} (r : List UInt8) (h : c ≠ 39) (hp : prB c.toNat = true) (h2 : c ≠ 92) : qs (c :: r) = (qs r).map fun p => (c :: p.1, p.2 + 1) := by
  conv => lhs; unfold qs
  simp [h, hp, h2]
theorem qs_esc_nil : qs [92] = none := by
  unfold qs
  rw [if_neg (by decide), if_neg (by decide), if_pos rfl]
theorem qs_esc_no {d : UInt8} (r : List UInt8) (h : esB d.toNat = false) : qs (92 :: d :: r) = none := by
  unfold qs
  rw [if_neg (by decide), if_neg (by decide), if_pos rfl]
  simp [h]
theorem qs_esc {d : UInt8} (r : List UInt8) (h : esB d.toNat = true) : qs (92 :: d :: r) = (qs r).map fun p => (d :: p.1, p.2 + 2) := by
  conv => lhs; unfold qs
  rw [if_neg (by decide), if_neg (by decide), if_pos rfl]
  simp [h]
/-- The name that stands so between quotes. -/
def uq : List UInt8 → Option (List UInt8)
  | [] => some []
  | c :: r =>
    if c = 92 then
      match r with
      | [] => none
      | d :: r' => (uq r').map fun p => d :: p
    else (uq r).map fun p => c :: p
theorem uq_nil : uq [] = some [] := by unfold uq; rfl
theorem uq_one {c : UInt8} (r : List UInt8) (h : c ≠ 92) : uq (c :: r) = (uq r).map fun p => c :: p := by
  conv => lhs; unfold uq
  simp [h]
theorem uq_esc_nil : uq [92] = none := by
  unfold uq
  rw [if_pos rfl]
theorem uq_esc (d : UInt8) (r : List UInt8) : uq (92 :: d :: r) = (uq r).map fun p => d :: p := by
  conv => lhs; unfold uq
  rw [if_pos rfl]
theorem qs_uq : ∀ (m : Nat) (r : List UInt8), r.length ≤ m → ∀ n k, qs r = some (n, k) → 1 ≤ k ∧ k ≤ r.length ∧ uq (r.take (k - 1)) = some n := by
  intro m
  induction m with
  | zero =>
    intro r hr n k h
    have : r = [] := List.length_eq_zero_iff.1 (by omega)
    subst this
    rw [qs_nil] at h; cases h
  | succ m ih =>
    intro r hr n k h
    cases r with
    | nil => rw [qs_nil] at h; cases h
    | cons c r =>
      by_cases h1 : c = 39
      · subst h1
        rw [qs_end] at h
        cases h
        exact ⟨Nat.le_refl _, by simp, by simp [uq_nil]⟩
      · cases h2 : prB c.toNat
        · rw [qs_bad r h1 h2] at h; cases h
        · by_cases h3 : c = 92
          · subst h3
            cases r with
            | nil => rw [qs_esc_nil] at h; cases h
            | cons d r =>
              cases h4 : esB d.toNat
              · rw [qs_esc_no r h4] at h; cases h
              · rw [qs_esc r h4] at h
                obtain ⟨⟨n', k'⟩, h5, h6⟩ := Option.map_eq_some_iff.1 h
                cases h6
                obtain ⟨i1, i2, i3⟩ := ih r (by simp at hr; omega) n' k' h5
                refine ⟨by omega, by simp; omega, ?_⟩
                rw [show k' + 2 - 1 = (k' - 1) + 1 + 1 by omega, List.take_succ_cons, List.take_succ_cons, uq_esc, i3]; rfl
          · rw [qs_one r h1 h2 h3] at h
            obtain ⟨⟨n', k'⟩, h5, h6⟩ := Option.map_eq_some_iff.1 h
            cases h6
            obtain ⟨i1, i2, i3⟩ := ih r (by simp at hr; omega) n' k' h5
            refine ⟨by omega, by simp; omega, ?_⟩
            rw [show k' + 1 - 1 = (k' - 1) + 1 by omega, List.take_succ_cons, uq_one _ h3, i3]; rfl
end
