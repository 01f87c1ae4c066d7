import Derived.Test.YthkinkcpfcpehaaGreatDoorFG
import Derived.Test.YthkinkcpfcpehaaGreatDoorCards
import Derived.Test.YthkinkcpfcpehaaGreatDoorTie
import Derived.ProofKit
import Derived.OpenShut
import Derived.ShutString
import Derived.SizedLaws
import Derived.Deep.DeepHandedRow
import Derived.Lib.LaidTab
import Derived.Lib.LaidU8
import Derived.MakeChecks
namespace Go.Proofs.YthkinkcpfcpehaaGreatDoor
set_option maxRecDepth 100000
open Go.ChangeShapes Go.WideShapes Go.ChangeAt Go.RowKit
theorem own : ownKnob Tryz.prog.godebug = none := by kernel_rfl
theorem laidOut : laidOutB Tryz.prog = true := by kernel_rfl
/-- A block with other cells. -/
def refill (cs : Array Value) : Obj → Obj
  | .cells _ t frozen => .cells cs t frozen
  | o => o
def cellOf : DataW Unit → Value
  | .lit (.int k z) => .int k z
  | .lit (.string b) => .string ⟨b.toArray⟩
  | _ => .bool false
def rowOf : DataW Unit → Array Value
  | .agg l => (l.map cellOf).toArray
  | _ => #[]
def laidHeap (h : Array Obj) : Array Obj := (((h.modify 0 (refill (rowOf Rows.laid_assize_syntax_signs))).modify 1 (refill (rowOf Rows.laid_internal_strconv_uint64pow10))).modify 2 (refill (rowOf Rows.laid_math_bits_deBruijn32tab))).modify 3 (refill (rowOf Rows.laid_math_bits_deBruijn64tab))
/-- A world for the witness: the settled one, the tables holding what their initialisers lay. -/
noncomputable def laidWorld (os : Os) : World := { World.holding Tryz.prog os ⟨#[], #[], []⟩ with heap := laidHeap (World.holding Tryz.prog os ⟨#[], #[], []⟩).heap }
theorem laid_met (os : Os) (args : Array Value) : laidMet Tryz.prog Rows.syntaxReadsUptoRow.laid ((laidWorld os).forCall (fun _ _ => 0) ⟨#[], args, []⟩).memory :=
  laidMet_of_run' 8 (by kernel_rfl) (by kernel_rfl)
/-- An array of strings that reads as these texts holds them, cell for cell. -/
theorem strs_of_tab {H : Type} {enc : TypeId × Value → H} {P : Program} {w : World} {base : Nat} {sp : Nat → Bool} {held : Bool} {fuel : Nat} {t e : TypeId} {n : Nat} {cs : List Value} {zs : List (List UInt8)} {p : List MemPlace}
    (ht : P.underlying t = some (.array n e)) (he : P.underlying e = some .string) (hce : P.cellsOf e = 1) (hct : P.cellsOf t = n)
    (h : DataW.trod enc P w base sp held fuel t cs = some (.agg (zs.map fun z => .lit (.string z)), p)) : cs = zs.map fun z => Value.string ⟨z.toArray⟩ := by
  cases fuel with
  | zero => simp [DataW.trod] at h
  | succ fuel =>
    simp only [DataW.trod, ht, hce, hct, Nat.mul_one] at h
    split at h
    · rename_i hl
      obtain ⟨xs, hm, hx⟩ := Option.map_eq_some_iff.1 h
      have hxs : xs.map (·.1) = zs.map fun z => (DataW.lit (.string z) : DataW H) := by
        have := congrArg Prod.fst hx
        simpa using this
      have hxl : xs.length = n := by simpa using Lib.mapM_length hm
      have hzl : zs.length = n := by
        have := congrArg List.length hxs
        simp at this
        omega
      apply List.ext_getElem?
      intro i
      by_cases hi : i < n
      · obtain ⟨b, hb, hf⟩ := Lib.mapM_at hm i i (by simp [hi])
        obtain ⟨z, hc, rfl, _⟩ := DataW.trod_string he hf
        have h1 : cs[i]? = some (.string z) := by
          have := congrArg (·[0]?) hc
          simpa [List.getElem?_take, List.getElem?_drop] using this
        have h2 : (xs.map (·.1))[i]? = some (DataW.lit (.string z.data.toList) : DataW H) := by simp [hb]
        rw [hxs] at h2
        simp only [List.getElem?_map, Option.map_eq_some_iff, DataW.lit.injEq, Lit.string.injEq] at h2
        obtain ⟨z', hz', rfl⟩ := h2
        simp [h1, hz']
      · rw [List.getElem?_eq_none (by omega), List.getElem?_eq_none (by simp; omega)]
    · cases h
def signZ : List (List UInt8) := [[], [], [126], [38], [124], [61, 62], [60, 61, 62], [33], [63], [36, 116, 114, 117, 101], [36, 102, 97, 108, 115, 101]]
theorem sg_global : Tryz.prog.globalNamed "assize/syntax.signs" = some 0 := by kernel_rfl
theorem sg_type : (Tryz.prog.globals[0]?).map (·.type) = some 107 := by kernel_rfl
theorem sg_row : ((begin Tryz.prog (fun _ _ => 0) default).world.heap[0]?).bind Obj.row? = some (Array.replicate 11 (.string ⟨#[]⟩), 107) := by kernel_rfl
theorem globals4 : Tryz.prog.globals.size = 4 := by kernel_rfl
theorem sg_of {W : World} (hL : laidMetH Tryz.prog Rows.syntaxReadsUptoRow.laid W) (hS : W.ShapedOpen Tryz.prog) : Sg W := by
  rw [Go.MakeChecks.laidMetH_plain _ _ _ (by kernel_rfl)] at hL
  obtain ⟨cs0, h0, -, -⟩ := hS.1 0 _ _ (by rw [globals4]; decide) sg_row
  obtain ⟨g, t, cs, fuel, p, hg, ht, hv, hd⟩ := Lib.laidMet.reads hL (n := "assize/syntax.signs") (d := Rows.laid_assize_syntax_signs) (.tail _ (.tail _ (.tail _ (.head _))))
  obtain rfl := Option.some.inj (sg_global.symm.trans hg)
  obtain rfl := Option.some.inj (sg_type.symm.trans ht)
  have hcs := strs_of_tab (zs := signZ) Tryz.underlying107 Tryz.underlying9 (by kernel_rfl) (by kernel_rfl) (show DataW.trod (fun _ => ()) Tryz.prog W 0 (fun _ => true) false fuel 107 cs.toList = some (.agg (signZ.map fun z => .lit (.string z)), p) from hd)
  unfold World.var? at hv
  rw [sg_global] at hv
  simp only [Option.bind_some, h0, Option.some.injEq] at hv
  subst hv
  unfold Sg
  rw [h0]
  have : cs0 = sgL.toArray := by
    apply Array.toList_inj.1
    rw [hcs]
    rfl
  rw [this]
