/-
  NARROWER THAN 'FOR EVERY INPUT', by the rows' own cells (each row's printed sentence says how): UnifyFinds: loops · UnifyMatches: loops · UnifyMakes: loops · UnifyGeneral: loops · UnifyEach: loops.
  DERIVED. THE GIVEN ROWS OF THIS SEAT. 6 by the template 'for every input the law returns true; each argument reads behind the call as it read before'; 0 by the template 'total and deterministic' (their statements: YtblfbmdnkgebdaaTotals.lean).
  GIVEN WITH THE SEED: the statements are not yours to turn. If you find one false, say at which input.
  Laid BY PROGRAM, IN A SANDBOX (cutbox-rows.mjs): the forced cells as the released guide's own fill.sh prints them over the translation c2f72d4bd98b91a4… (all of the seat's roots in one cut). By AI agents, Wed Nov 11 2026. No macro, syntax, notation, axiom, sorry.
-/
import Derived.Test.YtblfbmdnkgebdaaChecked
import GoSem.Claim
import GoSem.ClaimJoined
import GoSem.ClaimMapViews
import Derived.JoinedTies
import Derived.KernelRfl
namespace Go.Proofs.Ytblfbmdnkgebdaa
/- THE CELL 'sum', in the pinned program and in every row, IS THE sha256 OF THE DUMP (.gsa) THAT YtblfbmdnkgebdaaProg.lean LOADS. Nothing in Lean hashes anything: it is a label: what it is worth is what the hold of that sum in a sandbox is worth. -/
noncomputable def Try.pinned : Pinned := { name := "ytblfbmdnkgebdaa", sum := "c2f72d4bd98b91a4db2923235952a1a228c8fd47c93a3d9a8cf9327dac90df18", checked := Try.checked }
namespace Rows
def none {H : Type} : Left H := { results := [], args := [] }

/-- 'assizelaw05.UnifyFinds': WHATEVER THE INPUT: true; the input reads as it did. -/
def unifyFindsSpec : ChangeSpec := { name := "unifyFinds", fn := fun _ => fun
  | [d1, d2] => { results := [.lit (.bool true)], args := [d1, d2] }
  | _ => none }
def unifyFindsRow : OpenClaim := { program := "ytblfbmdnkgebdaa", sum := "c2f72d4bd98b91a4db2923235952a1a228c8fd47c93a3d9a8cf9327dac90df18", func := "assize/assizelaw05.UnifyFinds", spec := "unifyFinds", unfollowed := true, recurses := true, loops := true, apart := false }
def UnifyFindsSaid : Prop := unifyFindsRow.holds Try.pinned (OpenSpec.ofChange unifyFindsSpec)

/-- ITS FALSE NEIGHBOUR: 'it returns false'. Refute it at one input. -/
def unifyFindsWrong : ChangeSpec := { name := "unifyFinds", fn := fun _ => fun
  | [d1, d2] => { results := [.lit (.bool false)], args := [d1, d2] }
  | _ => none }
def UnifyFindsWrongFalsely : Prop := unifyFindsRow.holds Try.pinned (OpenSpec.ofChange unifyFindsWrong)

/-- 'assizelaw05.UnifyMatches': WHATEVER THE INPUT: true; the input reads as it did. -/
def unifyMatchesSpec : ChangeSpec := { name := "unifyMatches", fn := fun _ => fun
  | [d1, d2] => { results := [.lit (.bool true)], args := [d1, d2] }
  | _ => none }
def unifyMatchesRow : OpenClaim := { program := "ytblfbmdnkgebdaa", sum := "c2f72d4bd98b91a4db2923235952a1a228c8fd47c93a3d9a8cf9327dac90df18", func := "assize/assizelaw05.UnifyMatches", spec := "unifyMatches", unfollowed := true, recurses := true, loops := true, apart := false }
def UnifyMatchesSaid : Prop := unifyMatchesRow.holds Try.pinned (OpenSpec.ofChange unifyMatchesSpec)

/-- ITS FALSE NEIGHBOUR: 'it returns false'. Refute it at one input. -/
def unifyMatchesWrong : ChangeSpec := { name := "unifyMatches", fn := fun _ => fun
  | [d1, d2] => { results := [.lit (.bool false)], args := [d1, d2] }
  | _ => none }
def UnifyMatchesWrongFalsely : Prop := unifyMatchesRow.holds Try.pinned (OpenSpec.ofChange unifyMatchesWrong)

/-- 'assizelaw05.UnifyMakes': WHATEVER THE INPUT: true; the input reads as it did. -/
def unifyMakesSpec : ChangeSpec := { name := "unifyMakes", fn := fun _ => fun
  | [d1, d2] => { results := [.lit (.bool true)], args := [d1, d2] }
  | _ => none }
def unifyMakesRow : OpenClaim := { program := "ytblfbmdnkgebdaa", sum := "c2f72d4bd98b91a4db2923235952a1a228c8fd47c93a3d9a8cf9327dac90df18", func := "assize/assizelaw05.UnifyMakes", spec := "unifyMakes", unfollowed := true, recurses := true, loops := true, apart := false }
def UnifyMakesSaid : Prop := unifyMakesRow.holds Try.pinned (OpenSpec.ofChange unifyMakesSpec)

/-- ITS FALSE NEIGHBOUR: 'it returns false'. Refute it at one input. -/
def unifyMakesWrong : ChangeSpec := { name := "unifyMakes", fn := fun _ => fun
  | [d1, d2] => { results := [.lit (.bool false)], args := [d1, d2] }
  | _ => none }
def UnifyMakesWrongFalsely : Prop := unifyMakesRow.holds Try.pinned (OpenSpec.ofChange unifyMakesWrong)

/-- 'assizelaw05.UnifyGeneral': WHATEVER THE INPUT: true; the input reads as it did. -/
def unifyGeneralSpec : ChangeSpec := { name := "unifyGeneral", fn := fun _ => fun
  | [d1, d2, d3] => { results := [.lit (.bool true)], args := [d1, d2, d3] }
  | _ => none }
def unifyGeneralRow : OpenClaim := { program := "ytblfbmdnkgebdaa", sum := "c2f72d4bd98b91a4db2923235952a1a228c8fd47c93a3d9a8cf9327dac90df18", func := "assize/assizelaw05.UnifyGeneral", spec := "unifyGeneral", unfollowed := true, recurses := true, loops := true, apart := false }
def UnifyGeneralSaid : Prop := unifyGeneralRow.holds Try.pinned (OpenSpec.ofChange unifyGeneralSpec)

/-- ITS FALSE NEIGHBOUR: 'it returns false'. Refute it at one input. -/
def unifyGeneralWrong : ChangeSpec := { name := "unifyGeneral", fn := fun _ => fun
  | [d1, d2, d3] => { results := [.lit (.bool false)], args := [d1, d2, d3] }
  | _ => none }
def UnifyGeneralWrongFalsely : Prop := unifyGeneralRow.holds Try.pinned (OpenSpec.ofChange unifyGeneralWrong)

/-- 'assizelaw05.UnifyEach': WHATEVER THE INPUT: true; the input reads as it did. -/
def unifyEachSpec : ChangeSpec := { name := "unifyEach", fn := fun _ => fun
  | [d1, d2] => { results := [.lit (.bool true)], args := [d1, d2] }
  | _ => none }
def unifyEachRow : OpenClaim := { program := "ytblfbmdnkgebdaa", sum := "c2f72d4bd98b91a4db2923235952a1a228c8fd47c93a3d9a8cf9327dac90df18", func := "assize/assizelaw05.UnifyEach", spec := "unifyEach", unfollowed := true, recurses := true, loops := true, apart := false }
def UnifyEachSaid : Prop := unifyEachRow.holds Try.pinned (OpenSpec.ofChange unifyEachSpec)

/-- ITS FALSE NEIGHBOUR: 'it returns false'. Refute it at one input. -/
def unifyEachWrong : ChangeSpec := { name := "unifyEach", fn := fun _ => fun
  | [d1, d2] => { results := [.lit (.bool false)], args := [d1, d2] }
  | _ => none }
def UnifyEachWrongFalsely : Prop := unifyEachRow.holds Try.pinned (OpenSpec.ofChange unifyEachWrong)

/-- 'assizelaw05.UnifyDoubles': WHATEVER THE INPUT: true; the input reads as it did. -/
def unifyDoublesSpec : ChangeSpec := { name := "unifyDoubles", fn := fun _ => fun
  | [d1, d2] => { results := [.lit (.bool true)], args := [d1, d2] }
  | _ => none }
def unifyDoublesRow : OpenClaim := { program := "ytblfbmdnkgebdaa", sum := "c2f72d4bd98b91a4db2923235952a1a228c8fd47c93a3d9a8cf9327dac90df18", func := "assize/assizelaw05.UnifyDoubles", spec := "unifyDoubles", unfollowed := true, recurses := true, apart := false }
def UnifyDoublesSaid : Prop := unifyDoublesRow.holds Try.pinned (OpenSpec.ofChange unifyDoublesSpec)

/-- ITS FALSE NEIGHBOUR: 'it returns false'. Refute it at one input. -/
def unifyDoublesWrong : ChangeSpec := { name := "unifyDoubles", fn := fun _ => fun
  | [d1, d2] => { results := [.lit (.bool false)], args := [d1, d2] }
  | _ => none }
def UnifyDoublesWrongFalsely : Prop := unifyDoublesRow.holds Try.pinned (OpenSpec.ofChange unifyDoublesWrong)

/- THE SECOND FORM. 'bulk': how many values and letters a reading holds, each counted each time it is reached (what is shared counts as often as it is met; a slice's spare places count too). A statement '..UptoSaid' is the law's where the arguments, and the package variables that the reading takes, are together of bulk at most 1048576: NARROWER than '..Said'. Prove '..Said' where nothing that the law and all that it calls make is longer than what came in: it says more and counts as full. Else prove '..UptoSaid'. A law counts once. -/
mutual
def uptoBulk {H : Type} : DataW H → Nat
  | .lit (.string bytes) => bytes.length + 1
  | .lit _ => 1
  | .nil => 1
  | .ptr d => uptoBulk d + 1
  | .slice elems spare => uptoBulkAll elems + uptoBulkAll spare + 1
  | .agg parts => uptoBulkAll parts + 1
  | .iface _ d => uptoBulk d + 1
  | .map entries => uptoBulkEntries entries + 1
  | .held _ => 1
def uptoBulkAll {H : Type} : List (DataW H) → Nat
  | [] => 0
  | d :: r => uptoBulk d + uptoBulkAll r
def uptoBulkEntries {H : Type} : List (Lit × DataW H) → Nat
  | [] => 0
  | x :: r => uptoBulkEntry x + uptoBulkEntries r
def uptoBulkEntry {H : Type} : Lit × DataW H → Nat
  | (.string bytes, d) => bytes.length + uptoBulk d + 1
  | (_, d) => uptoBulk d + 1
 end
def uptoSmall : (H : Type) → List (DataW H) → Bool := fun _ ds => decide (uptoBulkAll ds ≤ 1048576)
def OpenSpec.upto (s : _root_.Go.ChangeSpec) : _root_.Go.OpenSpec := { _root_.Go.OpenSpec.ofChange s with cond := some uptoSmall }

/-- 'assizelaw05.UnifyFinds', WHERE WHAT IT READS IS OF BULK AT MOST 1048576: true; the input reads as it did. -/
def unifyFindsUptoRow : OpenClaim := { program := "ytblfbmdnkgebdaa", sum := "c2f72d4bd98b91a4db2923235952a1a228c8fd47c93a3d9a8cf9327dac90df18", func := "assize/assizelaw05.UnifyFinds", spec := "unifyFinds", unfollowed := true, recurses := true, loops := true, apart := false, narrowed := true }
def UnifyFindsUptoSaid : Prop := unifyFindsUptoRow.holds Try.pinned (OpenSpec.upto unifyFindsSpec)

/-- 'assizelaw05.UnifyMatches', WHERE WHAT IT READS IS OF BULK AT MOST 1048576: true; the input reads as it did. -/
def unifyMatchesUptoRow : OpenClaim := { program := "ytblfbmdnkgebdaa", sum := "c2f72d4bd98b91a4db2923235952a1a228c8fd47c93a3d9a8cf9327dac90df18", func := "assize/assizelaw05.UnifyMatches", spec := "unifyMatches", unfollowed := true, recurses := true, loops := true, apart := false, narrowed := true }
def UnifyMatchesUptoSaid : Prop := unifyMatchesUptoRow.holds Try.pinned (OpenSpec.upto unifyMatchesSpec)

/-- 'assizelaw05.UnifyMakes', WHERE WHAT IT READS IS OF BULK AT MOST 1048576: true; the input reads as it did. -/
def unifyMakesUptoRow : OpenClaim := { program := "ytblfbmdnkgebdaa", sum := "c2f72d4bd98b91a4db2923235952a1a228c8fd47c93a3d9a8cf9327dac90df18", func := "assize/assizelaw05.UnifyMakes", spec := "unifyMakes", unfollowed := true, recurses := true, loops := true, apart := false, narrowed := true }
def UnifyMakesUptoSaid : Prop := unifyMakesUptoRow.holds Try.pinned (OpenSpec.upto unifyMakesSpec)

/-- 'assizelaw05.UnifyGeneral', WHERE WHAT IT READS IS OF BULK AT MOST 1048576: true; the input reads as it did. -/
def unifyGeneralUptoRow : OpenClaim := { program := "ytblfbmdnkgebdaa", sum := "c2f72d4bd98b91a4db2923235952a1a228c8fd47c93a3d9a8cf9327dac90df18", func := "assize/assizelaw05.UnifyGeneral", spec := "unifyGeneral", unfollowed := true, recurses := true, loops := true, apart := false, narrowed := true }
def UnifyGeneralUptoSaid : Prop := unifyGeneralUptoRow.holds Try.pinned (OpenSpec.upto unifyGeneralSpec)

/-- 'assizelaw05.UnifyEach', WHERE WHAT IT READS IS OF BULK AT MOST 1048576: true; the input reads as it did. -/
def unifyEachUptoRow : OpenClaim := { program := "ytblfbmdnkgebdaa", sum := "c2f72d4bd98b91a4db2923235952a1a228c8fd47c93a3d9a8cf9327dac90df18", func := "assize/assizelaw05.UnifyEach", spec := "unifyEach", unfollowed := true, recurses := true, loops := true, apart := false, narrowed := true }
def UnifyEachUptoSaid : Prop := unifyEachUptoRow.holds Try.pinned (OpenSpec.upto unifyEachSpec)

/-- 'assizelaw05.UnifyDoubles', WHERE WHAT IT READS IS OF BULK AT MOST 1048576: true; the input reads as it did. -/
def unifyDoublesUptoRow : OpenClaim := { program := "ytblfbmdnkgebdaa", sum := "c2f72d4bd98b91a4db2923235952a1a228c8fd47c93a3d9a8cf9327dac90df18", func := "assize/assizelaw05.UnifyDoubles", spec := "unifyDoubles", unfollowed := true, recurses := true, apart := false, narrowed := true }
def UnifyDoublesUptoSaid : Prop := unifyDoublesUptoRow.holds Try.pinned (OpenSpec.upto unifyDoublesSpec)

end Rows
end Go.Proofs.Ytblfbmdnkgebdaa
