/-
  NARROWER THAN 'FOR EVERY INPUT', by the rows' own cells (each row's printed sentence says how): FingerOf: loops · FingerPlays: loops · FingerMisses: loops · FingerNils: loops.
  DERIVED. THE GIVEN ROWS OF THIS SEAT. 5 by the template 'for every input the law returns true; each argument reads behind the call as it read before'; 0 by the template 'total and deterministic' (their statements: YtiklbkkimmgbcaaTotals.lean).
  GIVEN WITH THE SEED: the statements are not yours to turn. If you find one false, say at which input.
  Laid BY PROGRAM, IN A SANDBOX (cutbox-rows.mjs): the forced cells as the released guide's own fill.sh prints them over the translation 1392892a15e9518e… (all of the seat's roots in one cut). By AI agents, Wed Nov 11 2026. No macro, syntax, notation, axiom, sorry.
-/
import Derived.Test.YtiklbkkimmgbcaaChecked
import GoSem.Claim
import GoSem.ClaimJoined
import GoSem.ClaimMapViews
import Derived.JoinedTies
import Derived.KernelRfl
namespace Go.Proofs.Ytiklbkkimmgbcaa
/- THE CELL 'sum', in the pinned program and in every row, IS THE sha256 OF THE DUMP (.gsa) THAT YtiklbkkimmgbcaaProg.lean LOADS. Nothing in Lean hashes anything: it is a label: what it is worth is what the hold of that sum in a sandbox is worth. -/
noncomputable def Try.pinned : Pinned := { name := "ytiklbkkimmgbcaa", sum := "1392892a15e9518e5af9eb37fcf981893bf37ae3e9e6fc60bf8e5f95731b70a0", checked := Try.checked }
namespace Rows
def none {H : Type} : Left H := { results := [], args := [] }

/-- 'assizelaw10.FingerOf': WHATEVER THE INPUT: true; the input reads as it did. -/
def fingerOfSpec : ChangeSpec := { name := "fingerOf", fn := fun _ => fun
  | [d] => { results := [.lit (.bool true)], args := [d] }
  | _ => none }
def fingerOfRow : OpenClaim := { program := "ytiklbkkimmgbcaa", sum := "1392892a15e9518e5af9eb37fcf981893bf37ae3e9e6fc60bf8e5f95731b70a0", func := "assize/assizelaw10.FingerOf", spec := "fingerOf", unfollowed := true, recurses := true, loops := true, plainKeys := false, apart := false }
def FingerOfSaid : Prop := fingerOfRow.holds Try.pinned (OpenSpec.ofChange fingerOfSpec)

/-- ITS FALSE NEIGHBOUR: 'it returns false'. Refute it at one input. -/
def fingerOfWrong : ChangeSpec := { name := "fingerOf", fn := fun _ => fun
  | [d] => { results := [.lit (.bool false)], args := [d] }
  | _ => none }
def FingerOfWrongFalsely : Prop := fingerOfRow.holds Try.pinned (OpenSpec.ofChange fingerOfWrong)

/-- 'assizelaw10.FingerFits': WHATEVER THE INPUT: true; the input reads as it did. -/
def fingerFitsSpec : ChangeSpec := { name := "fingerFits", fn := fun _ => fun
  | [d1, d2] => { results := [.lit (.bool true)], args := [d1, d2] }
  | _ => none }
def fingerFitsRow : OpenClaim := { program := "ytiklbkkimmgbcaa", sum := "1392892a15e9518e5af9eb37fcf981893bf37ae3e9e6fc60bf8e5f95731b70a0", func := "assize/assizelaw10.FingerFits", spec := "fingerFits", unfollowed := true, recurses := true, plainKeys := false, apart := false }
def FingerFitsSaid : Prop := fingerFitsRow.holds Try.pinned (OpenSpec.ofChange fingerFitsSpec)

/-- ITS FALSE NEIGHBOUR: 'it returns false'. Refute it at one input. -/
def fingerFitsWrong : ChangeSpec := { name := "fingerFits", fn := fun _ => fun
  | [d1, d2] => { results := [.lit (.bool false)], args := [d1, d2] }
  | _ => none }
def FingerFitsWrongFalsely : Prop := fingerFitsRow.holds Try.pinned (OpenSpec.ofChange fingerFitsWrong)

/-- 'assizelaw10.FingerPlays': WHATEVER THE INPUT: true; the input reads as it did. -/
def fingerPlaysSpec : ChangeSpec := { name := "fingerPlays", fn := fun _ => fun
  | [d1, d2] => { results := [.lit (.bool true)], args := [d1, d2] }
  | _ => none }
def fingerPlaysRow : OpenClaim := { program := "ytiklbkkimmgbcaa", sum := "1392892a15e9518e5af9eb37fcf981893bf37ae3e9e6fc60bf8e5f95731b70a0", func := "assize/assizelaw10.FingerPlays", spec := "fingerPlays", unfollowed := true, recurses := true, loops := true, plainKeys := false, apart := false }
def FingerPlaysSaid : Prop := fingerPlaysRow.holds Try.pinned (OpenSpec.ofChange fingerPlaysSpec)

/-- ITS FALSE NEIGHBOUR: 'it returns false'. Refute it at one input. -/
def fingerPlaysWrong : ChangeSpec := { name := "fingerPlays", fn := fun _ => fun
  | [d1, d2] => { results := [.lit (.bool false)], args := [d1, d2] }
  | _ => none }
def FingerPlaysWrongFalsely : Prop := fingerPlaysRow.holds Try.pinned (OpenSpec.ofChange fingerPlaysWrong)

/-- 'assizelaw10.FingerMisses': WHATEVER THE INPUT: true; the input reads as it did. -/
def fingerMissesSpec : ChangeSpec := { name := "fingerMisses", fn := fun _ => fun
  | [d1, d2] => { results := [.lit (.bool true)], args := [d1, d2] }
  | _ => none }
def fingerMissesRow : OpenClaim := { program := "ytiklbkkimmgbcaa", sum := "1392892a15e9518e5af9eb37fcf981893bf37ae3e9e6fc60bf8e5f95731b70a0", func := "assize/assizelaw10.FingerMisses", spec := "fingerMisses", unfollowed := true, recurses := true, loops := true, plainKeys := false, apart := false }
def FingerMissesSaid : Prop := fingerMissesRow.holds Try.pinned (OpenSpec.ofChange fingerMissesSpec)

/-- ITS FALSE NEIGHBOUR: 'it returns false'. Refute it at one input. -/
def fingerMissesWrong : ChangeSpec := { name := "fingerMisses", fn := fun _ => fun
  | [d1, d2] => { results := [.lit (.bool false)], args := [d1, d2] }
  | _ => none }
def FingerMissesWrongFalsely : Prop := fingerMissesRow.holds Try.pinned (OpenSpec.ofChange fingerMissesWrong)

/-- 'assizelaw10.FingerNils': WHATEVER THE INPUT: true; the input reads as it did. -/
def fingerNilsSpec : ChangeSpec := { name := "fingerNils", fn := fun _ => fun
  | [d1, d2] => { results := [.lit (.bool true)], args := [d1, d2] }
  | _ => none }
def fingerNilsRow : OpenClaim := { program := "ytiklbkkimmgbcaa", sum := "1392892a15e9518e5af9eb37fcf981893bf37ae3e9e6fc60bf8e5f95731b70a0", func := "assize/assizelaw10.FingerNils", spec := "fingerNils", unfollowed := true, recurses := true, loops := true, plainKeys := false, apart := false }
def FingerNilsSaid : Prop := fingerNilsRow.holds Try.pinned (OpenSpec.ofChange fingerNilsSpec)

/-- ITS FALSE NEIGHBOUR: 'it returns false'. Refute it at one input. -/
def fingerNilsWrong : ChangeSpec := { name := "fingerNils", fn := fun _ => fun
  | [d1, d2] => { results := [.lit (.bool false)], args := [d1, d2] }
  | _ => none }
def FingerNilsWrongFalsely : Prop := fingerNilsRow.holds Try.pinned (OpenSpec.ofChange fingerNilsWrong)

/- THE SECOND FORM. 'bulk': how many values and letters a reading holds, each counted each time it is reached (what is shared counts as often as it is met; a slice's spare places count too). A statement '..UptoSaid' is the law's where the arguments, and the package variables that the reading takes, are together of bulk at most 1048576: NARROWER than '..Said'. Prove '..Said' where nothing that the law and all that it calls make is longer than what came in: it says more and counts as full. Else prove '..UptoSaid'. A law counts once. -/
mutual
def uptoBulk {H : Type} : DataW H → Nat
  | .lit (.string bytes) => bytes.length + 1
  | .lit _ => 1
  | .nil => 1
  | .ptr d => uptoBulk d + 1
  | .slice elems spare => uptoBulkAll elems + uptoBulkAll spare + 1
  | .agg parts => uptoBulkAll parts + 1
  | .iface _ d => uptoBulk d + 1
  | .map entries => uptoBulkEntries entries + 1
  | .held _ => 1
def uptoBulkAll {H : Type} : List (DataW H) → Nat
  | [] => 0
  | d :: r => uptoBulk d + uptoBulkAll r
def uptoBulkEntries {H : Type} : List (Lit × DataW H) → Nat
  | [] => 0
  | x :: r => uptoBulkEntry x + uptoBulkEntries r
def uptoBulkEntry {H : Type} : Lit × DataW H → Nat
  | (.string bytes, d) => bytes.length + uptoBulk d + 1
  | (_, d) => uptoBulk d + 1
 end
def uptoSmall : (H : Type) → List (DataW H) → Bool := fun _ ds => decide (uptoBulkAll ds ≤ 1048576)
def OpenSpec.upto (s : _root_.Go.ChangeSpec) : _root_.Go.OpenSpec := { _root_.Go.OpenSpec.ofChange s with cond := some uptoSmall }

/-- 'assizelaw10.FingerOf', WHERE WHAT IT READS IS OF BULK AT MOST 1048576: true; the input reads as it did. -/
def fingerOfUptoRow : OpenClaim := { program := "ytiklbkkimmgbcaa", sum := "1392892a15e9518e5af9eb37fcf981893bf37ae3e9e6fc60bf8e5f95731b70a0", func := "assize/assizelaw10.FingerOf", spec := "fingerOf", unfollowed := true, recurses := true, loops := true, plainKeys := false, apart := false, narrowed := true }
def FingerOfUptoSaid : Prop := fingerOfUptoRow.holds Try.pinned (OpenSpec.upto fingerOfSpec)

/-- 'assizelaw10.FingerFits', WHERE WHAT IT READS IS OF BULK AT MOST 1048576: true; the input reads as it did. -/
def fingerFitsUptoRow : OpenClaim := { program := "ytiklbkkimmgbcaa", sum := "1392892a15e9518e5af9eb37fcf981893bf37ae3e9e6fc60bf8e5f95731b70a0", func := "assize/assizelaw10.FingerFits", spec := "fingerFits", unfollowed := true, recurses := true, plainKeys := false, apart := false, narrowed := true }
def FingerFitsUptoSaid : Prop := fingerFitsUptoRow.holds Try.pinned (OpenSpec.upto fingerFitsSpec)

/-- 'assizelaw10.FingerPlays', WHERE WHAT IT READS IS OF BULK AT MOST 1048576: true; the input reads as it did. -/
def fingerPlaysUptoRow : OpenClaim := { program := "ytiklbkkimmgbcaa", sum := "1392892a15e9518e5af9eb37fcf981893bf37ae3e9e6fc60bf8e5f95731b70a0", func := "assize/assizelaw10.FingerPlays", spec := "fingerPlays", unfollowed := true, recurses := true, loops := true, plainKeys := false, apart := false, narrowed := true }
def FingerPlaysUptoSaid : Prop := fingerPlaysUptoRow.holds Try.pinned (OpenSpec.upto fingerPlaysSpec)

/-- 'assizelaw10.FingerMisses', WHERE WHAT IT READS IS OF BULK AT MOST 1048576: true; the input reads as it did. -/
def fingerMissesUptoRow : OpenClaim := { program := "ytiklbkkimmgbcaa", sum := "1392892a15e9518e5af9eb37fcf981893bf37ae3e9e6fc60bf8e5f95731b70a0", func := "assize/assizelaw10.FingerMisses", spec := "fingerMisses", unfollowed := true, recurses := true, loops := true, plainKeys := false, apart := false, narrowed := true }
def FingerMissesUptoSaid : Prop := fingerMissesUptoRow.holds Try.pinned (OpenSpec.upto fingerMissesSpec)

/-- 'assizelaw10.FingerNils', WHERE WHAT IT READS IS OF BULK AT MOST 1048576: true; the input reads as it did. -/
def fingerNilsUptoRow : OpenClaim := { program := "ytiklbkkimmgbcaa", sum := "1392892a15e9518e5af9eb37fcf981893bf37ae3e9e6fc60bf8e5f95731b70a0", func := "assize/assizelaw10.FingerNils", spec := "fingerNils", unfollowed := true, recurses := true, loops := true, plainKeys := false, apart := false, narrowed := true }
def FingerNilsUptoSaid : Prop := fingerNilsUptoRow.holds Try.pinned (OpenSpec.upto fingerNilsSpec)

end Rows
end Go.Proofs.Ytiklbkkimmgbcaa
