/-
  NARROWER THAN 'FOR EVERY INPUT', by the rows' own cells (each row's printed sentence says how): KboCompares: loops · KboThrough: loops · KboKeeps: loops · KboParts: loops.
  DERIVED. THE GIVEN ROWS OF THIS SEAT. 5 by the template 'for every input the law returns true; each argument reads behind the call as it read before'; 0 by the template 'total and deterministic' (their statements: YtcnodgjalkcgiaaTotals.lean).
  GIVEN WITH THE SEED: the statements are not yours to turn. If you find one false, say at which input.
  Laid BY PROGRAM, IN A SANDBOX (cutbox-rows.mjs): the forced cells as the released guide's own fill.sh prints them over the translation c928d26053f8d3e1… (all of the seat's roots in one cut). By AI agents, Wed Nov 11 2026. No macro, syntax, notation, axiom, sorry.
-/
import Derived.Test.YtcnodgjalkcgiaaChecked
import GoSem.Claim
import GoSem.ClaimJoined
import GoSem.ClaimMapViews
import Derived.JoinedTies
import Derived.KernelRfl
namespace Go.Proofs.Ytcnodgjalkcgiaa
/- THE CELL 'sum', in the pinned program and in every row, IS THE sha256 OF THE DUMP (.gsa) THAT YtcnodgjalkcgiaaProg.lean LOADS. Nothing in Lean hashes anything: it is a label: what it is worth is what the hold of that sum in a sandbox is worth. -/
noncomputable def Try.pinned : Pinned := { name := "ytcnodgjalkcgiaa", sum := "c928d26053f8d3e1cee9bfccf91b2fb317d1aef50b7412f46836780d3de85ff3", checked := Try.checked }
namespace Rows
def none {H : Type} : Left H := { results := [], args := [] }

/-- 'assizelaw07.KboCompares': WHATEVER THE INPUT: true; the input reads as it did. -/
def kboComparesSpec : ChangeSpec := { name := "kboCompares", fn := fun _ => fun
  | [d1, d2, d3] => { results := [.lit (.bool true)], args := [d1, d2, d3] }
  | _ => none }
def kboComparesRow : OpenClaim := { program := "ytcnodgjalkcgiaa", sum := "c928d26053f8d3e1cee9bfccf91b2fb317d1aef50b7412f46836780d3de85ff3", func := "assize/assizelaw07.KboCompares", spec := "kboCompares", unfollowed := true, recurses := true, loops := true, apart := false }
def KboComparesSaid : Prop := kboComparesRow.holds Try.pinned (OpenSpec.ofChange kboComparesSpec)

/-- ITS FALSE NEIGHBOUR: 'it returns false'. Refute it at one input. -/
def kboComparesWrong : ChangeSpec := { name := "kboCompares", fn := fun _ => fun
  | [d1, d2, d3] => { results := [.lit (.bool false)], args := [d1, d2, d3] }
  | _ => none }
def KboComparesWrongFalsely : Prop := kboComparesRow.holds Try.pinned (OpenSpec.ofChange kboComparesWrong)

/-- 'assizelaw07.KboNames': WHATEVER THE INPUT: true; the input reads as it did. -/
def kboNamesSpec : ChangeSpec := { name := "kboNames", fn := fun _ => fun
  | [d1, d2, d3] => { results := [.lit (.bool true)], args := [d1, d2, d3] }
  | _ => none }
def kboNamesRow : OpenClaim := { program := "ytcnodgjalkcgiaa", sum := "c928d26053f8d3e1cee9bfccf91b2fb317d1aef50b7412f46836780d3de85ff3", func := "assize/assizelaw07.KboNames", spec := "kboNames", unfollowed := true, recurses := true, apart := false }
def KboNamesSaid : Prop := kboNamesRow.holds Try.pinned (OpenSpec.ofChange kboNamesSpec)

/-- ITS FALSE NEIGHBOUR: 'it returns false'. Refute it at one input. -/
def kboNamesWrong : ChangeSpec := { name := "kboNames", fn := fun _ => fun
  | [d1, d2, d3] => { results := [.lit (.bool false)], args := [d1, d2, d3] }
  | _ => none }
def KboNamesWrongFalsely : Prop := kboNamesRow.holds Try.pinned (OpenSpec.ofChange kboNamesWrong)

/-- 'assizelaw07.KboThrough': WHATEVER THE INPUT: true; the input reads as it did. -/
def kboThroughSpec : ChangeSpec := { name := "kboThrough", fn := fun _ => fun
  | [d1, d2, d3, d4] => { results := [.lit (.bool true)], args := [d1, d2, d3, d4] }
  | _ => none }
def kboThroughRow : OpenClaim := { program := "ytcnodgjalkcgiaa", sum := "c928d26053f8d3e1cee9bfccf91b2fb317d1aef50b7412f46836780d3de85ff3", func := "assize/assizelaw07.KboThrough", spec := "kboThrough", unfollowed := true, recurses := true, loops := true, apart := false }
def KboThroughSaid : Prop := kboThroughRow.holds Try.pinned (OpenSpec.ofChange kboThroughSpec)

/-- ITS FALSE NEIGHBOUR: 'it returns false'. Refute it at one input. -/
def kboThroughWrong : ChangeSpec := { name := "kboThrough", fn := fun _ => fun
  | [d1, d2, d3, d4] => { results := [.lit (.bool false)], args := [d1, d2, d3, d4] }
  | _ => none }
def KboThroughWrongFalsely : Prop := kboThroughRow.holds Try.pinned (OpenSpec.ofChange kboThroughWrong)

/-- 'assizelaw07.KboKeeps': WHATEVER THE INPUT: true; the input reads as it did. -/
def kboKeepsSpec : ChangeSpec := { name := "kboKeeps", fn := fun _ => fun
  | [d1, d2, d3, d4] => { results := [.lit (.bool true)], args := [d1, d2, d3, d4] }
  | _ => none }
def kboKeepsRow : OpenClaim := { program := "ytcnodgjalkcgiaa", sum := "c928d26053f8d3e1cee9bfccf91b2fb317d1aef50b7412f46836780d3de85ff3", func := "assize/assizelaw07.KboKeeps", spec := "kboKeeps", unfollowed := true, recurses := true, loops := true, apart := false }
def KboKeepsSaid : Prop := kboKeepsRow.holds Try.pinned (OpenSpec.ofChange kboKeepsSpec)

/-- ITS FALSE NEIGHBOUR: 'it returns false'. Refute it at one input. -/
def kboKeepsWrong : ChangeSpec := { name := "kboKeeps", fn := fun _ => fun
  | [d1, d2, d3, d4] => { results := [.lit (.bool false)], args := [d1, d2, d3, d4] }
  | _ => none }
def KboKeepsWrongFalsely : Prop := kboKeepsRow.holds Try.pinned (OpenSpec.ofChange kboKeepsWrong)

/-- 'assizelaw07.KboParts': WHATEVER THE INPUT: true; the input reads as it did. -/
def kboPartsSpec : ChangeSpec := { name := "kboParts", fn := fun _ => fun
  | [d1, d2, d3, d4] => { results := [.lit (.bool true)], args := [d1, d2, d3, d4] }
  | _ => none }
def kboPartsRow : OpenClaim := { program := "ytcnodgjalkcgiaa", sum := "c928d26053f8d3e1cee9bfccf91b2fb317d1aef50b7412f46836780d3de85ff3", func := "assize/assizelaw07.KboParts", spec := "kboParts", unfollowed := true, recurses := true, loops := true, apart := false }
def KboPartsSaid : Prop := kboPartsRow.holds Try.pinned (OpenSpec.ofChange kboPartsSpec)

/-- ITS FALSE NEIGHBOUR: 'it returns false'. Refute it at one input. -/
def kboPartsWrong : ChangeSpec := { name := "kboParts", fn := fun _ => fun
  | [d1, d2, d3, d4] => { results := [.lit (.bool false)], args := [d1, d2, d3, d4] }
  | _ => none }
def KboPartsWrongFalsely : Prop := kboPartsRow.holds Try.pinned (OpenSpec.ofChange kboPartsWrong)

/- THE SECOND FORM. 'bulk': how many values and letters a reading holds, each counted each time it is reached (what is shared counts as often as it is met; a slice's spare places count too). A statement '..UptoSaid' is the law's where the arguments, and the package variables that the reading takes, are together of bulk at most 1048576: NARROWER than '..Said'. Prove '..Said' where nothing that the law and all that it calls make is longer than what came in: it says more and counts as full. Else prove '..UptoSaid'. A law counts once. -/
mutual
def uptoBulk {H : Type} : DataW H → Nat
  | .lit (.string bytes) => bytes.length + 1
  | .lit _ => 1
  | .nil => 1
  | .ptr d => uptoBulk d + 1
  | .slice elems spare => uptoBulkAll elems + uptoBulkAll spare + 1
  | .agg parts => uptoBulkAll parts + 1
  | .iface _ d => uptoBulk d + 1
  | .map entries => uptoBulkEntries entries + 1
  | .held _ => 1
def uptoBulkAll {H : Type} : List (DataW H) → Nat
  | [] => 0
  | d :: r => uptoBulk d + uptoBulkAll r
def uptoBulkEntries {H : Type} : List (Lit × DataW H) → Nat
  | [] => 0
  | x :: r => uptoBulkEntry x + uptoBulkEntries r
def uptoBulkEntry {H : Type} : Lit × DataW H → Nat
  | (.string bytes, d) => bytes.length + uptoBulk d + 1
  | (_, d) => uptoBulk d + 1
 end
def uptoSmall : (H : Type) → List (DataW H) → Bool := fun _ ds => decide (uptoBulkAll ds ≤ 1048576)
def OpenSpec.upto (s : _root_.Go.ChangeSpec) : _root_.Go.OpenSpec := { _root_.Go.OpenSpec.ofChange s with cond := some uptoSmall }

/-- 'assizelaw07.KboCompares', WHERE WHAT IT READS IS OF BULK AT MOST 1048576: true; the input reads as it did. -/
def kboComparesUptoRow : OpenClaim := { program := "ytcnodgjalkcgiaa", sum := "c928d26053f8d3e1cee9bfccf91b2fb317d1aef50b7412f46836780d3de85ff3", func := "assize/assizelaw07.KboCompares", spec := "kboCompares", unfollowed := true, recurses := true, loops := true, apart := false, narrowed := true }
def KboComparesUptoSaid : Prop := kboComparesUptoRow.holds Try.pinned (OpenSpec.upto kboComparesSpec)

/-- 'assizelaw07.KboNames', WHERE WHAT IT READS IS OF BULK AT MOST 1048576: true; the input reads as it did. -/
def kboNamesUptoRow : OpenClaim := { program := "ytcnodgjalkcgiaa", sum := "c928d26053f8d3e1cee9bfccf91b2fb317d1aef50b7412f46836780d3de85ff3", func := "assize/assizelaw07.KboNames", spec := "kboNames", unfollowed := true, recurses := true, apart := false, narrowed := true }
def KboNamesUptoSaid : Prop := kboNamesUptoRow.holds Try.pinned (OpenSpec.upto kboNamesSpec)

/-- 'assizelaw07.KboThrough', WHERE WHAT IT READS IS OF BULK AT MOST 1048576: true; the input reads as it did. -/
def kboThroughUptoRow : OpenClaim := { program := "ytcnodgjalkcgiaa", sum := "c928d26053f8d3e1cee9bfccf91b2fb317d1aef50b7412f46836780d3de85ff3", func := "assize/assizelaw07.KboThrough", spec := "kboThrough", unfollowed := true, recurses := true, loops := true, apart := false, narrowed := true }
def KboThroughUptoSaid : Prop := kboThroughUptoRow.holds Try.pinned (OpenSpec.upto kboThroughSpec)

/-- 'assizelaw07.KboKeeps', WHERE WHAT IT READS IS OF BULK AT MOST 1048576: true; the input reads as it did. -/
def kboKeepsUptoRow : OpenClaim := { program := "ytcnodgjalkcgiaa", sum := "c928d26053f8d3e1cee9bfccf91b2fb317d1aef50b7412f46836780d3de85ff3", func := "assize/assizelaw07.KboKeeps", spec := "kboKeeps", unfollowed := true, recurses := true, loops := true, apart := false, narrowed := true }
def KboKeepsUptoSaid : Prop := kboKeepsUptoRow.holds Try.pinned (OpenSpec.upto kboKeepsSpec)

/-- 'assizelaw07.KboParts', WHERE WHAT IT READS IS OF BULK AT MOST 1048576: true; the input reads as it did. -/
def kboPartsUptoRow : OpenClaim := { program := "ytcnodgjalkcgiaa", sum := "c928d26053f8d3e1cee9bfccf91b2fb317d1aef50b7412f46836780d3de85ff3", func := "assize/assizelaw07.KboParts", spec := "kboParts", unfollowed := true, recurses := true, loops := true, apart := false, narrowed := true }
def KboPartsUptoSaid : Prop := kboPartsUptoRow.holds Try.pinned (OpenSpec.upto kboPartsSpec)

end Rows
end Go.Proofs.Ytcnodgjalkcgiaa
