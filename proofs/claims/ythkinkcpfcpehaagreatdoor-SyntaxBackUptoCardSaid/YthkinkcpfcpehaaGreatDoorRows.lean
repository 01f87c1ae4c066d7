/-
  NARROWER THAN 'FOR EVERY INPUT', by the rows' own cells (each row's printed sentence says how): SyntaxReads: laid · SyntaxClauses: laid · SyntaxShows: loops, laid · SyntaxBack: loops, laid · SyntaxCanons: loops, laid.
  DERIVED. THE GIVEN ROWS OF THIS SEAT. 5 by the template 'for every input the law returns true; each argument reads behind the call as it read before'; 0 by the template 'total and deterministic' (their statements: YthkinkcpfcpehaaGreatDoorTotals.lean).
  GIVEN WITH THE SEED: the statements are not yours to turn. If you find one false, say at which input.
  Laid BY PROGRAM, IN A SANDBOX (cutbox-rows.mjs): the forced cells as the released guide's own fill.sh prints them over the translation d7cf9fc518154694… (all of the seat's roots in one cut). By AI agents, Wed Nov 11 2026. No macro, syntax, notation, axiom, sorry.
-/
import Derived.Test.YthkinkcpfcpehaaGreatDoorChecked
import GoSem.Claim
import GoSem.ClaimJoined
import GoSem.ClaimMapViews
import Derived.JoinedTies
import Derived.KernelRfl
namespace Go.Proofs.YthkinkcpfcpehaaGreatDoor
/- THE CELL 'sum', in the pinned program and in every row, IS THE sha256 OF THE DUMP (.gsa) THAT YthkinkcpfcpehaaGreatDoorProg.lean LOADS. Nothing in Lean hashes anything: it is a label: what it is worth is what the hold of that sum in a sandbox is worth. -/
noncomputable def Tryz.pinned : Pinned := { name := "ythkinkcpfcpehaagreatdoor", sum := "d7cf9fc5181546949bbe12500f5e76b242e908e6dca78a65f6d6adfe1a4e513c", checked := Tryz.checked }
namespace Rows
def none {H : Type} : Left H := { results := [], args := [] }

/- WHAT THE LISTED PACKAGE-LEVEL VARIABLES READ AS WHEN THE CALL BEGINS. Each datum BY PROGRAM (the guide's laid-datum.mjs) off the statement by which the dump's own 'gosem.cut.vars' lays the variable. In a bare row this is a premise. The card (YthkinkcpfcpehaaGreatDoorCards.lean) ties it to the program's text. -/
def laid_math_bits_deBruijn32tab {H : Type} : DataW H := .agg [.lit (.int .u8 0), .lit (.int .u8 1), .lit (.int .u8 28), .lit (.int .u8 2), .lit (.int .u8 29), .lit (.int .u8 14), .lit (.int .u8 24), .lit (.int .u8 3), .lit (.int .u8 30), .lit (.int .u8 22), .lit (.int .u8 20), .lit (.int .u8 15), .lit (.int .u8 25), .lit (.int .u8 17), .lit (.int .u8 4), .lit (.int .u8 8), .lit (.int .u8 31), .lit (.int .u8 27), .lit (.int .u8 13), .lit (.int .u8 23), .lit (.int .u8 21), .lit (.int .u8 19), .lit (.int .u8 16), .lit (.int .u8 7), .lit (.int .u8 26), .lit (.int .u8 12), .lit (.int .u8 18), .lit (.int .u8 6), .lit (.int .u8 11), .lit (.int .u8 5), .lit (.int .u8 10), .lit (.int .u8 9)]
def laid_math_bits_deBruijn64tab {H : Type} : DataW H := .agg [.lit (.int .u8 0), .lit (.int .u8 1), .lit (.int .u8 56), .lit (.int .u8 2), .lit (.int .u8 57), .lit (.int .u8 49), .lit (.int .u8 28), .lit (.int .u8 3), .lit (.int .u8 61), .lit (.int .u8 58), .lit (.int .u8 42), .lit (.int .u8 50), .lit (.int .u8 38), .lit (.int .u8 29), .lit (.int .u8 17), .lit (.int .u8 4), .lit (.int .u8 62), .lit (.int .u8 47), .lit (.int .u8 59), .lit (.int .u8 36), .lit (.int .u8 45), .lit (.int .u8 43), .lit (.int .u8 51), .lit (.int .u8 22), .lit (.int .u8 53), .lit (.int .u8 39), .lit (.int .u8 33), .lit (.int .u8 30), .lit (.int .u8 24), .lit (.int .u8 18), .lit (.int .u8 12), .lit (.int .u8 5), .lit (.int .u8 63), .lit (.int .u8 55), .lit (.int .u8 48), .lit (.int .u8 27), .lit (.int .u8 60), .lit (.int .u8 41), .lit (.int .u8 37), .lit (.int .u8 16), .lit (.int .u8 46), .lit (.int .u8 35), .lit (.int .u8 44), .lit (.int .u8 21), .lit (.int .u8 52), .lit (.int .u8 32), .lit (.int .u8 23), .lit (.int .u8 11), .lit (.int .u8 54), .lit (.int .u8 26), .lit (.int .u8 40), .lit (.int .u8 15), .lit (.int .u8 34), .lit (.int .u8 20), .lit (.int .u8 31), .lit (.int .u8 10), .lit (.int .u8 25), .lit (.int .u8 14), .lit (.int .u8 19), .lit (.int .u8 9), .lit (.int .u8 13), .lit (.int .u8 8), .lit (.int .u8 7), .lit (.int .u8 6)]
def laid_internal_strconv_uint64pow10 {H : Type} : DataW H := .agg [.lit (.int .u64 1), .lit (.int .u64 10), .lit (.int .u64 100), .lit (.int .u64 1000), .lit (.int .u64 10000), .lit (.int .u64 100000), .lit (.int .u64 1000000), .lit (.int .u64 10000000), .lit (.int .u64 100000000), .lit (.int .u64 1000000000), .lit (.int .u64 10000000000), .lit (.int .u64 100000000000), .lit (.int .u64 1000000000000), .lit (.int .u64 10000000000000), .lit (.int .u64 100000000000000), .lit (.int .u64 1000000000000000), .lit (.int .u64 10000000000000000), .lit (.int .u64 100000000000000000), .lit (.int .u64 1000000000000000000), .lit (.int .u64 10000000000000000000)]
def laid_assize_syntax_signs {H : Type} : DataW H := .agg [.lit (.string []), .lit (.string []), .lit (.string [126]), .lit (.string [38]), .lit (.string [124]), .lit (.string [61, 62]), .lit (.string [60, 61, 62]), .lit (.string [33]), .lit (.string [63]), .lit (.string [36, 116, 114, 117, 101]), .lit (.string [36, 102, 97, 108, 115, 101])]

/-- 'assizelaw13.SyntaxReads': WHATEVER THE INPUT: true; the input reads as it did. -/
def syntaxReadsSpec : ChangeSpec := { name := "syntaxReads", fn := fun _ => fun
  | [d] => { results := [.lit (.bool true)], args := [d] }
  | _ => none }
def syntaxReadsRow : OpenClaim := { program := "ythkinkcpfcpehaagreatdoor", sum := "d7cf9fc5181546949bbe12500f5e76b242e908e6dca78a65f6d6adfe1a4e513c", func := "assize/assizelaw13.SyntaxReads", spec := "syntaxReads", inPlace := ["internal/abi.NoEscape"], unfollowed := true, recurses := true, named := ["assize/syntax.signs", "internal/strconv.uint64pow10", "math/bits.deBruijn32tab", "math/bits.deBruijn64tab"], apart := false, laid := [("math/bits.deBruijn32tab", laid_math_bits_deBruijn32tab), ("math/bits.deBruijn64tab", laid_math_bits_deBruijn64tab), ("internal/strconv.uint64pow10", laid_internal_strconv_uint64pow10), ("assize/syntax.signs", laid_assize_syntax_signs)] }
def SyntaxReadsSaid : Prop := syntaxReadsRow.holds Tryz.pinned (OpenSpec.ofChange syntaxReadsSpec)

/-- ITS FALSE NEIGHBOUR: 'it returns false'. Refute it at one input. -/
def syntaxReadsWrong : ChangeSpec := { name := "syntaxReads", fn := fun _ => fun
  | [d] => { results := [.lit (.bool false)], args := [d] }
  | _ => none }
def SyntaxReadsWrongFalsely : Prop := syntaxReadsRow.holds Tryz.pinned (OpenSpec.ofChange syntaxReadsWrong)

/-- 'assizelaw13.SyntaxClauses': WHATEVER THE INPUT: true; the input reads as it did. -/
def syntaxClausesSpec : ChangeSpec := { name := "syntaxClauses", fn := fun _ => fun
  | [d] => { results := [.lit (.bool true)], args := [d] }
  | _ => none }
def syntaxClausesRow : OpenClaim := { program := "ythkinkcpfcpehaagreatdoor", sum := "d7cf9fc5181546949bbe12500f5e76b242e908e6dca78a65f6d6adfe1a4e513c", func := "assize/assizelaw13.SyntaxClauses", spec := "syntaxClauses", inPlace := ["internal/abi.NoEscape"], unfollowed := true, recurses := true, named := ["assize/syntax.signs", "internal/strconv.uint64pow10", "math/bits.deBruijn32tab", "math/bits.deBruijn64tab"], apart := false, laid := [("math/bits.deBruijn32tab", laid_math_bits_deBruijn32tab), ("math/bits.deBruijn64tab", laid_math_bits_deBruijn64tab), ("internal/strconv.uint64pow10", laid_internal_strconv_uint64pow10), ("assize/syntax.signs", laid_assize_syntax_signs)] }
def SyntaxClausesSaid : Prop := syntaxClausesRow.holds Tryz.pinned (OpenSpec.ofChange syntaxClausesSpec)

/-- ITS FALSE NEIGHBOUR: 'it returns false'. Refute it at one input. -/
def syntaxClausesWrong : ChangeSpec := { name := "syntaxClauses", fn := fun _ => fun
  | [d] => { results := [.lit (.bool false)], args := [d] }
  | _ => none }
def SyntaxClausesWrongFalsely : Prop := syntaxClausesRow.holds Tryz.pinned (OpenSpec.ofChange syntaxClausesWrong)

/-- 'assizelaw13.SyntaxShows': WHATEVER THE INPUT: true; the input reads as it did. -/
def syntaxShowsSpec : ChangeSpec := { name := "syntaxShows", fn := fun _ => fun
  | [d] => { results := [.lit (.bool true)], args := [d] }
  | _ => none }
def syntaxShowsRow : OpenClaim := { program := "ythkinkcpfcpehaagreatdoor", sum := "d7cf9fc5181546949bbe12500f5e76b242e908e6dca78a65f6d6adfe1a4e513c", func := "assize/assizelaw13.SyntaxShows", spec := "syntaxShows", inPlace := ["internal/abi.NoEscape"], unfollowed := true, recurses := true, named := ["assize/syntax.signs", "internal/strconv.uint64pow10", "math/bits.deBruijn32tab", "math/bits.deBruijn64tab"], loops := true, apart := false, laid := [("math/bits.deBruijn32tab", laid_math_bits_deBruijn32tab), ("math/bits.deBruijn64tab", laid_math_bits_deBruijn64tab), ("internal/strconv.uint64pow10", laid_internal_strconv_uint64pow10), ("assize/syntax.signs", laid_assize_syntax_signs)] }
def SyntaxShowsSaid : Prop := syntaxShowsRow.holds Tryz.pinned (OpenSpec.ofChange syntaxShowsSpec)

/-- ITS FALSE NEIGHBOUR: 'it returns false'. Refute it at one input. -/
def syntaxShowsWrong : ChangeSpec := { name := "syntaxShows", fn := fun _ => fun
  | [d] => { results := [.lit (.bool false)], args := [d] }
  | _ => none }
def SyntaxShowsWrongFalsely : Prop := syntaxShowsRow.holds Tryz.pinned (OpenSpec.ofChange syntaxShowsWrong)

/-- 'assizelaw13.SyntaxBack': WHATEVER THE INPUT: true; the input reads as it did. -/
def syntaxBackSpec : ChangeSpec := { name := "syntaxBack", fn := fun _ => fun
  | [d] => { results := [.lit (.bool true)], args := [d] }
  | _ => none }
def syntaxBackRow : OpenClaim := { program := "ythkinkcpfcpehaagreatdoor", sum := "d7cf9fc5181546949bbe12500f5e76b242e908e6dca78a65f6d6adfe1a4e513c", func := "assize/assizelaw13.SyntaxBack", spec := "syntaxBack", inPlace := ["internal/abi.NoEscape"], unfollowed := true, recurses := true, named := ["assize/syntax.signs", "internal/strconv.uint64pow10", "math/bits.deBruijn32tab", "math/bits.deBruijn64tab"], loops := true, apart := false, laid := [("math/bits.deBruijn32tab", laid_math_bits_deBruijn32tab), ("math/bits.deBruijn64tab", laid_math_bits_deBruijn64tab), ("internal/strconv.uint64pow10", laid_internal_strconv_uint64pow10), ("assize/syntax.signs", laid_assize_syntax_signs)] }
def SyntaxBackSaid : Prop := syntaxBackRow.holds Tryz.pinned (OpenSpec.ofChange syntaxBackSpec)

/-- ITS FALSE NEIGHBOUR: 'it returns false'. Refute it at one input. -/
def syntaxBackWrong : ChangeSpec := { name := "syntaxBack", fn := fun _ => fun
  | [d] => { results := [.lit (.bool false)], args := [d] }
  | _ => none }
def SyntaxBackWrongFalsely : Prop := syntaxBackRow.holds Tryz.pinned (OpenSpec.ofChange syntaxBackWrong)

/-- 'assizelaw13.SyntaxCanons': WHATEVER THE INPUT: true; the input reads as it did. -/
def syntaxCanonsSpec : ChangeSpec := { name := "syntaxCanons", fn := fun _ => fun
  | [d1, d2, d3] => { results := [.lit (.bool true)], args := [d1, d2, d3] }
  | _ => none }
def syntaxCanonsRow : OpenClaim := { program := "ythkinkcpfcpehaagreatdoor", sum := "d7cf9fc5181546949bbe12500f5e76b242e908e6dca78a65f6d6adfe1a4e513c", func := "assize/assizelaw13.SyntaxCanons", spec := "syntaxCanons", inPlace := ["internal/abi.NoEscape"], unfollowed := true, recurses := true, named := ["internal/strconv.uint64pow10", "math/bits.deBruijn32tab", "math/bits.deBruijn64tab", "assize/syntax.signs"], loops := true, apart := false, laid := [("math/bits.deBruijn32tab", laid_math_bits_deBruijn32tab), ("math/bits.deBruijn64tab", laid_math_bits_deBruijn64tab), ("internal/strconv.uint64pow10", laid_internal_strconv_uint64pow10), ("assize/syntax.signs", laid_assize_syntax_signs)] }
def SyntaxCanonsSaid : Prop := syntaxCanonsRow.holds Tryz.pinned (OpenSpec.ofChange syntaxCanonsSpec)

/-- ITS FALSE NEIGHBOUR: 'it returns false'. Refute it at one input. -/
def syntaxCanonsWrong : ChangeSpec := { name := "syntaxCanons", fn := fun _ => fun
  | [d1, d2, d3] => { results := [.lit (.bool false)], args := [d1, d2, d3] }
  | _ => none }
def SyntaxCanonsWrongFalsely : Prop := syntaxCanonsRow.holds Tryz.pinned (OpenSpec.ofChange syntaxCanonsWrong)

/- THE SECOND FORM. 'bulk': how many values and letters a reading holds, each counted each time it is reached (what is shared counts as often as it is met; a slice's spare places count too). A statement '..UptoSaid' is the law's where the arguments, and the package variables that the reading takes, are together of bulk at most 1048576: NARROWER than '..Said'. Prove '..Said' where nothing that the law and all that it calls make is longer than what came in: it says more and counts as full. Else prove '..UptoSaid'. A law counts once. -/
mutual
def uptoBulk {H : Type} : DataW H → Nat
  | .lit (.string bytes) => bytes.length + 1
  | .lit _ => 1
  | .nil => 1
  | .ptr d => uptoBulk d + 1
  | .slice elems spare => uptoBulkAll elems + uptoBulkAll spare + 1
  | .agg parts => uptoBulkAll parts + 1
  | .iface _ d => uptoBulk d + 1
  | .map entries => uptoBulkEntries entries + 1
  | .held _ => 1
def uptoBulkAll {H : Type} : List (DataW H) → Nat
  | [] => 0
  | d :: r => uptoBulk d + uptoBulkAll r
def uptoBulkEntries {H : Type} : List (Lit × DataW H) → Nat
  | [] => 0
  | x :: r => uptoBulkEntry x + uptoBulkEntries r
def uptoBulkEntry {H : Type} : Lit × DataW H → Nat
  | (.string bytes, d) => bytes.length + uptoBulk d + 1
  | (_, d) => uptoBulk d + 1
 end
def uptoSmall : (H : Type) → List (DataW H) → Bool := fun _ ds => decide (uptoBulkAll ds ≤ 1048576)
def OpenSpec.upto (s : _root_.Go.ChangeSpec) : _root_.Go.OpenSpec := { _root_.Go.OpenSpec.ofChange s with cond := some uptoSmall }

/-- 'assizelaw13.SyntaxReads', WHERE WHAT IT READS IS OF BULK AT MOST 1048576: true; the input reads as it did. -/
def syntaxReadsUptoRow : OpenClaim := { program := "ythkinkcpfcpehaagreatdoor", sum := "d7cf9fc5181546949bbe12500f5e76b242e908e6dca78a65f6d6adfe1a4e513c", func := "assize/assizelaw13.SyntaxReads", spec := "syntaxReads", inPlace := ["internal/abi.NoEscape"], unfollowed := true, recurses := true, named := ["assize/syntax.signs", "internal/strconv.uint64pow10", "math/bits.deBruijn32tab", "math/bits.deBruijn64tab"], apart := false, laid := [("math/bits.deBruijn32tab", laid_math_bits_deBruijn32tab), ("math/bits.deBruijn64tab", laid_math_bits_deBruijn64tab), ("internal/strconv.uint64pow10", laid_internal_strconv_uint64pow10), ("assize/syntax.signs", laid_assize_syntax_signs)], narrowed := true }
def SyntaxReadsUptoSaid : Prop := syntaxReadsUptoRow.holds Tryz.pinned (OpenSpec.upto syntaxReadsSpec)

/-- 'assizelaw13.SyntaxClauses', WHERE WHAT IT READS IS OF BULK AT MOST 1048576: true; the input reads as it did. -/
def syntaxClausesUptoRow : OpenClaim := { program := "ythkinkcpfcpehaagreatdoor", sum := "d7cf9fc5181546949bbe12500f5e76b242e908e6dca78a65f6d6adfe1a4e513c", func := "assize/assizelaw13.SyntaxClauses", spec := "syntaxClauses", inPlace := ["internal/abi.NoEscape"], unfollowed := true, recurses := true, named := ["assize/syntax.signs", "internal/strconv.uint64pow10", "math/bits.deBruijn32tab", "math/bits.deBruijn64tab"], apart := false, laid := [("math/bits.deBruijn32tab", laid_math_bits_deBruijn32tab), ("math/bits.deBruijn64tab", laid_math_bits_deBruijn64tab), ("internal/strconv.uint64pow10", laid_internal_strconv_uint64pow10), ("assize/syntax.signs", laid_assize_syntax_signs)], narrowed := true }
def SyntaxClausesUptoSaid : Prop := syntaxClausesUptoRow.holds Tryz.pinned (OpenSpec.upto syntaxClausesSpec)

/-- 'assizelaw13.SyntaxShows', WHERE WHAT IT READS IS OF BULK AT MOST 1048576: true; the input reads as it did. -/
def syntaxShowsUptoRow : OpenClaim := { program := "ythkinkcpfcpehaagreatdoor", sum := "d7cf9fc5181546949bbe12500f5e76b242e908e6dca78a65f6d6adfe1a4e513c", func := "assize/assizelaw13.SyntaxShows", spec := "syntaxShows", inPlace := ["internal/abi.NoEscape"], unfollowed := true, recurses := true, named := ["assize/syntax.signs", "internal/strconv.uint64pow10", "math/bits.deBruijn32tab", "math/bits.deBruijn64tab"], loops := true, apart := false, laid := [("math/bits.deBruijn32tab", laid_math_bits_deBruijn32tab), ("math/bits.deBruijn64tab", laid_math_bits_deBruijn64tab), ("internal/strconv.uint64pow10", laid_internal_strconv_uint64pow10), ("assize/syntax.signs", laid_assize_syntax_signs)], narrowed := true }
def SyntaxShowsUptoSaid : Prop := syntaxShowsUptoRow.holds Tryz.pinned (OpenSpec.upto syntaxShowsSpec)

/-- 'assizelaw13.SyntaxBack', WHERE WHAT IT READS IS OF BULK AT MOST 1048576: true; the input reads as it did. -/
def syntaxBackUptoRow : OpenClaim := { program := "ythkinkcpfcpehaagreatdoor", sum := "d7cf9fc5181546949bbe12500f5e76b242e908e6dca78a65f6d6adfe1a4e513c", func := "assize/assizelaw13.SyntaxBack", spec := "syntaxBack", inPlace := ["internal/abi.NoEscape"], unfollowed := true, recurses := true, named := ["assize/syntax.signs", "internal/strconv.uint64pow10", "math/bits.deBruijn32tab", "math/bits.deBruijn64tab"], loops := true, apart := false, laid := [("math/bits.deBruijn32tab", laid_math_bits_deBruijn32tab), ("math/bits.deBruijn64tab", laid_math_bits_deBruijn64tab), ("internal/strconv.uint64pow10", laid_internal_strconv_uint64pow10), ("assize/syntax.signs", laid_assize_syntax_signs)], narrowed := true }
def SyntaxBackUptoSaid : Prop := syntaxBackUptoRow.holds Tryz.pinned (OpenSpec.upto syntaxBackSpec)

/-- 'assizelaw13.SyntaxCanons', WHERE WHAT IT READS IS OF BULK AT MOST 1048576: true; the input reads as it did. -/
def syntaxCanonsUptoRow : OpenClaim := { program := "ythkinkcpfcpehaagreatdoor", sum := "d7cf9fc5181546949bbe12500f5e76b242e908e6dca78a65f6d6adfe1a4e513c", func := "assize/assizelaw13.SyntaxCanons", spec := "syntaxCanons", inPlace := ["internal/abi.NoEscape"], unfollowed := true, recurses := true, named := ["internal/strconv.uint64pow10", "math/bits.deBruijn32tab", "math/bits.deBruijn64tab", "assize/syntax.signs"], loops := true, apart := false, laid := [("math/bits.deBruijn32tab", laid_math_bits_deBruijn32tab), ("math/bits.deBruijn64tab", laid_math_bits_deBruijn64tab), ("internal/strconv.uint64pow10", laid_internal_strconv_uint64pow10), ("assize/syntax.signs", laid_assize_syntax_signs)], narrowed := true }
def SyntaxCanonsUptoSaid : Prop := syntaxCanonsUptoRow.holds Tryz.pinned (OpenSpec.upto syntaxCanonsSpec)

end Rows
end Go.Proofs.YthkinkcpfcpehaaGreatDoor
