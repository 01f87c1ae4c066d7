/-
  The document's Is.
-/
import Derived.Test.YtijihmncbaoklaaSA
import Derived.Test.YtijihmncbaoklaaQF
namespace Go.Proofs.Ytijihmncbaoklaa
open Go.RowKit

end Go.Proofs.Ytijihmncbaoklaa
