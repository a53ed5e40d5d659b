/-
  THE LAW Covered, where what is read is of bulk at most 1048576: whatever the patterns, the law answers true, and they read as before.
-/
import Derived.Test.YtjhfomfaddfklaaG9
import Derived.Test.YtjhfomfaddfklaaV21
namespace Go.Proofs.Ytjhfomfaddfklaa
theorem covered_holds : Rows.CoveredUptoSaid := coveredUpto.proved usOk8
end Go.Proofs.Ytjhfomfaddfklaa
