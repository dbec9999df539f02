import Derived.Test.YtaafkpojjdjphaaGreatChecked
import Derived.WalkKit
import Derived.BigCall
import Derived.Lib.Hide
import Derived.BigQuiet
namespace Go.Proofs.YtaafkpojjdjphaaGreat.T3
open Go.RowKit
theorem bound : True := trivial
end Go.Proofs.YtaafkpojjdjphaaGreat.T3
