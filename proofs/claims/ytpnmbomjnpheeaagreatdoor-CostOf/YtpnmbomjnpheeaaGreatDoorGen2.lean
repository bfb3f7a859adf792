/-
 Nothing is wanted here.
-/
import Derived.Test.YtpnmbomjnpheeaaGreatDoorProg
namespace Go.Proofs
end Go.Proofs
