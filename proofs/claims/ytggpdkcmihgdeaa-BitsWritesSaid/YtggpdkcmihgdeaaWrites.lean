/-
  The law BitsWrites walked, whole.
-/
import Derived.Test.YtggpdkcmihgdeaaWrites1
import Derived.Test.YtggpdkcmihgdeaaWrites2
import Derived.Test.YtggpdkcmihgdeaaWrites3
import Derived.Test.YtggpdkcmihgdeaaWrites4
import Derived.Test.YtggpdkcmihgdeaaWrites5
namespace Go.Proofs.Ytggpdkcmihgdeaa
open Go.RowKit Bt
theorem writes_walk (w : World) (pa : Option Addr) (ca : Nat) (acts : List A) (ha : AsAt w (.slice pa acts.length ca) acts) (hlen : acts.length ≤ 9223372036854775807) :
    Calls Try.prog 3 #[.slice pa acts.length ca] w (BoolPost true w) :=
  Leaf.2 (fun k => by
    by_cases h0 : k = 0
    · exact leaf0 k h0
    by_cases h1 : k = 1
    · exact leaf1 k h1
    by_cases h2 : k = 2
    · exact leaf2 k h2
    by_cases h3 : k = 3
    · exact leaf3 k h3
    exact leaf4 k (by omega)) w pa ca acts ha hlen
end Go.Proofs.Ytggpdkcmihgdeaa
