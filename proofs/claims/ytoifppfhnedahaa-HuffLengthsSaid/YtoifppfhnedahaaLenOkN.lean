/-
  Lengths, any number of symbols.
-/
import Derived.Test.YtoifppfhnedahaaLenOneN
import Derived.Test.YtoifppfhnedahaaLenManyN
import Derived.Test.YtoifppfhnedahaaLenOverN
namespace Go.Proofs.Ytoifppfhnedahaa
open Go.RowKit Hf
theorem Lengths_okN (w : World) (v : Value) (counts : List Int) (limit : Nat) (hv : SlV w v (ni counts)) (hok : okC counts = true) (hl1 : 1 ≤ limit) (hl2 : limit ≤ 15) (hm : (syms counts).length ≤ 1024) (hk : (syms counts).length ≤ 2 ^ limit)
    (hst : 1 < (syms counts).length → sttOk (syms counts) (zeros counts.length) (lst (its (cnts counts (syms counts)))) limit) :
    Calls Try.prog 9 #[v, .int .i64 (limit : Int)] w (LenPost counts (limit : Int) w) := by
  rcases Nat.lt_trichotomy (syms counts).length 1 with h | h | h
  · exact Lengths_noneN w v counts limit hv hok hl1 hl2 hm hk (by omega) hst
  · exact Lengths_oneN w v counts limit hv hok hl1 hl2 hm hk h hst
  · exact Lengths_manyN w v counts limit hv hok hl1 hl2 hm hk h hst
end Go.Proofs.Ytoifppfhnedahaa
