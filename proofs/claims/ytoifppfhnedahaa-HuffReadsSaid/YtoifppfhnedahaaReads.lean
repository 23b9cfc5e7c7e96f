/-
  HuffReads, whatever the lengths.
-/
import Derived.Test.YtoifppfhnedahaaReadsA
import Derived.Test.YtoifppfhnedahaaReadsB
namespace Go.Proofs.Ytoifppfhnedahaa
open Go.RowKit Hf
theorem reads_walk (w : World) (v u : Value) (zs : List Int) (L : List Bool) (c : Nat) (n : Int) (hv : SlV w v (ni zs)) (hu : SlV w u (nb L)) (hc : c < 4294967296) :
    Calls Try.prog 4 #[v, u, .int .u32 (c : Int), .int .i64 n] w fun e w' => e = .returned (.bool true) ∧ Below w.heap.size w w' := by
  by_cases h : may (zs.take 300) = 0
  · exact reads_book w v u zs L c n hv hu hc h
  · exact reads_nil w v u zs L c n hv hu hc h
end Go.Proofs.Ytoifppfhnedahaa
