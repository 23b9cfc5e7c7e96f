/-
  HuffFull, whatever the lengths.
-/
import Derived.Test.YtoifppfhnedahaaFullA
import Derived.Test.YtoifppfhnedahaaFullB
import Derived.Test.YtoifppfhnedahaaFullC
import Derived.Test.YtoifppfhnedahaaFullD
namespace Go.Proofs.Ytoifppfhnedahaa
open Go.RowKit Hf
theorem full_walk (w : World) (v : Value) (bs : List Int) (row : Nat) (hv : SlV w v (n8 bs)) (hb : ∀ z ∈ bs, 0 ≤ z ∧ z < 256) (hr : row < 65536) :
    Calls Try.prog 7 #[v, .int .u16 (row : Int)] w fun e w' => e = .returned (.bool true) ∧ Below w.heap.size w w' := by
  have h3 : st (fz bs) = -1 ∨ st (fz bs) = 1 ∨ st (fz bs) = 0 := by
    unfold st; split
    · exact .inl rfl
    · split
      · exact .inr (.inl rfl)
      · exact .inr (.inr rfl)
  rcases h3 with h | h | h
  · cases hl : Hf.lone (fz bs) with
    | true => exact full_lone w v bs row hv hb hr h hl
    | false => exact full_want w v bs row hv hb hr h hl
  · cases hl : Hf.lone (fz bs) with
    | true => rw [lone_wants hl] at h; cases h
    | false => exact full_many w v bs row hv hb hr h hl
  · exact full_full w v bs row hv hb hr h
end Go.Proofs.Ytoifppfhnedahaa
