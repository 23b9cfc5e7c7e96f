/-
  The contract of wakes, the law's own check of the document's two examples: it returns true.
-/
import Derived.Test.YtdkajbhhmgmohaaDoorName
import Derived.Lib.SlBytesConst
namespace Go.Proofs.YtdkajbhhmgmohaaDoor
open Go.RowKit Sha
def name0 : List UInt8 := [115, 104, 97, 50, 53, 54, 58, 101, 51, 98, 48, 99, 52, 52, 50, 57, 56, 102, 99, 49, 99, 49, 52, 57, 97, 102, 98, 102, 52, 99, 56, 57, 57, 54, 102, 98, 57, 50, 52, 50, 55, 97, 101, 52, 49, 101, 52, 54, 52, 57, 98, 57, 51, 52, 99, 97, 52, 57, 53, 57, 57, 49, 98, 55, 56, 53, 50, 98, 56, 53, 53]
def name1 : List UInt8 := [115, 104, 97, 50, 53, 54, 58, 98, 97, 55, 56, 49, 54, 98, 102, 56, 102, 48, 49, 99, 102, 101, 97, 52, 49, 52, 49, 52, 48, 100, 101, 53, 100, 97, 101, 50, 50, 50, 51, 98, 48, 48, 51, 54, 49, 97, 51, 57, 54, 49, 55, 55, 97, 57, 99, 98, 52, 49, 48, 102, 102, 54, 49, 102, 50, 48, 48, 49, 53, 97, 100]
set_option maxRecDepth 1000000 in
theorem name0_eq : nameL (shaL []) = name0 := by decide +kernel
set_option maxRecDepth 1000000 in
theorem name1_eq : nameL (shaL [97, 98, 99]) = name1 := by decide +kernel
theorem shaL_length (l : List UInt8) : (shaL l).length = 32 := dig_length _
theorem slw_abc (w : World) (t : TypeId) (fr : Nat × Nat) : SlW (w.alloc (.cells #[.int .u8 97, .int .u8 98, .int .u8 99] t fr)) (.slice (some ⟨w.heap.size, 0, none⟩) 3 3) [97, 98, 99] :=
  .inl ⟨w.heap.size, 0, 3, rfl, Nat.le_refl _, fun i hi => by
    rw [Nat.zero_add, cell_of_row _ _ _ _ _ _ (heap_alloc_new _ _)]
    match i, hi with
    | 0, _ => rfl
    | 1, _ => rfl
    | 2, _ => rfl⟩
def BoolPost (b : Bool) (w : World) (e : Ending) (w' : World) : Prop := e = .returned (.bool b) ∧ Below w.heap.size w w'

set_option maxRecDepth 100000 in
set_option maxHeartbeats 400000 in
theorem wakes_walk (w : World) (hK : KAt w) (hH : HAt w) : Calls Tryd.prog 12 #[] w (BoolPost true w) := by
  have hK2 : 2 < w.heap.size := block_lt_of_cell (hK 0 (by omega))
  have kc := fun (w : World) (C : Array Value) (n c : Nat) => Lib.run_convert_bytes_const (P := Tryd.prog) w 22 5 C n c Tryd.underlying22 Tryd.underlying5
  go_enter Tryd.func12, Tryd.ntmps12
  go_wp2_with fail
  refine (sum_walk w _ [] (.inr ⟨none, rfl, rfl⟩) hK hH (by simp)).mono ?_
  rintro e w1 ⟨rfl, hb1⟩
  go_wp2_with fail
  refine (name_walk _ (shaL_length _) _).mono ?_
  rintro e w2 ⟨rfl, hb2⟩
  have hz1 := hb1.size
  have hb12 : Below w.heap.size w w2 := hb1.trans (hb2.mono (by omega))
  have hz2 := hb12.size
  rw [name0_eq, name0]
  go_wp2_with fail
  have hb3 : Below w.heap.size w (w2.alloc (.cells #[.int .u8 97, .int .u8 98, .int .u8 99] 5 (3, 4))) := hb12.alloc hz2 _
  refine (sum_walk _ _ [97, 98, 99] (slw_abc _ _ _) (hK.below hb3 hK2) (hH.below hb3 (by omega)) (by simp)).mono ?_
  rintro e w4 ⟨rfl, hb4⟩
  go_wp2_with fail
  refine (name_walk _ (shaL_length _) _).mono ?_
  rintro e w5 ⟨rfl, hb5⟩
  have hz3 := hb3.size
  have hz4 := hb4.size
  have hb6 : Below w.heap.size w w5 := (hb3.trans (hb4.mono hz3)).trans (hb5.mono (by omega))
  rw [name1_eq, name1]
  go_wp2_with fail
  go_ret
  exact ⟨rfl, hb6⟩
end Go.Proofs.YtdkajbhhmgmohaaDoor
