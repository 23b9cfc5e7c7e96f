/-
  The contracts of (*sha.State).Write, Len and Copy, on a State that New made.
-/
import Derived.Test.YtdkajbhhmgmohaaDoorSumsWalk
namespace Go.Proofs.YtdkajbhhmgmohaaDoor
open Go.RowKit Sha

set_option maxRecDepth 100000 in
set_option maxHeartbeats 400000 in
theorem write_walk (gs T : Nat) (msg : List UInt8) (v : Value) (bs : List UInt8) (w : World) (hv : SlB gs w v bs)
    (hS : StAt gs T w msg) (hK : KAt w) (hgs : gs ≠ 2) (hlen : msg.length + bs.length ≤ 1099511627776) :
    Calls Tryd.prog 19 #[.pointer (some ⟨gs, 0, none⟩), v] w fun e w' => e = .returned (.int .i64 0) ∧ Only gs w w' ∧ StAt gs T w' (msg ++ bs) := by
  have HV := Lib.hid hv
  clear hv
  obtain ⟨s, rest, hM, hrow⟩ := hS
  have HR := Lib.hid hrow
  clear hrow
  go_enter Tryd.func19, Tryd.ntmps19
  go_wp2_with fail
  refine (usable_walk gs T true s rest msg.length _ HR.out).mono ?_
  rintro e w' ⟨rfl, rfl⟩
  go_wp2_with fail
  refine (take_walk gs T msg v bs _ HV.out ⟨s, rest, hM, HR.out⟩ hK hgs hlen).mono ?_
  rintro e w5 ⟨rfl, ho5, hst5⟩
  go_wp2_with fail
  go_ret
  exact ⟨rfl, ho5, hst5⟩

set_option maxRecDepth 100000 in
set_option maxHeartbeats 400000 in
theorem len_walk (gs T : Nat) (msg : List UInt8) (w : World) (hS : StAt gs T w msg) :
    Calls Tryd.prog 21 #[.pointer (some ⟨gs, 0, none⟩)] w fun e w' => e = .returned (.int .u64 (msg.length : Int)) ∧ w = w' := by
  obtain ⟨s, rest, hM, hrow⟩ := hS
  have c73 : w.cell? ⟨gs, 73, none⟩ = some (.int .u64 (msg.length : Int)) := (cell_of_row _ _ _ _ _ _ hrow).trans (stc_count _ _ _ _ hM.len)
  have HR := Lib.hid hrow
  clear hrow
  go_enter Tryd.func21, Tryd.ntmps21
  go_wp2_with fail
  refine (usable_walk gs T true s rest msg.length _ HR.out).mono ?_
  rintro e w' ⟨rfl, rfl⟩
  go_wp2_with fail
  go_ret
  exact ⟨rfl, rfl⟩

set_option maxRecDepth 100000 in
set_option maxHeartbeats 400000 in
theorem copy_walk (gs T : Nat) (msg : List UInt8) (w : World) (hS : StAt gs T w msg) :
    Calls Tryd.prog 18 #[.pointer (some ⟨gs, 0, none⟩)] w fun e w' => e = .returned (.pointer (some ⟨w.heap.size, 0, none⟩)) ∧ StAt w.heap.size 55 w' msg ∧ Below w.heap.size w w' := by
  obtain ⟨s, rest, hM, hrow⟩ := hS
  have hg := (Array.getElem?_eq_some_iff.1 hrow).1
  have HR := Lib.hid hrow
  clear hrow
  go_enter Tryd.func18, Tryd.ntmps18
  go_wp2_with fail
  refine (usable_walk gs T true s rest msg.length _ HR.out).mono ?_
  rintro e w' ⟨rfl, rfl⟩
  have HI : Hid ((Tryd.prog.info? 55).map (·.size) = some (stc true s rest msg.length).size) := Lib.hid (by rw [stc_size, hM.len]; exact size55)
  have HO : Hid (Tryd.zeroCells55.size = (stc true s rest msg.length).size) := Lib.hid (by rw [stc_size, hM.len, zc55])
  go_wp2_with (first | (refine wpList_load_row rfl 55 _ rfl gs rfl T (stc true s rest msg.length) (0, 0) _ HR.out Tryd.underlying55 rfl HI.out ?_) | (refine wpList_store_rowX rfl 55 _ _ rfl w.heap.size (stc true s rest msg.length) rfl rfl 55 _ (heap_alloc_new _ _) HI.out HO.out (stc_one _ _ _ _) ?_; intro w3 hrow3 ho3 hs3))
  go_ret
  exact ⟨rfl, ⟨s, rest, hM, hrow3⟩, ((Below.refl _ _).alloc (Nat.le_refl _) _).trans (Below.of_only ho3 (Nat.le_refl _) (by simp))⟩
end Go.Proofs.YtdkajbhhmgmohaaDoor
