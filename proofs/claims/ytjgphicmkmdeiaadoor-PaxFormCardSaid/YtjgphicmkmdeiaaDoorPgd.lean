/-
  The law on Get: the comparison.
-/
import Derived.Test.YtjgphicmkmdeiaaDoorPu
import Derived.BigRegion
namespace Go.Proofs.YtjgphicmkmdeiaaDoor
open Go.RowKit Go.Maps

set_option maxRecDepth 100000 in
set_option maxHeartbeats 2000000 in
theorem same_walk (w : World) (v u : Value) (l : List Px.Rec) (hv : SlR w v l) (hu : SlR w u l) (hl : l.length ≤ 1000000) :
    Calls Tryd.prog 20 #[v, u] w fun e w' => e = .returned (.bool true) ∧ Below w.heap.size w w' := by
  obtain ⟨p, c, rfl⟩ := hv.shape
  obtain ⟨q, d, rfl⟩ := hu.shape
  obtain ⟨n, hn⟩ : ∃ n, l.length = n := ⟨_, rfl⟩
  rw [hn] at hv hu hl ⊢
  have HN := Lib.hid hn
  have HV := Lib.hid hv
  have HU := Lib.hid hu
  have hcv := hv.le
  have hcu := hu.le
  have hnI : (n : Int) ≤ 1000000 := by omega
  have hnn : ((n : Int) != (n : Int)) = false := by simp
  clear hn hv hu hl
  go_enter Tryd.func20, Tryd.ntmps20
  go_wp2_with fail
  go_loopw [5] (fun v5 wx => ∃ i : Nat, v5 = .int .i64 (i : Int) ∧ i ≤ n ∧ Below w.heap.size w wx) (fun v5 _ => n - (intOf v5).toNat)
  case atStart => exact ⟨0, rfl, Nat.zero_le _, Below.refl _ _⟩
  case round =>
    obtain ⟨i, rfl, hi, hb⟩ := hrel
    have HB := Lib.hid hb
    by_cases hin : i < n
    · obtain ⟨r, hr⟩ : ∃ r, l[i]? = some r := ⟨_, List.getElem?_eq_getElem (by rw [HN.out]; exact hin)⟩
      have HV2 := HV.out.below HB.out (Nat.le_refl _)
      have HU2 := HU.out.below HB.out (Nat.le_refl _)
      obtain ⟨g, o, rfl, hc1, hcell⟩ := HV2.at (by omega)
      obtain ⟨g2, o2, rfl, hc2, hcell2⟩ := HU2.at (by omega)
      obtain ⟨e0, e1⟩ := hcell i r hr
      obtain ⟨f0, f1⟩ := hcell2 i r hr
      obtain ⟨b1, hb1⟩ : ∃ x, (⟨r.1.toArray⟩ : ByteArray) = x := ⟨_, rfl⟩
      obtain ⟨b2, hb2⟩ : ∃ x, (⟨r.2.toArray⟩ : ByteArray) = x := ⟨_, rfl⟩
      rw [hb1] at e0 f0
      rw [hb2] at e1 f1
      have e0D : wr.drew.cell? ⟨g, o + i * 2, none⟩ = some (.string b1) := e0
      have e1D : wr.drew.cell? ⟨g, o + i * 2 + 1, none⟩ = some (.string b2) := e1
      have f0D : wr.drew.cell? ⟨g2, o2 + i * 2, none⟩ = some (.string b1) := f0
      have f1D : wr.drew.cell? ⟨g2, o2 + i * 2 + 1, none⟩ = some (.string b2) := f1
      have hiI : (i : Int) < (n : Int) := by omega
      have hi0 : (i : Int) ≤ 1000000 := by omega
      have HIN := Lib.hid hin
      clear hr hcell hcell2 HV2 HU2 hb1 hb2 hin hi hb
      go_wp2_with fail
      go_region
      all_goals go_wp2_with fail
      all_goals exact ⟨⟨i + 1, by go_num, HIN.out, HB.out.drew⟩, by have := HIN.out; simp only [intOf]; omega⟩
    · obtain rfl : i = n := by omega
      have hd : decide ((i : Int) < (i : Int)) = false := decide_eq_false (by omega)
      clear hin hi hb
      go_wp2_with fail
      go_ret
      exact ⟨rfl, HB.out⟩
end Go.Proofs.YtjgphicmkmdeiaaDoor
