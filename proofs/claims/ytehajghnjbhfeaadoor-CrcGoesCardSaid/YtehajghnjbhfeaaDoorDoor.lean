/-
  From the given rows' memory to the walks' words: the table of package crc, slices of bytes that came in.
-/
import Derived.Test.YtehajghnjbhfeaaDoorRows
import Derived.Test.YtehajghnjbhfeaaDoorTie
import Derived.Test.YtehajghnjbhfeaaDoorCards
import Derived.Test.YtehajghnjbhfeaaDoorRun
import Derived.ProofKit
import Derived.LaidMore
import Derived.OpenShut
import Derived.ShutString
import Derived.ChangeOld
import Derived.Below
import Derived.Stop.Joined
import Derived.Lib.LaidTab
import Derived.SevenTiedAt
import Derived.Deep.MidRow
namespace Go.Proofs.YtehajghnjbhfeaaDoor
open Go.ChangeShapes Go.WideShapes Go.ChangeAt Go.RowKit Crc

theorem own : ownKnob Tryd.prog.godebug = none := by kernel_rfl
theorem laidOut : laidOutB Tryd.prog = true := by kernel_rfl
theorem gTab : Tryd.prog.globalNamed "portolan/crc.fourSteps" = some 0 := by kernel_rfl
theorem tTab : (Tryd.prog.globals[0]?).map (·.type) = some 49 := by kernel_rfl
def laid1 : List (String × DataW Unit) := [("portolan/crc.fourSteps", Rows.laid_portolan_crc_fourSteps)]
theorem dTab : (Rows.laid_portolan_crc_fourSteps : DataW Unit) = Lib.tabData .u32 (tab.map iv) := by kernel_rfl
/-- The door's own heap meets the condition. -/
theorem door_met (os : Os) (args : Array Value) : laidMetH Tryd.prog laid1 ((World.doorLaid Tryd.prog 4000 os).forCall (fun _ _ => 0) ⟨#[], args, []⟩).memory :=
  laidMetH_of_parts3 (fuel := 8) (laidMet_of_run' 8 (by kernel_rfl) (by kernel_rfl)) (by kernel_rfl) (by kernel_rfl)
theorem of_laid {W : World} (h : laidMetH Tryd.prog laid1 W) : TAt W := by
  rw [MakeChecks.laidMetH_plain _ _ _ (by kernel_rfl)] at h
  obtain ⟨ps, ⟨g0, t0, cs0, f0, p0, q0, hg0, ht0, hv0, hd0, _, _⟩, _, _⟩ := h
  obtain rfl := Option.some.inj (gTab.symm.trans hg0)
  obtain rfl := Option.some.inj (tTab.symm.trans ht0)
  rw [dTab] at hd0
  have e0 := Lib.cells_of_tab Tryd.underlying49 Tryd.underlying23 (by kernel_rfl) (by kernel_rfl) hd0
  intro i hi
  have := World.var?_cell hg0 hv0 i
  have ec : cs0 = wcells tab := by apply Array.ext'; rw [e0]; simp [wcells]
  rw [this, ec, wcells_at _ _ (by rw [show tab.length = 16 from rfl]; exact hi)]

/-- A slice of bytes that came in: nil, or its elements as bytes in memory. -/
theorem bytes_of_ints {W : World} {g o : Nat} {len cap : Nat} {zs : List Int} (hl : len ≤ cap) (hz : zs.length = cap) (hcell : ∀ i, i < zs.length → W.cell? ((⟨g, o, none⟩ : Addr).add i) = some (.int .u8 (zs.getD i 0)))
    (hwf : ∀ n ∈ zs, (Lit.int .u8 n).wf = true) : ∃ us : List UInt8, us.length = len ∧ BytesAt W g o us := by
  refine ⟨(zs.take len).map fun z => UInt8.ofNat z.toNat, by simp; omega, fun i hi => ?_⟩
  have hi' : i < len := by simp at hi; omega
  have hc := hcell i (by omega)
  rw [Addr.add_mid] at hc
  rw [hc]
  have hm : zs.getD i 0 ∈ zs := by
    rw [List.getD_eq_getElem?_getD, List.getElem?_eq_getElem (by omega)]; exact List.getElem_mem _
  have hb := bounds_u8 (hwf _ hm)
  congr 2
  have : ((zs.take len).map fun z => UInt8.ofNat z.toNat).getD i 0 = UInt8.ofNat (zs.getD i 0).toNat := by
    simp [hi', show i < zs.length by omega]
  rw [this, bi_ofNat]
  omega
theorem slice_came {H : Type} {enc : TypeId × Value → H} {W : World} {base : Nat} {v : Value} {d : DataW H} {p : List MemPlace} (hok : Value.okWide Tryd.prog W .any base 27 v) (h : DataW.Trod enc Tryd.prog W 0 (fun _ => true) true 27 v d p) :
    ∃ q us cap, v = .slice q (us : List UInt8).length cap ∧ SlW W v us := by
  obtain ⟨a0, len0, cap0, rfl⟩ := okWide_slice Tryd.underlying27 hok
  obtain ⟨fuel, hf⟩ := h
  rcases open_ints Tryd.underlying27 Tryd.underlying5 (by kernel_rfl) hf with ⟨hcs, _⟩ | ⟨x, l, c, zs, hcs, _, hl, hm, hz, _, hcell, hwz⟩
  · simp [Value.cells] at hcs
    obtain ⟨rfl, rfl, rfl⟩ := hcs
    exact ⟨none, [], 0, rfl, .inr ⟨none, rfl, rfl⟩⟩
  · simp [Value.cells] at hcs
    obtain ⟨rfl, rfl, rfl⟩ := hcs
    obtain ⟨b, o, sp⟩ := x
    obtain rfl : sp = none := by
      have h1 : Cell.ok Tryd.prog W .any base 27 (.slice (some ⟨b, o, sp⟩) len0 cap0) := by
        simpa [Value.okWide, Cell.okWide, Tryd.underlying27] using hok
      simp only [Cell.ok, Tryd.underlying27] at h1
      exact h1.2.2.2.1
    obtain ⟨us, hu, hB⟩ := bytes_of_ints hl (by simpa using hz) hcell hwz
    exact ⟨some ⟨b, o, none⟩, us, cap0, by rw [hu], .inl ⟨b, o, cap0, by rw [hu], by omega, hB⟩⟩
/-- An array of bytes that came in. -/
theorem array_came {H : Type} {enc : TypeId × Value → H} {W : World} {base n : Nat} {t : TypeId} {v : Value} {d : DataW H} {p : List MemPlace} (ht : Tryd.prog.underlying t = some (.array n 5)) (hct : Tryd.prog.cellsOf t = n) (hok : Value.okWide Tryd.prog W .any base t v) (h : DataW.Trod enc Tryd.prog W 0 (fun _ => true) true t v d p) :
    ∃ us : List UInt8, us.length = n ∧ v = .agg (bcells us) := by
  unfold Value.okWide at hok
  rw [ht] at hok
  obtain ⟨cs, rfl, hcs, _⟩ := hok
  obtain ⟨fuel, hf⟩ := h
  have hf' : DataW.trod enc Tryd.prog W 0 (fun _ => true) true fuel t cs.toList = some (d, p) := hf
  obtain ⟨xs, m, _, _, hl, hxl, hall⟩ := DataW.trod_array ht hf'
  have h5 : Tryd.prog.cellsOf 5 = 1 := by kernel_rfl
  rw [hct] at hl
  have each : ∀ i, i < n → ∃ z, cs.toList[i]? = some (.int .u8 z) ∧ (Lit.int .u8 z).wf = true := fun i hi => by
    have hi2 := hall i hi
    rw [h5, Nat.mul_one, List.getElem?_eq_getElem (show i < xs.length by omega)] at hi2
    obtain ⟨z, hc, _, hw⟩ := DataW.trod_int Tryd.underlying5 hi2
    refine ⟨z, ?_, hw⟩
    have := congrArg (·[0]?) hc
    simpa [List.getElem?_take, List.getElem?_drop] using this
  refine ⟨cs.toList.map fun v => UInt8.ofNat (intOf v).toNat, by simpa using hl, ?_⟩
  congr 1
  apply Array.ext_getElem?
  intro i
  by_cases hi : i < n
  · obtain ⟨z, hz, hw⟩ := each i hi
    have hb := bounds_u8 hw
    have hz' : cs[i]? = some (.int .u8 z) := by rw [← Array.getElem?_toList]; exact hz
    rw [hz', bcells_at _ _ (by simpa [hl] using hi)]
    congr 2
    rw [List.getD_eq_getElem?_getD, List.getElem?_map, hz]
    simp only [Option.map_some, Option.getD_some, intOf]
    rw [bi_ofNat]
    omega
  · rw [Array.getElem?_eq_none (by rw [← Array.length_toList]; omega), Array.getElem?_eq_none (by rw [bcells_size]; simpa [hl] using hi)]
theorem word_came {H : Type} {enc : TypeId × Value → H} {W : World} {base : Nat} {v : Value} {d : DataW H} {p : List MemPlace} (hok : Value.okWide Tryd.prog W .any base 23 v) (h : DataW.Trod enc Tryd.prog W 0 (fun _ => true) true 23 v d p) :
    ∃ x : Crc.W, v = .int .u32 (iv x) := by
  obtain ⟨n, rfl, _, _, hw⟩ := open_int Tryd.underlying23 hok h
  refine ⟨wd n, ?_⟩
  have hb := bounds_u32 hw
  rw [iv_wd n (by omega) (by omega)]
end Go.Proofs.YtehajghnjbhfeaaDoor
