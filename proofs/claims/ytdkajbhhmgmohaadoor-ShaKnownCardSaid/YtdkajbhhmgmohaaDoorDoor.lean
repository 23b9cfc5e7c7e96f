/-
  From the given rows' memory to the walks' words: the two tables of package sha, bytes that came in.
-/
import Derived.Test.YtdkajbhhmgmohaaDoorRows
import Derived.Test.YtdkajbhhmgmohaaDoorTie
import Derived.Test.YtdkajbhhmgmohaaDoorCards
import Derived.Test.YtdkajbhhmgmohaaDoorSumsWalk
import Derived.ProofKit
import Derived.LaidMore
import Derived.OpenShut
import Derived.ShutString
import Derived.ChangeOld
import Derived.Below
import Derived.Stop.Joined
import Derived.Lib.LaidTab
import Derived.SevenTiedAt
namespace Go.Proofs.YtdkajbhhmgmohaaDoor
open Go.ChangeShapes Go.WideShapes Go.ChangeAt Go.RowKit Sha

theorem own : ownKnob Tryd.prog.godebug = none := by kernel_rfl
theorem laidOut : laidOutB Tryd.prog = true := by kernel_rfl
theorem gBeg : Tryd.prog.globalNamed "portolan/sha.beginning" = some 0 := by kernel_rfl
theorem gCon : Tryd.prog.globalNamed "portolan/sha.constants" = some 2 := by kernel_rfl
theorem tBeg : (Tryd.prog.globals[0]?).map (·.type) = some 52 := by kernel_rfl
theorem tCon : (Tryd.prog.globals[2]?).map (·.type) = some 59 := by kernel_rfl
def laid2 : List (String × DataW Unit) := [("portolan/sha.beginning", Rows.laid_portolan_sha_beginning), ("portolan/sha.constants", Rows.laid_portolan_sha_constants)]
def h0l : List W := [h0.a, h0.b, h0.c, h0.d, h0.e, h0.f, h0.g, h0.h]
theorem dBeg : (Rows.laid_portolan_sha_beginning : DataW Unit) = Lib.tabData .u32 (h0l.map iv) := by kernel_rfl
theorem dCon : (Rows.laid_portolan_sha_constants : DataW Unit) = Lib.tabData .u32 (kl.map iv) := by kernel_rfl
/-- The door's own heap meets the condition. -/
theorem door_met (os : Os) (args : Array Value) : laidMetH Tryd.prog laid2 ((World.doorLaid Tryd.prog 4000 os).forCall (fun _ _ => 0) ⟨#[], args, []⟩).memory :=
  laidMetH_of_parts3 (fuel := 8) (laidMet_of_run' 8 (by kernel_rfl) (by kernel_rfl)) (by kernel_rfl) (by kernel_rfl)
theorem of_laid {W : World} (h : laidMetH Tryd.prog laid2 W) : KAt W ∧ HAt W := by
  rw [MakeChecks.laidMetH_plain _ _ _ (by kernel_rfl)] at h
  obtain ⟨ps, ⟨g0, t0, cs0, f0, p0, q0, hg0, ht0, hv0, hd0, ⟨g1, t1, cs1, f1, p1, q1, hg1, ht1, hv1, hd1, _, _⟩, _⟩, _, _⟩ := h
  obtain rfl := Option.some.inj (gBeg.symm.trans hg0)
  obtain rfl := Option.some.inj (gCon.symm.trans hg1)
  obtain rfl := Option.some.inj (tBeg.symm.trans ht0)
  obtain rfl := Option.some.inj (tCon.symm.trans ht1)
  rw [dBeg] at hd0
  rw [dCon] at hd1
  have e0 := Lib.cells_of_tab Tryd.underlying52 Tryd.underlying51 (by kernel_rfl) (by kernel_rfl) hd0
  have e1 := Lib.cells_of_tab Tryd.underlying59 Tryd.underlying51 (by kernel_rfl) (by kernel_rfl) hd1
  constructor
  · intro i hi
    have := World.var?_cell hg1 hv1 i
    have ec : cs1 = wcells kl := by apply Array.ext'; rw [e1]; simp [wcells]
    rw [this, ec, wcells_at _ _ (by rw [kl_length]; exact hi)]
  · intro j u hj
    have := World.var?_cell hg0 hv0 j
    rw [Nat.zero_add, this, ← Array.getElem?_toList, e0, ← hj]
    rfl

/-- A slice of bytes that came in: nil, or its elements as bytes in memory. -/
theorem bytes_of_ints {W : World} {g o : Nat} {len cap : Nat} {zs : List Int} (hl : len ≤ cap) (hz : zs.length = cap) (hcell : ∀ i, i < zs.length → W.cell? ((⟨g, o, none⟩ : Addr).add i) = some (.int .u8 (zs.getD i 0)))
    (hwf : ∀ n ∈ zs, (Lit.int .u8 n).wf = true) : ∃ us : List UInt8, us.length = len ∧ BytesAt W g o us := by
  refine ⟨(zs.take len).map fun z => UInt8.ofNat z.toNat, by simp; omega, fun i hi => ?_⟩
  have hi' : i < len := by simp at hi; omega
  have hc := hcell i (by omega)
  rw [Addr.add_mid] at hc
  rw [hc]
  have hm : zs.getD i 0 ∈ zs := by
    rw [List.getD_eq_getElem?_getD, List.getElem?_eq_getElem (by omega)]; exact List.getElem_mem _
  have hb := bounds_u8 (hwf _ hm)
  congr 2
  have : ((zs.take len).map fun z => UInt8.ofNat z.toNat).getD i 0 = UInt8.ofNat (zs.getD i 0).toNat := by
    simp [hi', show i < zs.length by omega]
  rw [this, bi_ofNat]
  omega

set_option maxRecDepth 100000 in
/-- An array of bytes that came in. -/
theorem array_came {H : Type} {enc : TypeId × Value → H} {W : World} {base n : Nat} {t : TypeId} {v : Value} {d : DataW H} {p : List MemPlace} (ht : Tryd.prog.underlying t = some (.array n 5)) (hct : Tryd.prog.cellsOf t = n) (hok : Value.okWide Tryd.prog W .any base t v) (h : DataW.Trod enc Tryd.prog W 0 (fun _ => true) true t v d p) :
    ∃ us : List UInt8, us.length = n ∧ v = .agg (bcells us) := by
  unfold Value.okWide at hok
  rw [ht] at hok
  obtain ⟨cs, rfl, hcs, _⟩ := hok
  obtain ⟨fuel, hf⟩ := h
  have hf' : DataW.trod enc Tryd.prog W 0 (fun _ => true) true fuel t cs.toList = some (d, p) := hf
  obtain ⟨xs, m, _, _, hl, hxl, hall⟩ := DataW.trod_array ht hf'
  have h5 : Tryd.prog.cellsOf 5 = 1 := by kernel_rfl
  rw [hct] at hl
  have each : ∀ i, i < n → ∃ z, cs.toList[i]? = some (.int .u8 z) ∧ (Lit.int .u8 z).wf = true := fun i hi => by
    have hi2 := hall i hi
    rw [h5, Nat.mul_one, List.getElem?_eq_getElem (show i < xs.length by omega)] at hi2
    obtain ⟨z, hc, _, hw⟩ := DataW.trod_int Tryd.underlying5 hi2
    refine ⟨z, ?_, hw⟩
    have := congrArg (·[0]?) hc
    simpa [List.getElem?_take, List.getElem?_drop] using this
  refine ⟨cs.toList.map fun v => UInt8.ofNat (intOf v).toNat, by simpa using hl, ?_⟩
  congr 1
  apply Array.ext_getElem?
  intro i
  by_cases hi : i < n
  · obtain ⟨z, hz, hw⟩ := each i hi
    have hb := bounds_u8 hw
    have hz' : cs[i]? = some (.int .u8 z) := by rw [← Array.getElem?_toList]; exact hz
    rw [hz', bcells_at _ _ (by simpa [hl] using hi)]
    congr 2
    rw [List.getD_eq_getElem?_getD, List.getElem?_map, hz]
    simp only [Option.map_some, Option.getD_some, intOf]
    rw [bi_ofNat]
    omega
  · rw [Array.getElem?_eq_none (by rw [← Array.length_toList]; omega), Array.getElem?_eq_none (by rw [bcells_size]; simpa [hl] using hi)]
end Go.Proofs.YtdkajbhhmgmohaaDoor
