/-
  From the rows' memory to the walks' words: the table for trailing zeros, arrays and slices of bytes.
-/
import Derived.Test.YtkkelmlkpehcpaaDoorFe
import Derived.Test.YtkkelmlkpehcpaaDoorTie
import Derived.Test.YtkkelmlkpehcpaaDoorCards
import Derived.ProofKit
import Derived.LaidMore
import Derived.OpenShut
import Derived.ShutString
import Derived.ChangeOld
import Derived.Below
import Derived.Stop.Joined
import Derived.Lib.LaidTab
import Derived.SevenTiedAt
import Derived.Deep.MidRow
import Derived.Lay
namespace Go.Proofs.YtkkelmlkpehcpaaDoor
open Go.ChangeShapes Go.WideShapes Go.ChangeAt Go.RowKit

theorem own : ownKnob Tryd.prog.godebug = none := by kernel_rfl
theorem laidOut : laidOutB Tryd.prog = true := by kernel_rfl
def laid5 : List (String × DataW Unit) := [("math/bits.deBruijn32tab", Rows.laid_math_bits_deBruijn32tab), ("math/bits.deBruijn64tab", Rows.laid_math_bits_deBruijn64tab), ("internal/strconv.uint64pow10", Rows.laid_internal_strconv_uint64pow10), ("unicode/utf8.acceptRanges", Rows.laid_unicode_utf8_acceptRanges), ("unicode/utf8.first", Rows.laid_unicode_utf8_first)]
def tab64 : List Int := [0, 1, 56, 2, 57, 49, 28, 3, 61, 58, 42, 50, 38, 29, 17, 4, 62, 47, 59, 36, 45, 43, 51, 22, 53, 39, 33, 30, 24, 18, 12, 5, 63, 55, 48, 27, 60, 41, 37, 16, 46, 35, 44, 21, 52, 32, 23, 11, 54, 26, 40, 15, 34, 20, 31, 10, 25, 14, 19, 9, 13, 8, 7, 6]
theorem d64 : (Rows.laid_math_bits_deBruijn64tab : DataW Unit) = Lib.tabData .u8 tab64 := by kernel_rfl
theorem g64 : Tryd.prog.globalNamed "math/bits.deBruijn64tab" = some 3 := by kernel_rfl
theorem t64 : (Tryd.prog.globals[3]?).map (·.type) = some 129 := by kernel_rfl
theorem of_laid5 {W : World} (h : laidMetH Tryd.prog laid5 W) : TzAt W := by
  rw [MakeChecks.laidMetH_plain _ _ _ (by kernel_rfl)] at h
  obtain ⟨ps, ⟨_, _, _, _, _, _, _, _, _, _, ⟨g0, t0, cs0, f0, p0, q0, hg0, ht0, hv0, hd0, _⟩, _⟩, _, _⟩ := h
  obtain rfl := Option.some.inj (g64.symm.trans hg0)
  obtain rfl := Option.some.inj (t64.symm.trans ht0)
  rw [d64] at hd0
  have e0 := Lib.cells_of_tab Tryd.underlying129 Tryd.underlying5 (by kernel_rfl) (by kernel_rfl) hd0
  have := World.var?_cell hg0 hv0 7
  unfold TzAt
  rw [this, ← Array.getElem?_toList, e0]
  rfl
set_option maxRecDepth 100000 in
/-- An array of bytes that came in. -/
theorem array_came {H : Type} {enc : TypeId × Value → H} {W : World} {base n : Nat} {t : TypeId} {v : Value} {d : DataW H} {p : List MemPlace} (ht : Tryd.prog.underlying t = some (.array n 5)) (hct : Tryd.prog.cellsOf t = n) (hok : Value.okWide Tryd.prog W .any base t v) (h : DataW.Trod enc Tryd.prog W 0 (fun _ => true) true t v d p) :
    ∃ us : List UInt8, us.length = n ∧ v = .agg (bl us).toArray := by
  unfold Value.okWide at hok
  rw [ht] at hok
  obtain ⟨cs, rfl, hcs, _⟩ := hok
  obtain ⟨fuel, hf⟩ := h
  have hf' : DataW.trod enc Tryd.prog W 0 (fun _ => true) true fuel t cs.toList = some (d, p) := hf
  obtain ⟨xs, m, _, _, hl, hxl, hall⟩ := DataW.trod_array ht hf'
  have h5 : Tryd.prog.cellsOf 5 = 1 := by kernel_rfl
  rw [hct] at hl
  have each : ∀ i, i < n → ∃ z, cs.toList[i]? = some (.int .u8 z) ∧ (Lit.int .u8 z).wf = true := fun i hi => by
    have hi2 := hall i hi
    rw [h5, Nat.mul_one, List.getElem?_eq_getElem (show i < xs.length by omega)] at hi2
    obtain ⟨z, hc, _, hw⟩ := DataW.trod_int Tryd.underlying5 hi2
    refine ⟨z, ?_, hw⟩
    have := congrArg (·[0]?) hc
    simpa [List.getElem?_take, List.getElem?_drop] using this
  refine ⟨cs.toList.map fun v => UInt8.ofNat (intOf v).toNat, by simpa using hl, ?_⟩
  congr 1
  apply Array.ext_getElem?
  intro i
  by_cases hi : i < n
  · obtain ⟨z, hz, hw⟩ := each i hi
    have hb := bounds_u8 hw
    have hz' : cs[i]? = some (.int .u8 z) := by rw [← Array.getElem?_toList]; exact hz
    have e : bi (UInt8.ofNat z.toNat) = z := by rw [bi_of z.toNat (by omega)]; omega
    rw [hz', List.getElem?_toArray, bl, List.map_map, List.getElem?_map, hz]
    show _ = some (Value.int .u8 (bi (UInt8.ofNat z.toNat)))
    rw [e]
  · rw [Array.getElem?_eq_none (by rw [← Array.length_toList]; omega), Array.getElem?_eq_none (by simp; simp at hl; omega)]
theorem row_of_cells {W : World} {g o : Nat} {len cap : Nat} {k : IntKind} {zs : List Int} (hl : len ≤ cap) (hz : zs.length = cap) (hcell : ∀ i, i < zs.length → W.cell? ((⟨g, o, none⟩ : Addr).add i) = some (.int k (zs.getD i 0))) :
    RowAt W g o ((zs.take len).map (Value.int k)) := by
  intro i v hi
  have hi2 := (List.getElem?_eq_some_iff.1 hi).1
  have hi3 : i < len := by simp at hi2; omega
  have hc := hcell i (by omega)
  rw [Addr.add_mid] at hc
  rw [hc]
  have hi4 : i < zs.length := by omega
  rw [← hi]
  simp [hi3, hi4]
set_option maxRecDepth 100000 in
theorem spot_of {P : Program} {W : World} {base : Nat} {t e : TypeId} {b o len cap : Nat} {sp : Option Nat} (ht : P.underlying t = some (.slice e)) (hok : Value.okWide P W .any base t (.slice (some ⟨b, o, sp⟩) len cap)) : sp = none := by
  have h1 : Cell.ok P W .any base t (.slice (some ⟨b, o, sp⟩) len cap) := by
    simpa [Value.okWide, Cell.okWide, ht] using hok
  simp only [Cell.ok, ht] at h1
  exact h1.2.2.2.1
set_option maxRecDepth 100000 in
/-- Bytes that came in. -/
theorem bytes_came {H : Type} {enc : TypeId × Value → H} {W : World} {base : Nat} {v : Value} {d : DataW H} {p : List MemPlace} (hok : Value.okWide Tryd.prog W .any base 22 v) (h : DataW.Trod enc Tryd.prog W 0 (fun _ => true) true 22 v d p) :
    ∃ us : List UInt8, SlV W v (bl us) ∧ us.length ≤ maxLen := by
  obtain ⟨a0, len0, cap0, rfl⟩ := okWide_slice Tryd.underlying22 hok
  obtain ⟨fuel, hf⟩ := h
  rcases open_ints Tryd.underlying22 Tryd.underlying5 (by kernel_rfl) hf with ⟨hcs, _⟩ | ⟨x, l, c, zs, hcs, _, hl, hm, hz, _, hcell, hwz⟩
  · simp [Value.cells] at hcs
    obtain ⟨rfl, rfl, rfl⟩ := hcs
    exact ⟨[], .inr ⟨none, rfl, rfl⟩, Nat.zero_le _⟩
  · simp [Value.cells] at hcs
    obtain ⟨rfl, rfl, rfl⟩ := hcs
    obtain ⟨b, o, sp⟩ := x
    obtain rfl : sp = none := spot_of Tryd.underlying22 hok
    have hz' : zs.length = cap0 := by simpa using hz
    have hlen : ((zs.take len0).map (Value.int .u8)).length = len0 := by simp; omega
    have e : (zs.take len0).map (Value.int .u8) = bl ((zs.take len0).map fun z => UInt8.ofNat z.toNat) := by
      unfold bl
      rw [List.map_map]
      apply List.map_congr_left
      intro z hz2
      have := bounds_u8 (hwz z (List.mem_of_mem_take hz2))
      show Value.int .u8 z = Value.int .u8 (bi (UInt8.ofNat z.toNat))
      rw [bi_of z.toNat (by omega), Int.toNat_of_nonneg (by omega)]
    refine ⟨(zs.take len0).map fun z => UInt8.ofNat z.toNat, .inl ⟨b, o, cap0, ?_, ?_, ?_⟩, ?_⟩
    · rw [← e, hlen]
    · rw [← e, hlen]; exact hl
    · rw [← e]; exact row_of_cells hl hz' hcell
    · rw [List.length_map, List.length_take]; omega
end Go.Proofs.YtkkelmlkpehcpaaDoor
