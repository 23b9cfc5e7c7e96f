/-
  From the given rows' memory to the walks' words: slices of numbers that came in.
-/
import Derived.Test.YtghphgpbgekoiaaMem
import Derived.ProofKit
import Derived.OpenShut
import Derived.ChangeOld
import Derived.Deep.MidRow
namespace Go.Proofs.Ytghphgpbgekoiaa
open Go.ChangeShapes Go.WideShapes Go.ChangeAt Go.RowKit

theorem own : ownKnob Try.prog.godebug = none := by kernel_rfl
theorem laidOut : laidOutB Try.prog = true := by kernel_rfl
theorem nat_u32 {n : Int} (h : (Lit.int .u32 n).wf = true) : ∃ k : Nat, n = (k : Int) ∧ k < 4294967296 := by
  have hb := bounds_u32 h
  exact ⟨n.toNat, by omega, by omega⟩
theorem nat_u16 {n : Int} (h : (Lit.int .u16 n).wf = true) : ∃ k : Nat, n = (k : Int) ∧ k < 65536 := by
  have hb := bounds_u16 h
  exact ⟨n.toNat, by omega, by omega⟩
/-- Bytes, as values. -/
def n8 (zs : List Int) : List Value := zs.map (Value.int .u8)
theorem n8_length (zs : List Int) : (n8 zs).length = zs.length := by simp [n8]
/-- A slice of numbers that came in: nil, or its elements in memory. -/
theorem row_of_cells {W : World} {g o : Nat} {len cap : Nat} {k : IntKind} {zs : List Int} (hl : len ≤ cap) (hz : zs.length = cap) (hcell : ∀ i, i < zs.length → W.cell? ((⟨g, o, none⟩ : Addr).add i) = some (.int k (zs.getD i 0))) :
    RowAt W g o ((zs.take len).map (Value.int k)) := by
  intro i v hi
  have hi2 := (List.getElem?_eq_some_iff.1 hi).1
  have hi3 : i < len := by simp at hi2; omega
  have hc := hcell i (by omega)
  rw [Addr.add_mid] at hc
  rw [hc]
  have hi4 : i < zs.length := by omega
  rw [← hi]
  simp [hi3, hi4]
theorem spot_of {P : Program} {W : World} {base : Nat} {t e : TypeId} {b o len cap : Nat} {sp : Option Nat} (ht : P.underlying t = some (.slice e)) (hok : Value.okWide P W .any base t (.slice (some ⟨b, o, sp⟩) len cap)) : sp = none := by
  have h1 : Cell.ok P W .any base t (.slice (some ⟨b, o, sp⟩) len cap) := by
    simpa [Value.okWide, Cell.okWide, ht] using hok
  simp only [Cell.ok, ht] at h1
  exact h1.2.2.2.1
theorem slice_came {H : Type} {enc : TypeId × Value → H} {W : World} {base : Nat} {v : Value} {d : DataW H} {p : List MemPlace} {t e : TypeId} {k : IntKind} (ht : Try.prog.underlying t = some (.slice e)) (he : Try.prog.underlying e = some (.int k)) (hsz : Try.prog.cellsOf e = 1)
    (hok : Value.okWide Try.prog W .any base t v) (h : DataW.Trod enc Try.prog W 0 (fun _ => true) true t v d p) :
    ∃ zs : List Int, SlV W v (zs.map (Value.int k)) ∧ ∀ z ∈ zs, (Lit.int k z).wf = true := by
  obtain ⟨a0, len0, cap0, rfl⟩ := okWide_slice ht hok
  obtain ⟨fuel, hf⟩ := h
  rcases open_ints ht he hsz hf with ⟨hcs, _⟩ | ⟨x, l, c, zs, hcs, _, hl, hm, hz, _, hcell, hwz⟩
  · simp [Value.cells] at hcs
    obtain ⟨rfl, rfl, rfl⟩ := hcs
    exact ⟨[], .inr ⟨none, rfl, rfl⟩, fun z h => by cases h⟩
  · simp [Value.cells] at hcs
    obtain ⟨rfl, rfl, rfl⟩ := hcs
    obtain ⟨b, o, sp⟩ := x
    obtain rfl : sp = none := spot_of ht hok
    have hlen : ((zs.take len0).map (Value.int k)).length = len0 := by simp; have : zs.length = cap0 := by simpa using hz
                                                                       omega
    exact ⟨zs.take len0, .inl ⟨b, o, cap0, by rw [hlen], by rw [hlen]; exact hl, row_of_cells hl (by simpa using hz) hcell⟩, fun z h => hwz z (List.mem_of_mem_take h)⟩
/-- Bytes that came in. -/
theorem bl_of (zs : List Int) (h : ∀ z ∈ zs, (Lit.int .u8 z).wf = true) : zs.map (Value.int .u8) = bl (zs.map fun z => UInt8.ofNat z.toNat) := by
  unfold bl
  rw [List.map_map]
  apply List.map_congr_left
  intro z hz
  have := bounds_u8 (h z hz)
  show Value.int .u8 z = Value.int .u8 (bi (UInt8.ofNat z.toNat))
  have e : bi (UInt8.ofNat z.toNat) = z := by
    unfold bi
    rw [UInt8.toNat_ofNat']
    omega
  rw [e]
end Go.Proofs.Ytghphgpbgekoiaa
