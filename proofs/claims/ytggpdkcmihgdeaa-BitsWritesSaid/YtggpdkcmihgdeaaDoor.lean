/-
  From the given rows' memory to the walks' words: slices of bytes that came in, numbers.
-/
import Derived.Test.YtggpdkcmihgdeaaMem
import Derived.ProofKit
import Derived.OpenShut
import Derived.ChangeOld
import Derived.Deep.MidRow
namespace Go.Proofs.Ytggpdkcmihgdeaa
open Go.ChangeShapes Go.WideShapes Go.ChangeAt Go.RowKit Bt

theorem own : ownKnob Try.prog.godebug = none := by kernel_rfl
theorem laidOut : laidOutB Try.prog = true := by kernel_rfl
theorem nat_u64 {n : Int} (h : (Lit.int .u64 n).wf = true) : ∃ k : Nat, n = (k : Int) ∧ k < 18446744073709551616 := by
  have hb := bounds_u64 h
  exact ⟨n.toNat, by omega, by omega⟩
theorem nat_u16 {n : Int} (h : (Lit.int .u16 n).wf = true) : ∃ k : Nat, n = (k : Int) ∧ k < 65536 := by
  have hb := bounds_u16 h
  exact ⟨n.toNat, by omega, by omega⟩
theorem nat_u8 {n : Int} (h : (Lit.int .u8 n).wf = true) : ∃ k : Nat, n = (k : Int) ∧ k < 256 := by
  have hb := bounds_u8 h
  exact ⟨n.toNat, by omega, by omega⟩
/-- A slice of bytes that came in: nil, or its elements as bytes in memory. -/
theorem bytes_of_ints {W : World} {g o : Nat} {len cap : Nat} {zs : List Int} (hl : len ≤ cap) (hz : zs.length = cap) (hcell : ∀ i, i < zs.length → W.cell? ((⟨g, o, none⟩ : Addr).add i) = some (.int .u8 (zs.getD i 0)))
    (hwf : ∀ n ∈ zs, (Lit.int .u8 n).wf = true) : ∃ us : List UInt8, us.length = len ∧ BytesAt W g o us := by
  refine ⟨(zs.take len).map fun z => UInt8.ofNat z.toNat, by simp; omega, fun i hi => ?_⟩
  have hi' : i < len := by simp at hi; omega
  have hc := hcell i (by omega)
  rw [Addr.add_mid] at hc
  rw [hc]
  have hm : zs.getD i 0 ∈ zs := by
    rw [List.getD_eq_getElem?_getD, List.getElem?_eq_getElem (by omega)]; exact List.getElem_mem _
  have hb := bounds_u8 (hwf _ hm)
  congr 2
  have : ((zs.take len).map fun z => UInt8.ofNat z.toNat).getD i 0 = UInt8.ofNat (zs.getD i 0).toNat := by
    simp [hi', show i < zs.length by omega]
  rw [this, bi_ofNat]
  omega
theorem slice_came {H : Type} {enc : TypeId × Value → H} {W : World} {base : Nat} {v : Value} {d : DataW H} {p : List MemPlace} (hok : Value.okWide Try.prog W .any base 30 v) (h : DataW.Trod enc Try.prog W 0 (fun _ => true) true 30 v d p) :
    ∃ q us cap, v = .slice q (us : List UInt8).length cap ∧ SlW W v us := by
  obtain ⟨a0, len0, cap0, rfl⟩ := okWide_slice Try.underlying30 hok
  obtain ⟨fuel, hf⟩ := h
  rcases open_ints Try.underlying30 Try.underlying5 (by kernel_rfl) hf with ⟨hcs, _⟩ | ⟨x, l, c, zs, hcs, _, hl, hm, hz, _, hcell, hwz⟩
  · simp [Value.cells] at hcs
    obtain ⟨rfl, rfl, rfl⟩ := hcs
    exact ⟨none, [], 0, rfl, .inr ⟨none, rfl, rfl⟩⟩
  · simp [Value.cells] at hcs
    obtain ⟨rfl, rfl, rfl⟩ := hcs
    obtain ⟨b, o, sp⟩ := x
    obtain rfl : sp = none := by
      have h1 : Cell.ok Try.prog W .any base 30 (.slice (some ⟨b, o, sp⟩) len0 cap0) := by
        simpa [Value.okWide, Cell.okWide, Try.underlying30] using hok
      simp only [Cell.ok, Try.underlying30] at h1
      exact h1.2.2.2.1
    obtain ⟨us, hu, hB⟩ := bytes_of_ints hl (by simpa using hz) hcell hwz
    exact ⟨some ⟨b, o, none⟩, us, cap0, by rw [hu], .inl ⟨b, o, cap0, by rw [hu], by omega, hB⟩⟩
theorem cell_spot {W : World} {x : Addr} {v : Value} (h : W.cell? x = some v) : x.spot = none := by
  unfold World.cell? at h
  split at h
  · cases hs : x.spot with
    | none => rfl
    | some s => rw [hs] at h; simp at h
  · cases h
/-- A slice of bytes that lies in memory. -/
theorem slice_read {H : Type} {enc : TypeId × Value → H} {W : World} {fuel : Nat} {v : Value} {x : DataW H × List MemPlace} (h : DataW.trod enc Try.prog W 0 (fun _ => true) true fuel 30 [v] = some x) :
    ∃ q us cap, v = .slice q (us : List UInt8).length cap ∧ SlW W v us := by
  rcases open_ints Try.underlying30 Try.underlying5 (by kernel_rfl) h with ⟨hcs, _⟩ | ⟨a, l, c, zs, hcs, _, hl, hm, hz, _, hcell, hwz⟩
  · simp at hcs
    subst hcs
    exact ⟨none, [], 0, rfl, .inr ⟨none, rfl, rfl⟩⟩
  · simp at hcs
    subst hcs
    simp only [if_true] at hz
    by_cases h0 : c = 0
    · obtain rfl : l = 0 := by omega
      subst h0
      exact ⟨some a, [], 0, rfl, .inr ⟨some a, rfl, rfl⟩⟩
    · have hc0 := hcell 0 (by omega)
      have hs : a.spot = none := by
        have h1 : a.add 0 = a := by unfold Addr.add; simp
        rw [h1] at hc0
        exact cell_spot hc0
      obtain ⟨b, o, sp⟩ := a
      simp only at hs
      subst hs
      obtain ⟨us, hu, hB⟩ := bytes_of_ints hl hz hcell hwz
      exact ⟨some ⟨b, o, none⟩, us, c, by rw [hu], .inl ⟨b, o, c, by rw [hu], by omega, hB⟩⟩
end Go.Proofs.Ytggpdkcmihgdeaa
