/-
  The contract of the document's own Name.
-/
import Derived.Test.YtdkajbhhmgmohaaDoorWrit
namespace Go.Proofs.YtdkajbhhmgmohaaDoor
open Go.RowKit Sha
theorem piece_eq (n : Nat) (hn : n < 16) : (ByteArray.mk digitsA).extract n (n + 1) = ⟨#[hexd n]⟩ := by
  have e := Go.ByteArray.extract_mk digitsA.toList n (n + 1)
  have e2 : (digitsA.toList.drop n).take (n + 1 - n) = [hexd n] := by
    have : ∀ m : Fin 16, (digitsA.toList.drop m.1).take (m.1 + 1 - m.1) = [hexd m.1] := by decide +kernel
    exact this ⟨n, hn⟩
  rw [e2] at e
  exact e
theorem hexpiece (n : Nat) (hn : n < 16) (w : World) : (Instr.slice 9 (.string ⟨digitsA⟩) (some (.int .u8 (n : Int))) (some (.int .u8 ((n : Int) + 1))) none).run Tryd.prog w = .ok (.string ⟨#[hexd n]⟩) w := by
  have h := run_slice_string (P := Tryd.prog) w 9 ⟨digitsA⟩ .u8 .u8 (n : Int) ((n : Int) + 1) Tryd.underlying9 (by omega) (by omega) (by show (n : Int) + 1 ≤ ((16 : Nat) : Int); omega)
  rw [h]
  rw [show ((n : Int) + 1).toNat = n + 1 from by omega, Int.toNat_natCast, piece_eq n hn]
theorem add_piece (l : List UInt8) (b : UInt8) (h : l.length ≤ 1000) (w : World) : (Op.stringOp .add ⟨l.toArray⟩ ⟨#[b]⟩).run Tryd.prog w = .ok (.string ⟨(l ++ [b]).toArray⟩) w :=
  run_string_add_lists w l [b] (by omega) (by simp)
def RNameRel (d : List UInt8) (w : World) (v i : Value) (wr : World) : Prop :=
  ∃ k : Nat, k ≤ 32 ∧ i = .int .i64 k ∧ v = .string ⟨(preL ++ hexL (d.take k)).toArray⟩ ∧ Below w.heap.size w wr ∧ wr.heap[w.heap.size]? = some (.cells (bcells d) 24 (0, 0))
set_option maxRecDepth 100000 in
set_option maxHeartbeats 400000 in
theorem rname_walk (d : List UInt8) (hd : d.length = 32) (w : World) : Calls Tryd.prog 16 #[.agg (bcells d)] w (StrPost (nameL d) w) := by
  have HD := Lib.hid hd
  have hcs : (bcells d).size = 32 := by rw [bcells_size, hd]
  clear hd 
  go_enter Tryd.func16, Tryd.ntmps16
  go_wp2_with fail
  go_loopw [3, 4] (fun v i wr => RNameRel d w v i wr) (fun _ i _ => 32 - (intOf i).toNat)
  case atStart => exact ⟨0, by omega, rfl, rfl, (Below.refl _ _).alloc (Nat.le_refl _) _, heap_alloc_new _ _⟩
  case round =>
    obtain ⟨k, hk, rfl, rfl, hbel, hrow⟩ := hrel
    have HB := Lib.hid hbel
    have HR := Lib.hid hrow
    clear hbel
    by_cases hlt : k < 32
    · have hki : (k : Int) < 32 := by omega
      have hix : wr.cell? ⟨w.heap.size, k, none⟩ = some (.int .u8 (bi (d.getD k 0))) := (cell_of_row _ _ _ _ _ _ hrow).trans (bcells_at d k (by have := HD.out; omega))
      have HT := Lib.hid (hexL_take_succ d k (by have := HD.out; omega))
      clear hrow
      generalize d.getD k 0 = b at *
      obtain ⟨ph, hph⟩ : ∃ p, p = b.toNat / 16 := ⟨_, rfl⟩
      obtain ⟨pl, hpl⟩ : ∃ p, p = b.toNat % 16 := ⟨_, rfl⟩
      have e1 : bi b / 16 = (ph : Int) := by rw [hph]; exact u8_hi b
      have e2 : bi b % 16 = (pl : Int) := by rw [hpl]; unfold bi; omega
      have g1 : ph < 16 := by have := b.toNat_lt; omega
      have g2 : pl < 16 := by omega
      rw [← hph, ← hpl] at HT
      have i1 : (ph : Int) < 16 := by omega
      have i2 : (pl : Int) < 16 := by omega
      clear hph hpl
      have hb0 := bi_nonneg b
      have hb1 := bi_lt b
      have p1 := hexpiece ph g1
      have p2 := hexpiece pl g2
      simp only [digitsA] at p1 p2
      have n1 : (ph : Int) + 1 < 256 := by omega
      have n2 : (pl : Int) + 1 < 256 := by omega
      have hl : (preL ++ hexL (d.take k)).length ≤ 100 := by rw [List.length_append, hexL_length]; simp [preL]; omega
      have q1 := add_piece (preL ++ hexL (d.take k)) (hexd ph) (by omega)
      have q2 := add_piece (preL ++ hexL (d.take k) ++ [hexd ph]) (hexd pl) (by simp at hl ⊢; omega)
      have e3 : preL ++ hexL (d.take k) ++ [hexd ph] ++ [hexd pl] = preL ++ hexL (d.take (k + 1)) := by rw [HT.out]; simp
      rw [e3] at q2
      clear hl e3
      obtain ⟨S0, h0⟩ : ∃ S, S = ByteArray.mk (preL ++ hexL (d.take k)).toArray := ⟨_, rfl⟩
      obtain ⟨S1, h1⟩ : ∃ S, S = ByteArray.mk (preL ++ hexL (d.take k) ++ [hexd ph]).toArray := ⟨_, rfl⟩
      obtain ⟨S2, h2⟩ : ∃ S, S = ByteArray.mk (preL ++ hexL (d.take (k + 1))).toArray := ⟨_, rfl⟩
      rw [← h0, ← h1] at q1
      rw [← h1, ← h2] at q2
      rw [← h0]
      have H2 := Lib.hid h2
      clear h0 h1 h2 hcs
      go_wp2_with fail
      go_region
      all_goals
        clear q1 q2 p1 p2 hix
        go_wp2_with fail
        exact ⟨⟨k + 1, by omega, by go_num, by rw [← H2.out], HB.out.drew, HR.out⟩, by simp [intOf]; omega⟩
    · have hki : (32 : Int) ≤ (k : Int) := by omega
      have HF : Hid (preL ++ hexL (d.take k) = nameL d) := Lib.hid (by rw [List.take_of_length_le (by have := HD.out; omega)]; rfl)
      clear hrow
      go_wp2_with fail
      rw [HF.out]
      go_ret
      exact ⟨rfl, HB.out⟩
end Go.Proofs.YtdkajbhhmgmohaaDoor
