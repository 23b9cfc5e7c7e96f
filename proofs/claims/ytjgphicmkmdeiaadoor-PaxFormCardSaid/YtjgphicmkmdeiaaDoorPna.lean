/-
  The document's own Digits, Text, Number.
-/
import Derived.Test.YtjgphicmkmdeiaaDoorPta
namespace Go.Proofs.YtjgphicmkmdeiaaDoor
open Go.RowKit Go.Maps

theorem bi_dig (m : Nat) (h : m < 10) : bi (UInt8.ofNat (48 + m)) = 48 + (m : Int) := by
  rw [bi_of _ (by omega)]; omega
theorem dig_conv (w : World) (m : Nat) (h : m < 10) : (convert 26 9 (.slice (some ⟨w.heap.size, 0, none⟩) 1 1)).run Tryd.prog (w.alloc (.cells #[.int .u8 (48 + (m : Int))] 5)) = .ok (.string ⟨#[UInt8.ofNat (48 + m)]⟩) (w.alloc (.cells #[.int .u8 (48 + (m : Int))] 5)) := by
  have h1 := slv_marked w (bl [UInt8.ofNat (48 + m)]) 5 (0, 0)
  have e : bl [UInt8.ofNat (48 + m)] = [.int .u8 (48 + (m : Int))] := by
    show [Value.int .u8 (bi (UInt8.ofNat (48 + m)))] = _
    rw [bi_dig m h]
  have h2 := run_toString h1
  rw [bl_length, e] at h2
  exact h2
/-- What Digits has under way. -/
def DigLoop (w : World) (n : Nat) (v s : Value) (wr : World) : Prop := ∃ (m : Nat) (acc : List UInt8), v = .int .u64 (m : Int) ∧ s = .string ⟨acc.toArray⟩ ∧ m < 18446744073709551616 ∧ Lib.decDigits n = Lib.decDigits m ++ acc ∧ Below w.heap.size w wr
set_option maxRecDepth 100000 in
set_option maxHeartbeats 2000000 in
theorem rdigits_walk (w : World) (n : Nat) (hn : n < 18446744073709551616) : Calls Tryd.prog 26 #[.int .u64 (n : Int)] w fun e w' => e = .returned (.string ⟨(Lib.decDigits n).toArray⟩) ∧ Below w.heap.size w w' := by
  have HN := Lib.hid hn
  clear hn
  go_enter Tryd.func26, Tryd.ntmps26
  go_wp2_with fail
  go_loopw [0, 3] (fun v s wr => DigLoop w n v s wr) (fun v _ _ => (intOf v).toNat)
  case atStart => exact ⟨n, [], rfl, rfl, HN.out, by simp, Below.refl _ _⟩
  case round =>
    obtain ⟨m, acc, rfl, rfl, hm, hd, hb⟩ := hrel
    have HB := Lib.hid hb
    have HD := Lib.hid hd
    clear hb hd
    obtain ⟨ba, hba⟩ : ∃ b, (⟨acc.toArray⟩ : ByteArray) = b := ⟨_, rfl⟩
    rw [hba]
    have HBA := Lib.hid hba
    have hbaz : (ba.size : Int) ≤ 100 := by
      have h1 := congrArg List.length HD.out
      rw [Px.dec_len, List.length_append] at h1
      have h2 : Lib.nDigits n ≤ 20 := Px.dg_lt (k := 19) (by have := HN.out; omega)
      have h3 : ba.size = acc.length := by rw [← hba]; simp [ByteArray.size]
      omega
    clear hba
    have hmI : (m : Int) < 18446744073709551616 := by omega
    by_cases h9 : 9 < m
    · have h9I : decide (9 < (m : Int)) = true := decide_eq_true (by omega)
      obtain ⟨d, hd⟩ : ∃ d, m % 10 = d := ⟨_, rfl⟩
      have hdI : (m : Int) % 10 = (d : Int) := by omega
      have hd10 : d < 10 := by omega
      have hcv := dig_conv wr d hd10
      obtain ⟨bc, hbc⟩ : ∃ b, (⟨#[UInt8.ofNat (48 + d)]⟩ : ByteArray) ++ ba = b := ⟨_, rfl⟩
      have HBC : Hid (bc = ⟨(UInt8.ofNat (48 + d) :: acc).toArray⟩) := Lib.hid (by
        rw [← hbc, ← HBA.out]
        apply ByteArray.ext
        rw [ByteArray.data_append]
        simp)
      obtain ⟨bd, hbd⟩ : ∃ b, (⟨#[UInt8.ofNat (48 + d)]⟩ : ByteArray) = b := ⟨_, rfl⟩
      have hbdz : (bd.size : Int) ≤ 1 := by rw [← hbd]; exact Int.le_refl _
      rw [hbd] at hcv hbc
      have HDD : Hid (Lib.decDigits m = Lib.decDigits (m / 10) ++ [UInt8.ofNat (48 + d)]) := Lib.hid (by rw [← hd]; exact Px.dec_big (by omega))
      obtain ⟨x, hx⟩ : ∃ x : Int, 48 + (d : Int) = x := ⟨_, rfl⟩
      have hxI : 48 + (m : Int) % 10 = x := by omega
      have hx1 : 48 ≤ x := by omega
      have hx2 : x ≤ 57 := by omega
      rw [hx] at hcv
      have HM := Lib.hid hm
      have HMI := Lib.hid hmI
      obtain ⟨m2, hm2⟩ : ∃ k, m / 10 = k := ⟨_, rfl⟩
      have HM2 := Lib.hid hm2
      have hm2I : (m : Int) / 10 = (m2 : Int) := by omega
      have hw : IntKind.u64.wrap (m2 : Int) = (m2 : Int) := by rw [IntKind.wrap_u64]; omega
      have HM9 := Lib.hid h9
      clear h9 hd hbd hx hdI hd10 hm hmI hm2
      go_wp2_with fail
      refine ⟨⟨m2, UInt8.ofNat (48 + d) :: acc, rfl, by rw [HBC.out], by have := HM2.out; have := HM.out; omega, ?_, HB.out.alloc HB.out.size _⟩, ?_⟩
      · rw [HD.out, HDD.out, HM2.out, List.append_assoc]; rfl
      · have := HM2.out; have := HM9.out; simp only [intOf]; omega
    · have h9I : decide (9 < (m : Int)) = false := decide_eq_false (by omega)
      have hcv := dig_conv wr m (by omega)
      obtain ⟨bc, hbc⟩ : ∃ b, (⟨#[UInt8.ofNat (48 + m)]⟩ : ByteArray) ++ ba = b := ⟨_, rfl⟩
      have HBC : Hid (bc = ⟨(Lib.decDigits n).toArray⟩) := Lib.hid (by
        rw [HD.out, Px.dec_small (by omega), ← hbc, ← HBA.out]
        apply ByteArray.ext
        rw [ByteArray.data_append]
        simp)
      obtain ⟨bd, hbd⟩ : ∃ b, (⟨#[UInt8.ofNat (48 + m)]⟩ : ByteArray) = b := ⟨_, rfl⟩
      have hbdz : (bd.size : Int) ≤ 1 := by rw [← hbd]; exact Int.le_refl _
      rw [hbd] at hcv hbc
      obtain ⟨x, hx⟩ : ∃ x : Int, 48 + (m : Int) = x := ⟨_, rfl⟩
      have hx1 : 48 ≤ x := by omega
      have hx2 : x ≤ 57 := by omega
      rw [hx] at hcv
      clear hbd h9 hm hmI
      go_wp2_with fail
      go_ret
      exact ⟨by rw [← HBC.out]; rfl, HB.out.alloc HB.out.size _⟩
end Go.Proofs.YtjgphicmkmdeiaaDoor
