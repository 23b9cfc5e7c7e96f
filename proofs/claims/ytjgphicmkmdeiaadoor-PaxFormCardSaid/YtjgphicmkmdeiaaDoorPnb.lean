/-
  The document's own Text.
-/
import Derived.Test.YtjgphicmkmdeiaaDoorPna
namespace Go.Proofs.YtjgphicmkmdeiaaDoor
open Go.RowKit Go.Maps

set_option maxRecDepth 100000 in
set_option maxHeartbeats 2000000 in
theorem rtext_walk (w : World) (n : Int) (h0 : -9223372036854775808 ≤ n) (h1 : n ≤ 9223372036854775807) : Calls Tryd.prog 24 #[.int .i64 n] w fun e w' => e = .returned (.string ⟨(Lib.itoa n).toArray⟩) ∧ Below w.heap.size w w' := by
  by_cases hn : n < 0
  · have hd : decide (n < 0) = true := decide_eq_true hn
    obtain ⟨m, hm⟩ : ∃ m : Nat, n = -(m : Int) := ⟨n.natAbs, by omega⟩
    obtain ⟨n1, hA⟩ : ∃ x, n + 1 = x := ⟨_, rfl⟩
    obtain ⟨p, hB⟩ : ∃ p : Nat, -n1 = (p : Int) := ⟨m - 1, by omega⟩
    have hC : (p : Int) + 1 = (m : Int) := by omega
    have hp : (p : Int) ≤ 9223372036854775807 := by omega
    have hmI : (m : Int) ≤ 9223372036854775808 := by omega
    have hn1 : -9223372036854775807 ≤ n1 := by omega
    have hn2 : n1 ≤ 0 := by omega
    have HC := Lib.hid (rdigits_walk · m (by omega))
    have e1 : Lib.itoa n = 45 :: Lib.decDigits m := by rw [hm]; exact Lib.itoa_neg m (by omega)
    have hml : (Lib.decDigits m).length ≤ 20 := by rw [Px.dec_len]; exact Px.dg_lt (k := 19) (by omega)
    obtain ⟨b, hb⟩ : ∃ b, (⟨(Lib.decDigits m).toArray⟩ : ByteArray) = b := ⟨_, rfl⟩
    have hbz : (b.size : Int) ≤ 20 := by rw [← hb]; show ((Lib.decDigits m).toArray.size : Int) ≤ 20; simp; omega
    have HF : Hid ((⟨#[45]⟩ : ByteArray) ++ b = ⟨(Lib.itoa n).toArray⟩) := Lib.hid (by
      rw [e1, ← hb]
      apply ByteArray.ext
      rw [ByteArray.data_append]
      simp)
    rw [hb] at HC
    obtain ⟨c, hc⟩ : ∃ c, (⟨#[45]⟩ : ByteArray) = c := ⟨_, rfl⟩
    obtain ⟨f, hf⟩ : ∃ f, (⟨#[45]⟩ : ByteArray) ++ b = f := ⟨_, rfl⟩
    rw [hf] at HF
    clear hn hb hm e1 hml hc
    go_enter Tryd.func24, Tryd.ntmps24
    go_wp2_with ((with_reducible refine (HC.out _).mono ?_); rintro e w1 ⟨rfl, hb⟩; have HB := Lib.hid hb; clear hb)
    go_ret
    exact ⟨by rw [← HF.out]; rfl, HB.out⟩
  · have hd : decide (n < 0) = false := decide_eq_false hn
    obtain ⟨m, rfl⟩ : ∃ m : Nat, n = (m : Int) := ⟨n.toNat, by omega⟩
    have HC := Lib.hid (rdigits_walk · m (by omega))
    rw [itoa_nat]
    have hmI : (m : Int) ≤ 9223372036854775807 := by omega
    clear hn h0 h1
    go_enter Tryd.func24, Tryd.ntmps24
    go_wp2_with ((with_reducible refine (HC.out _).mono ?_); rintro e w1 ⟨rfl, hb⟩; have HB := Lib.hid hb; clear hb)
    go_ret
    exact ⟨rfl, HB.out⟩
end Go.Proofs.YtjgphicmkmdeiaaDoor
