/-
  The document's own Sum.
-/
import Derived.Test.YtkkelmlkpehcpaaDoorFla
namespace Go.Proofs.YtkkelmlkpehcpaaDoor
open Go.RowKit

theorem sum_at (l : List UInt8) (hl : l.length = 512) (k : Nat) (hk : k < 512) : (setF l 148 blanks).getD k 0 = if 148 ≤ k ∧ k < 156 then 32 else l.getD k 0 := by
  have h := setF_get l 148 blanks (by rw [hl, blanks_len]; omega) k
  rw [List.getD_eq_getElem?_getD, h, blanks_len]
  by_cases h1 : k < 148
  · rw [if_pos h1, if_neg (by omega), List.getD_eq_getElem?_getD]
  · rw [if_neg h1]
    by_cases h2 : k < 156
    · rw [if_pos (by omega), if_pos (by omega)]
      have key : ∀ j : Fin 8, (blanks[j.1]?).getD 0 = 32 := by decide
      exact key ⟨k - 148, by omega⟩
    · rw [if_neg (by omega), if_neg (by omega), List.getD_eq_getElem?_getD]
def RSumLoop (S : List UInt8) (s i : Value) : Prop := ∃ k : Nat, k ≤ 512 ∧ i = .int .i64 k ∧ s = .int .i64 ((sumB (S.take k) : Nat) : Int)
set_option maxRecDepth 100000 in
set_option maxHeartbeats 2000000 in
theorem rsum_walk (w : World) (l : List UInt8) (hl : l.length = 512) :
    Calls Tryd.prog 25 #[.agg (bl l).toArray] w (SumPost l w) := by
  have HL := Lib.hid hl
  have HI0 := Lib.hid (bl_size39 l hl)
  have HC : Hid (∀ k, k < 512 → (w.alloc (.cells (bl l).toArray 39)).cell? ⟨w.heap.size, 0 + k, none⟩ = some (.int .u8 (bi (l.getD k 0)))) := Lib.hid fun k hk => by
    rw [Nat.zero_add, cell_of_row _ _ _ _ _ _ (heap_alloc_new _ _)]
    simp [bl, hl, hk]
  have HB : Hid (Below w.heap.size w (w.alloc (.cells (bl l).toArray 39))) := Lib.hid ((Below.refl _ _).alloc (Nat.le_refl _) _)
  have HSA := Lib.hid (sum_at l hl)
  have HSL : Hid ((setF l 148 blanks).length = 512) := Lib.hid (by rw [setF_length l 148 blanks (by rw [hl, blanks_len]; omega)]; exact hl)
  obtain ⟨R, hR⟩ : ∃ R, sumF l = R := ⟨_, rfl⟩
  have HR : Hid (sumB (setF l 148 blanks) = R) := Lib.hid hR
  unfold SumPost
  rw [hR]
  clear hR hl
  generalize setF l 148 blanks = S at *
  go_enter Tryd.func25, Tryd.ntmps25
  go_wp2_with fail
  generalize w.alloc (.cells (bl l).toArray 39) = W at *
  go_loop [3, 4] (fun s i => RSumLoop S s i) (fun _ i => 512 - (intOf i).toNat)
  case atStart => exact ⟨0, by omega, rfl, rfl⟩
  case round =>
    obtain ⟨k, hk, rfl, rfl⟩ := hrel
    have hle := sumB_le (S.take k)
    have hle2 : ((sumB (S.take k) : Nat) : Int) ≤ 130560 := by
      have : (S.take k).length ≤ 512 := by rw [List.length_take]; omega
      omega
    by_cases hlt : k < 512
    · have hltI : (k : Int) < 512 := by omega
      have HN : Hid (sumB (S.take (k + 1)) = sumB (S.take k) + (S.getD k 0).toNat) := Lib.hid (sumB_take S k (by rw [HSL.out]; exact hlt))
      have hsa := HSA.out k hlt
      have hc := HC.out k hlt
      rw [Nat.zero_add] at hc
      have HK := Lib.hid hlt
      clear hle hk hlt
      rw [hsa] at HN
      clear hsa
      generalize l.getD k 0 = a at *
      have ha := bi_lt a
      obtain ⟨q, hq⟩ : ∃ q, sumB (S.take k) = q := ⟨_, rfl⟩
      rw [hq] at hle2 HN ⊢
      clear hq
      by_cases h1 : 148 ≤ k
      · have d1 : decide (148 ≤ (k : Int)) = true := decide_eq_true (by omega)
        by_cases h2 : k < 156
        · have d2 : decide ((k : Int) < 156) = true := decide_eq_true (by omega)
          rw [if_pos ⟨h1, h2⟩] at HN
          clear h1 h2 hc
          go_wp2_with fail
          exact ⟨⟨k + 1, by have := HK.out; omega, by go_num, by rw [HN.out, Int.natCast_add]; rfl⟩, by have := HK.out; simp [intOf]; omega⟩
        · have d2 : decide ((k : Int) < 156) = false := decide_eq_false (by omega)
          rw [if_neg (by omega)] at HN
          clear h1 h2
          go_wp2_with fail
          exact ⟨⟨k + 1, by have := HK.out; omega, by go_num, by rw [HN.out, Int.natCast_add]; rfl⟩, by have := HK.out; simp [intOf]; omega⟩
      · have d1 : decide (148 ≤ (k : Int)) = false := decide_eq_false (by omega)
        rw [if_neg (by omega)] at HN
        clear h1
        go_wp2_with fail
        exact ⟨⟨k + 1, by have := HK.out; omega, by go_num, by rw [HN.out, Int.natCast_add]; rfl⟩, by have := HK.out; simp [intOf]; omega⟩
    · obtain rfl : k = 512 := by omega
      have HE : Hid (sumB (S.take 512) = R) := Lib.hid (by rw [List.take_of_length_le (by rw [HSL.out]; omega)]; exact HR.out)
      clear hlt hle hk hle2
      rw [HE.out]
      go_wp2_with fail
      go_ret
      exact ⟨rfl, HB.out⟩
end Go.Proofs.YtkkelmlkpehcpaaDoor
