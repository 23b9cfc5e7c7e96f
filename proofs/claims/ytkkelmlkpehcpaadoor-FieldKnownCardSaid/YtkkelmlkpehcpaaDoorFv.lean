/-
  Numbers there and back, as mathematics.
-/
import Derived.Test.YtkkelmlkpehcpaaDoorFg
import Derived.Test.YtkkelmlkpehcpaaDoorFy
namespace Go.Proofs.YtkkelmlkpehcpaaDoor
open Go.RowKit

theorem rdW_wid (n : Int) (h1 : -9223372036854775808 ≤ n) (h2 : n < 9223372036854775808) (j : Nat) : Fx.rdW (n / 256 ^ j) (Fx.wid j n) = some n := by
  induction j with
  | zero => simp [Fx.wid, Fx.rdW]
  | succ j ih =>
    rw [wid_cons]
    have hp : (0 : Int) < 256 ^ j := Int.pow_pos (by omega)
    have e : n / 256 ^ (j + 1) = n / 256 ^ j / 256 := by rw [Int.ediv_ediv_of_nonneg (Int.le_of_lt hp), ← Int.pow_succ]
    have hb : -9223372036854775808 ≤ n / 256 ^ j ∧ n / 256 ^ j < 9223372036854775808 := by
      constructor
      · by_cases h0 : 0 ≤ n
        · have := Int.ediv_nonneg h0 (Int.le_of_lt hp); omega
        · have := Int.le_ediv_of_mul_le hp (a := -9223372036854775808) (b := n) (by
            have : (1 : Int) ≤ 256 ^ j := hp
            have h3 : (-9223372036854775808 : Int) * 256 ^ j ≤ -9223372036854775808 * 1 := Int.mul_le_mul_of_nonpos_left (by omega) this
            omega)
          exact this
      · by_cases h0 : 0 ≤ n
        · have := Int.ediv_le_self (256 ^ j) h0; omega
        · have := Int.ediv_neg_of_neg_of_pos (show n < 0 by omega) hp; omega
    generalize hq : n / 256 ^ j = q at *
    rw [e, Fx.rdW, if_pos (by omega)]
    have e2 : ((UInt8.ofNat (q % 256).toNat).toNat : Int) = q % 256 := by
      have := bi_of (q % 256).toNat (by omega)
      unfold bi at this
      rw [this]; omega
    rw [e2, show q / 256 * 256 + q % 256 = q by omega]
    exact ih
theorem or128 (b : UInt8) : (b.toNat < 64 → Fx.hd (b ||| 128) = b.toNat ∧ 128 ≤ (b ||| 128).toNat) ∧ (192 ≤ b.toNat → Fx.hd (b ||| 128) = (b.toNat : Int) - 256 ∧ 128 ≤ (b ||| 128).toNat) := by
  have key : ∀ k : Fin 256, (k.1 < 64 → Fx.hd (UInt8.ofNat k.1 ||| 128) = (k.1 : Int) ∧ 128 ≤ (UInt8.ofNat k.1 ||| 128).toNat) ∧ (192 ≤ k.1 → Fx.hd (UInt8.ofNat k.1 ||| 128) = (k.1 : Int) - 256 ∧ 128 ≤ (UInt8.ofNat k.1 ||| 128).toNat) := by decide +kernel
  have := key ⟨b.toNat, b.toNat_lt⟩
  simpa using this
/-- Number of Wide. -/
theorem num_wide (n : Int) (h1 : -9223372036854775808 ≤ n) (h2 : n < 9223372036854775808) (k : Nat) (hk : 2 ≤ k) (hk2 : k ≤ 20) (hf : Fx.fits n k) :
    Fx.num (Fx.mark (Fx.wid k n)) = (n, 0) ∧ ∃ b t, Fx.mark (Fx.wid k n) = b :: t ∧ 128 ≤ b.toNat := by
  obtain ⟨j, rfl⟩ : ∃ j, k = j + 1 := ⟨k - 1, by omega⟩
  have hp : (0 : Int) < 256 ^ j := Int.pow_pos (by omega)
  have hq : -64 ≤ n / 256 ^ j ∧ n / 256 ^ j < 64 := by
    unfold Fx.fits at hf
    rw [Int.toNat_natCast, show 8 * (j + 1) - 2 = 6 + 8 * j by omega, Int.pow_add, show (2 : Int) ^ 6 = 64 from rfl] at hf
    have e : (2 : Int) ^ (8 * j) = 256 ^ j := by rw [Int.pow_mul]; rfl
    rw [e] at hf
    exact ⟨Int.le_ediv_of_mul_le hp (by omega), Int.ediv_lt_of_lt_mul hp (by omega)⟩
  have hr := rdW_wid n h1 h2 j
  have hlen : (Fx.mark (Fx.wid (j + 1) n)).length = j + 1 := by simp
  rw [wid_cons] at hlen ⊢
  obtain ⟨q, hqe⟩ : ∃ q, n / 256 ^ j = q := ⟨_, rfl⟩
  rw [hqe] at hq hr hlen ⊢
  simp only [Fx.mark] at hlen ⊢
  obtain ⟨o1, o2⟩ := or128 (UInt8.ofNat (q % 256).toNat)
  have e2 : ((UInt8.ofNat (q % 256).toNat).toNat : Int) = q % 256 := by
    have := bi_of (q % 256).toNat (by omega)
    unfold bi at this
    rw [this]; omega
  have hh : Fx.hd (UInt8.ofNat (q % 256).toNat ||| 128) = q ∧ 128 ≤ (UInt8.ofNat (q % 256).toNat ||| 128).toNat := by
    by_cases h0 : 0 ≤ q
    · have := o1 (by omega)
      exact ⟨by rw [this.1]; omega, this.2⟩
    · have := o2 (by omega)
      exact ⟨by rw [this.1]; omega, this.2⟩
  refine ⟨?_, _, _, rfl, hh.2⟩
  unfold Fx.num
  rw [if_neg (by rw [hlen]; omega)]
  simp only
  rw [if_pos hh.2, hh.1, hr]
theorem fits_more (n : Int) (k : Nat) (hk : 2 ≤ k) (h : Fx.fits n k) : Fx.fits n ((k : Int) + 1) := by
  unfold Fx.fits at h ⊢
  rw [Int.toNat_natCast] at h
  rw [show ((k : Int) + 1).toNat = k + 1 by omega]
  have : (2 : Int) ^ (8 * k - 2) ≤ 2 ^ (8 * (k + 1) - 2) := by
    have : (2 : Nat) ^ (8 * k - 2) ≤ 2 ^ (8 * (k + 1) - 2) := Nat.pow_le_pow_right (by omega) (by omega)
    have h9 : ((2 ^ (8 * k - 2) : Nat) : Int) ≤ ((2 ^ (8 * (k + 1) - 2) : Nat) : Int) := Int.ofNat_le.2 this
    rw [Int.natCast_pow, Int.natCast_pow] at h9
    exact h9
  omega
/-- The shift that the law asks by. -/
theorem shr_min (n : Int) (h1 : -9223372036854775808 ≤ n) (h2 : n < 9223372036854775808) (k : Nat) (hk : 2 ≤ k) :
    ∃ s : Int, (∀ w : World, (Op.shift .shr .i64 n .i64 (min (8 * (k : Int) - 2) 63)).run Tryd.prog w = .ok (.int .i64 s) w) ∧ (Fx.fits n k ↔ (s = 0 ∨ s = -1)) ∧ (0 ≤ n → 0 ≤ s) ∧ (n < 0 → s < 0) := by
  have e : ∀ w : World, (Op.shift .shr .i64 n .i64 (min (8 * (k : Int) - 2) 63)).run Tryd.prog w = .ok (.int .i64 (n / 2 ^ min (8 * k - 2) 63)) w := by
    intro w
    have e1 : (min (8 * (k : Int) - 2) 63).toNat = min (8 * k - 2) 63 := by omega
    have e2 : IntKind.i64.bits = 64 := rfl
    have e3 : ¬ (min (8 * (k : Int) - 2) 63 < 0) := by omega
    have e4 : min (min (8 * k - 2) 63) 64 = min (8 * k - 2) 63 := by omega
    simp only [Op.shift, if_neg e3, e1, e2, e4, Sem.run_pure]
    rw [Int.fdiv_eq_ediv_of_nonneg _ (Int.le_of_lt (Int.pow_pos (by omega)))]
  refine ⟨_, e, ?_, fun h => Int.ediv_nonneg h (Int.le_of_lt (Int.pow_pos (by omega))), fun h => Int.ediv_neg_of_neg_of_pos h (Int.pow_pos (by omega))⟩
  by_cases hm : k ≤ 8
  · rw [Nat.min_eq_left (by omega)]
    exact fits_iff n k _ rfl
  · rw [Nat.min_eq_right (by omega)]
    have hp : (2 : Int) ^ 64 ≤ 2 ^ (8 * k - 2) := by
      have : 2 ^ 64 ≤ 2 ^ (8 * k - 2) := Nat.pow_le_pow_right (by omega) (by omega)
      have h9 : ((2 ^ 64 : Nat) : Int) ≤ ((2 ^ (8 * k - 2) : Nat) : Int) := Int.ofNat_le.2 this
      rw [Int.natCast_pow, Int.natCast_pow] at h9
      exact h9
    constructor
    · intro _; omega
    · intro _
      unfold Fx.fits
      rw [Int.toNat_natCast]
      generalize (2 : Int) ^ (8 * k - 2) = P at hp
      omega
/-- The shift by three bits a digit. -/
theorem shr_oct (n : Int) (h0 : 0 ≤ n) (k : Nat) (hk : 2 ≤ k) (hk2 : k ≤ 20) :
    ∃ s : Int, (∀ w : World, (Op.shift .shr .i64 n .i64 (3 * ((k : Int) - 1))).run Tryd.prog w = .ok (.int .i64 s) w) ∧ (n < (8 : Int) ^ (k - 1) ↔ s = 0) := by
  have e : ∀ w : World, (Op.shift .shr .i64 n .i64 (3 * ((k : Int) - 1))).run Tryd.prog w = .ok (.int .i64 (n / 2 ^ (3 * (k - 1)))) w := by
    intro w
    have e1 : (3 * ((k : Int) - 1)).toNat = 3 * (k - 1) := by omega
    have e2 : IntKind.i64.bits = 64 := rfl
    have e3 : ¬ (3 * ((k : Int) - 1) < 0) := by omega
    have e4 : min (3 * (k - 1)) 64 = 3 * (k - 1) := by omega
    simp only [Op.shift, if_neg e3, e1, e2, e4, Sem.run_pure]
    rw [Int.fdiv_eq_ediv_of_nonneg _ (Int.le_of_lt (Int.pow_pos (by omega)))]
  refine ⟨_, e, ?_⟩
  have e8 : (2 : Int) ^ (3 * (k - 1)) = 8 ^ (k - 1) := by rw [Int.pow_mul]; rfl
  rw [e8]
  have hp : (0 : Int) < 8 ^ (k - 1) := Int.pow_pos (by omega)
  constructor
  · intro h; exact Int.ediv_eq_zero_of_lt h0 h
  · intro h
    have e1 := Int.mul_ediv_add_emod n (8 ^ (k - 1))
    have e3 := Int.emod_lt_of_pos n hp
    rw [h] at e1; omega
theorem shr_minB (n : Int) (h1 : -9223372036854775808 ≤ n) (h2 : n < 9223372036854775808) (K : Nat) (hk : 1 ≤ K) (w : World) :
    ∃ s : Int, n / 2 ^ (min (8 * ((K : Int) + 1) - 2) 63).toNat = s ∧ (Fx.fits n ((K + 1 : Nat) : Int) ↔ (s = 0 ∨ s = -1)) ∧ (0 ≤ n → 0 ≤ s) ∧ (n < 0 → s < 0) := by
  obtain ⟨s, hs, h⟩ := shr_min n h1 h2 (K + 1) (by omega)
  refine ⟨s, ?_, h⟩
  have e3 : ¬ (min (8 * ((K + 1 : Nat) : Int) - 2) 63 < 0) := by omega
  have e2 : IntKind.i64.bits = 64 := rfl
  have e4 : min (min (8 * ((K + 1 : Nat) : Int) - 2) 63).toNat 64 = (min (8 * ((K : Int) + 1) - 2) 63).toNat := by omega
  have := hs w
  simp only [Op.shift, if_neg e3, e2, e4, Sem.run_pure] at this
  rw [Int.fdiv_eq_ediv_of_nonneg _ (Int.le_of_lt (Int.pow_pos (by omega)))] at this
  simpa using this
theorem shr_octB (n : Int) (h0 : 0 ≤ n) (K : Nat) : n < (8 : Int) ^ K ↔ n / 2 ^ (3 * K) = 0 := by
  have e8 : (2 : Int) ^ (3 * K) = 8 ^ K := by rw [Int.pow_mul]; rfl
  rw [e8]
  have hp : (0 : Int) < 8 ^ K := Int.pow_pos (by omega)
  constructor
  · intro h; exact Int.ediv_eq_zero_of_lt h0 h
  · intro h
    have e1 := Int.mul_ediv_add_emod n (8 ^ K)
    have e3 := Int.emod_lt_of_pos n hp
    rw [h] at e1; omega
theorem strF_text (s : List UInt8) (h : 0 ∉ s) (r : Nat) : strF (s ++ List.replicate r 0) = s := by
  induction s with
  | nil => cases r <;> simp [strF, List.replicate_succ]
  | cons x t ih =>
    simp only [List.mem_cons, not_or] at h
    rw [List.cons_append, strF, if_neg (fun e => h.1 e.symm), ih h.2]
end Go.Proofs.YtkkelmlkpehcpaaDoor
