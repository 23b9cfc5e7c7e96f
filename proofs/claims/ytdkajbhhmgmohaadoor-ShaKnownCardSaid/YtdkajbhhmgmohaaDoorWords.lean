/-
  Contracts of the small functions of package sha: turned, the four sigmas, word.
-/
import Derived.Test.YtdkajbhhmgmohaaDoorRows
import Derived.Test.YtdkajbhhmgmohaaDoorSpec
import Derived.WalkKit
import Derived.WalkSpells
import Derived.WalkLawsBesides
import Derived.Deep.QuietTactic
import Derived.BigQuiet
namespace Go.Proofs.YtdkajbhhmgmohaaDoor
open Go.RowKit Sha
attribute [go_sem] u32_xor_iv u32_and_iv u32_or_iv u32_not_iv add_iv wrap_add_iv
theorem ret_int {k : IntKind} {a b : Int} (h : a = b) : Ending.returned (.int k a) = .returned (.int k b) := by rw [h]
set_option maxHeartbeats 400000 in
theorem turned_int (x : Int) (k : Nat) (w : World) (_h0 : 0 ≤ x) (_h1 : x < 4294967296) (hk : 1 ≤ k) (hk' : k ≤ 31) :
    Calls Tryd.prog 83 #[.int .u32 x, .int .u64 k] w fun e w' => e = .returned (.int .u32 (bits .or .u32 (x / 2 ^ k) (x * 2 ^ (32 - k) % 4294967296))) ∧ w = w' := by
  go_enter Tryd.func83, Tryd.ntmps83
  go_wp2
  go_ret
  exact ⟨rfl, rfl⟩
theorem turned_iv (X : W) (k : Int) (w : World) (hk : 1 ≤ k) (hk' : k ≤ 31) :
    Calls Tryd.prog 83 #[.int .u32 (iv X), .int .u64 k] w fun e w' => e = .returned (.int .u32 (iv (rotr X k.toNat))) ∧ w = w' := by
  obtain ⟨n, rfl⟩ := Int.eq_ofNat_of_zero_le (show 0 ≤ k by omega)
  have h := turned_int (iv X) n w (iv_nonneg X) (iv_lt X) (by omega) (by omega)
  rw [rotr_iv] at h
  exact h
set_option maxHeartbeats 400000 in
theorem bS1_iv (X : W) (w : World) :
    Calls Tryd.prog 71 #[.int .u32 (iv X)] w fun e w' => e = .returned (.int .u32 (iv (bS1 X))) ∧ w = w' := by
  go_enter Tryd.func71, Tryd.ntmps71
  go_wp2_with (go_at_call 83; refine (turned_iv X _ _ (by decide) (by decide)).mono ?_; rintro e w' ⟨rfl, rfl⟩)
  go_ret
  exact ⟨rfl, rfl⟩
set_option maxHeartbeats 400000 in
theorem bS0_iv (X : W) (w : World) :
    Calls Tryd.prog 72 #[.int .u32 (iv X)] w fun e w' => e = .returned (.int .u32 (iv (bS0 X))) ∧ w = w' := by
  go_enter Tryd.func72, Tryd.ntmps72
  go_wp2_with (go_at_call 83; refine (turned_iv X _ _ (by decide) (by decide)).mono ?_; rintro e w' ⟨rfl, rfl⟩)
  go_ret
  exact ⟨rfl, rfl⟩
theorem sS1_eq (X : W) : bits .xor .u32 (iv (rotr X 17 ^^^ rotr X 19)) (iv X / 1024) = iv (sS1 X) := by
  rw [show (1024 : Int) = 2 ^ 10 from rfl, shr_iv, u32_xor_iv]; rfl
theorem sS0_eq (X : W) : bits .xor .u32 (iv (rotr X 7 ^^^ rotr X 18)) (iv X / 8) = iv (sS0 X) := by
  rw [show (8 : Int) = 2 ^ 3 from rfl, shr_iv, u32_xor_iv]; rfl
set_option maxHeartbeats 400000 in
theorem sS1_iv (X : W) (w : World) :
    Calls Tryd.prog 81 #[.int .u32 (iv X)] w fun e w' => e = .returned (.int .u32 (iv (sS1 X))) ∧ w = w' := by
  have h0 := iv_nonneg X
  have h1 := iv_lt X
  go_enter Tryd.func81, Tryd.ntmps81
  go_wp2_with (go_at_call 83; refine (turned_iv X _ _ (by decide) (by decide)).mono ?_; rintro e w' ⟨rfl, rfl⟩)
  go_ret
  exact ⟨ret_int (sS1_eq X), rfl⟩
set_option maxHeartbeats 400000 in
theorem sS0_iv (X : W) (w : World) :
    Calls Tryd.prog 82 #[.int .u32 (iv X)] w fun e w' => e = .returned (.int .u32 (iv (sS0 X))) ∧ w = w' := by
  have h0 := iv_nonneg X
  have h1 := iv_lt X
  go_enter Tryd.func82, Tryd.ntmps82
  go_wp2_with (go_at_call 83; refine (turned_iv X _ _ (by decide) (by decide)).mono ?_; rintro e w' ⟨rfl, rfl⟩)
  go_ret
  exact ⟨ret_int (sS0_eq X), rfl⟩
theorem word_eq (a b c d : UInt8) : bits BinOp.or IntKind.u32 (bits BinOp.or IntKind.u32 (bits BinOp.or IntKind.u32 (bi a % 4294967296 * 16777216 % 4294967296) (bi b % 4294967296 * 65536 % 4294967296)) (bi c % 4294967296 * 256 % 4294967296)) (bi d % 4294967296) = iv (word4 a b c d) := by
  have e : ∀ x : UInt8, bi x % 4294967296 = iv (BitVec.ofNat 32 x.toNat) := fun x => by
    rw [iv_byte]; have := iv_nonneg (BitVec.ofNat 32 x.toNat); have := iv_lt (BitVec.ofNat 32 x.toNat); omega
  rw [e a, e b, e c, e d, show (16777216 : Int) = 2 ^ 24 from rfl, show (65536 : Int) = 2 ^ 16 from rfl, show (256 : Int) = 2 ^ 8 from rfl, shl_iv, shl_iv, shl_iv, u32_or_iv, u32_or_iv, u32_or_iv]
  rfl
set_option maxHeartbeats 400000 in
theorem word_iv (g o len cap : Nat) (a b c d : UInt8) (w : World) (hl : 4 ≤ len)
    (h0 : w.cell? ⟨g, o, none⟩ = some (.int .u8 (bi a))) (h1 : w.cell? ⟨g, o + 1, none⟩ = some (.int .u8 (bi b)))
    (h2 : w.cell? ⟨g, o + 2, none⟩ = some (.int .u8 (bi c))) (h3 : w.cell? ⟨g, o + 3, none⟩ = some (.int .u8 (bi d))) :
    Calls Tryd.prog 80 #[.slice (some ⟨g, o, none⟩) len cap] w fun e w' => e = .returned (.int .u32 (iv (word4 a b c d))) ∧ ∃ n, w' = w.drewN n := by
  go_enter Tryd.func80, Tryd.ntmps80
  go_wp2
  go_quiet (fail)
  go_wp2
  go_ret
  exact ⟨ret_int (word_eq a b c d), _, rfl⟩
end Go.Proofs.YtdkajbhhmgmohaaDoor
