/-
  Contracts of the small functions: brought, Reverse, bytes.Clone, bytes.Equal.
-/
import Derived.Test.YtggpdkcmihgdeaaMem
namespace Go.Proofs.Ytggpdkcmihgdeaa
open Go.RowKit Bt

theorem bit_u64 (n k : Nat) (hn : n < 18446744073709551616) : bits .and .u64 ((n / 2 ^ k : Nat) : Int) 1 = (((n.testBit k).toNat : Nat) : Int) := by
  have h : n / 2 ^ k < 18446744073709551616 := Nat.lt_of_le_of_lt (Nat.div_le_self _ _) hn
  rw [show (1 : Int) = ((1 : Nat) : Int) from rfl, u64_and_nat _ _ h (by decide), and_one, bit_at]
theorem rev_go (n k : Nat) (hn : n < 18446744073709551616) (hk : k < 64) : bits .or .u64 (IntKind.u64.wrap ((rev n k : Nat) * (2 : Int))) (bits .and .u64 ((n / 2 ^ k : Nat) : Int) 1) = (rev n (k + 1) : Nat) := by
  have h1 := rev_lt n k
  have h2 : 2 ^ k ≤ 2 ^ 63 := Nat.pow_le_pow_right (by decide) (by omega)
  have h3 : rev n k * 2 < 18446744073709551616 := by
    have : (2 : Nat) ^ 63 = 9223372036854775808 := by decide
    omega
  have e : IntKind.u64.wrap ((rev n k : Nat) * (2 : Int)) = ((rev n k * 2 : Nat) : Int) := by
    rw [IntKind.wrap_u64]; omega
  rw [bit_u64 n k hn, e, u64_or_nat _ _ h3 (by cases n.testBit k <;> decide), rev_succ]
/-- many, brought to 0 to most. -/
def brt (m : Int) (most : Nat) : Nat := min m.toNat most
theorem brt_min (m : Int) (most : Nat) : min (max m 0) (most : Int) = ((brt m most : Nat) : Int) := by
  unfold brt; omega
theorem brt_le (m : Int) (most : Nat) : brt m most ≤ most := by unfold brt; omega
theorem brt_nat (k most : Nat) (h : k ≤ most) : brt (k : Int) most = k := by unfold brt; omega
set_option maxHeartbeats 400000 in
theorem brought_walk (m : Int) (most : Nat) (w : World) :
    Calls Try.prog 46 #[.int .i64 m, .int .i64 (most : Int)] w fun e w' => e = .returned (.int .i64 (brt m most : Nat)) ∧ w = w' := by
  go_enter Try.func46, Try.ntmps46
  go_wp2_with fail
  go_ret
  exact ⟨ret_int (brt_min m most), rfl⟩
theorem div_two (n k : Nat) : ((n / 2 ^ k : Nat) : Int) / 2 = ((n / 2 ^ (k + 1) : Nat) : Int) := by
  rw [Nat.pow_succ, ← Nat.div_div_eq_div_mul]; omega
set_option maxRecDepth 100000 in
set_option maxHeartbeats 400000 in
theorem reverse_walk (n : Nat) (m : Int) (w : World) (hn : n < 18446744073709551616) :
    Calls Try.prog 23 #[.int .u64 (n : Int), .int .i64 m] w fun e w' => e = .returned (.int .u64 (rev n (brt m 64) : Nat)) ∧ w = w' := by
  have HN := Lib.hid hn
  clear hn
  go_enter Try.func23, Try.ntmps23
  go_wp2_with fail
  have hb := brought_walk m 64 w
  refine hb.mono ?_
  rintro e w' ⟨rfl, rfl⟩
  clear hb
  have hk := brt_le m 64
  obtain ⟨K, hK⟩ : ∃ K, K = brt m 64 := ⟨_, rfl⟩
  rw [← hK] at hk ⊢
  have HK := Lib.hid hK
  clear hK
  go_wp2_with fail
  go_loop [0, 5, 8] (fun vn vt vk => ∃ k : Nat, k ≤ K ∧ vk = .int .i64 k ∧ vn = .int .u64 ((n / 2 ^ k : Nat) : Int) ∧ vt = .int .u64 (rev n k : Nat)) (fun _ _ vk => K - (intOf vk).toNat)
  case atStart => exact ⟨0, Nat.zero_le _, rfl, by simp, rfl⟩
  case round =>
    obtain ⟨k, hk, rfl, rfl, rfl⟩ := hrel
    by_cases hlt : k < K
    · have hki : (k : Int) < (K : Int) := by omega
      have HR := Lib.hid (rev_go n k HN.out (by omega))
      have HD := Lib.hid (div_two n k)
      generalize n / 2 ^ k = x at *
      generalize rev n k = r at *
      go_wp2_with fail
      exact ⟨⟨k + 1, by omega, by go_num, by rw [HD.out], by rw [HR.out]⟩, by simp [intOf]; omega⟩
    · have hki : (K : Int) ≤ (k : Int) := by omega
      obtain rfl : k = K := by omega
      generalize n / 2 ^ k = x at *
      go_wp2_with fail
      go_ret
      exact ⟨ret_int (by rw [HK.out]), rfl⟩
def ClonePost (bs : List UInt8) (w : World) (e : Ending) (w' : World) : Prop := ∃ v', e = .returned v' ∧ OwnB w.heap.size w' v' bs ∧ Below w.heap.size w w'
set_option maxRecDepth 100000 in
set_option maxHeartbeats 400000 in
/-- bytes.Clone, not of nil. -/
theorem clone_some (w : World) (a : Addr) (n cap : Nat) (bs : List UInt8) (hs : SlW w (.slice (some a) n cap) bs) (hlen : bs.length ≤ 1099511627776) :
    Calls Try.prog 16 #[.slice (some a) n cap] w (ClonePost bs w) := by
  have q22 : ∀ (w : World) (a : Option Addr) (n c n' c' : Nat), (binOp .eql 30 (.slice a n c) (.slice none n' c')).run Try.prog w = .ok (.bool a.isNone) w := fun w a n c n' c' => Lib.run_eql_slice_nil w _ _ a n c n' c' Try.underlying30
  have u22 : ∀ w, Sem.run Try.prog (underlying 30) w = .ok (TypeDesc.slice 5) w := run_underlying Try.underlying30
  obtain ⟨i0, hi, hz0, hz1, hz2⟩ := info_parts info5
  have z5 : ∀ w, Sem.run Try.prog (Go.sizeOf 5) w = .ok 1 w := fun w => by simp [Go.sizeOf, typeInfo, hi, hz1]
  have HS : Hid (SlW (w.alloc (.cells #[] 5)) (.slice (some a) n cap) bs) := Lib.hid (hs.below ((Below.refl _ _).alloc (Nat.le_refl _) _) (Nat.le_refl _))
  have HL := Lib.hid hlen
  have HO : Hid (OwnB w.heap.size (w.alloc (.cells #[] 5)) (.slice (some ⟨w.heap.size, 0, none⟩) 0 0) []) := Lib.hid (World.ownsRow_made w #[] 0 (Nat.le_refl _) (Nat.zero_le _) rfl)
  clear hs hlen
  go_enter Try.func16, Try.ntmps16
  go_wp2_with (refine wpList_appB rfl (.tmp 5) (.tmp 6) rfl w.heap.size (.slice (some ⟨w.heap.size, 0, none⟩) 0 0) (.slice (some a) n cap) [] bs rfl rfl HO.out HS.out (by simp) (by simpa using HL.out) ?_; intro v' w1 hown hgrow _)
  go_ret
  exact ⟨v', rfl, hown, ((Below.refl _ w).alloc (Nat.le_refl _) _).grown hgrow (by simp) (by intro k hk; simp [Value.ownBlock] at hk; omega)⟩
set_option maxHeartbeats 400000 in
theorem clone_nil (w : World) (n cap : Nat) :
    Calls Try.prog 16 #[.slice none n cap] w fun e w' => e = .returned (.slice none 0 0) ∧ w = w' := by
  have q22 : ∀ (w : World) (a : Option Addr) (n c n' c' : Nat), (binOp .eql 30 (.slice a n c) (.slice none n' c')).run Try.prog w = .ok (.bool a.isNone) w := fun w a n c n' c' => Lib.run_eql_slice_nil w _ _ a n c n' c' Try.underlying30
  go_enter Try.func16, Try.ntmps16
  go_wp2_with fail
  go_ret
  exact ⟨rfl, rfl⟩
theorem clone_walk (w : World) (v : Value) (bs : List UInt8) (hs : SlW w v bs) (hlen : bs.length ≤ 1099511627776) : Calls Try.prog 16 #[v] w (ClonePost bs w) := by
  have hs0 := hs
  rcases hs with ⟨g, o, cap, rfl, h2, hB⟩ | ⟨p, rfl, rfl⟩
  · exact clone_some w _ _ _ bs hs0 hlen
  · cases p with
    | some a => exact clone_some w _ _ _ [] hs0 hlen
    | none => exact (clone_nil w 0 0).mono fun e w' ⟨he, hw⟩ => hw ▸ ⟨_, he, OwnB.nil _ _, Below.refl _ _⟩
set_option maxHeartbeats 400000 in
theorem equal_walk (w : World) (v u : Value) (a b : List UInt8) (h : SlW w v a) (k : SlW w u b) :
    Calls Try.prog 21 #[v, u] w fun e w' => e = .returned (.bool (a == b)) ∧ w = w' := by
  have c1 := run_toString h
  have c2 := run_toString k
  go_enter Try.func21, Try.ntmps21
  go_wp2_with fail
  go_ret
  exact ⟨rfl, rfl⟩
end Go.Proofs.Ytggpdkcmihgdeaa
