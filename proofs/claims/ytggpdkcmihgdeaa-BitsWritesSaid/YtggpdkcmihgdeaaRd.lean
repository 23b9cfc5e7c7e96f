/-
  Contracts of bits.Reader's calls.
-/
import Derived.Test.YtggpdkcmihgdeaaHas
namespace Go.Proofs.Ytggpdkcmihgdeaa
open Go.RowKit Bt

theorem Has.r0 {w : World} {F : Nat → Prop} {g n : Nat} {bs : List UInt8} (h : Has w F (.rd g bs n)) : w.cell? ⟨g, 0, none⟩ = some (.bool true) := by
  obtain ⟨rv, h1, _⟩ := h; exact cell_of_row _ _ _ _ _ _ h1
theorem Has.r2 {w : World} {F : Nat → Prop} {g n : Nat} {bs : List UInt8} (h : Has w F (.rd g bs n)) : w.cell? ⟨g, 2, none⟩ = some (.int .i64 (n : Int)) := by
  obtain ⟨rv, h1, _⟩ := h; exact cell_of_row _ _ _ _ _ _ h1
theorem Has.rfree {w : World} {F : Nat → Prop} {g n : Nat} {bs : List UInt8} (h : Has w F (.rd g bs n)) (i : Nat) : w.frozen? ⟨g, i, none⟩ = false := by
  obtain ⟨rv, h1, _⟩ := h; exact frozen_of_row _ _ _ _ _ h1
theorem Has.rset {w : World} {F : Nat → Prop} {g n : Nat} {bs : List UInt8} (h : Has w F (.rd g bs n)) (m : Nat) : Turn F (.rd g bs m) w (w.setCell ⟨g, 2, none⟩ (.int .i64 (m : Int))) := by
  obtain ⟨rv, h1, h2, h3, h4⟩ := h
  have hne := h2.apart h1 (by decide)
  exact ⟨OnlyS.setCell _ _ _ _ h3, rv, (heap_setCell_same _ _ _ _ _ _ h1).trans rfl, h2.stays fun k hk => heap_setCell_other _ _ _ _ (fun e => hne (by rw [hk, e])), .inl h3, fun k hk => .inl (h4 k hk)⟩
/-- The world is the same, but for draws. -/
def Same (w w' : World) : Prop := ∃ nq, w' = w.drewN nq
theorem Same.refl (w : World) : Same w w := ⟨0, rfl⟩
theorem Same.below {w w' : World} (h : Same w w') (B : Nat) : Below B w w' := by
  obtain ⟨nq, rfl⟩ := h; exact ⟨rfl, rfl, rfl, Nat.le_refl _, fun _ _ => rfl⟩
theorem Same.has {w w' : World} {F : Nat → Prop} {t : Thing} (h : Same w w') (k : Has w F t) : Has w' F t := by
  obtain ⟨nq, rfl⟩ := h; exact k.stays fun _ _ => rfl
theorem Same.turn {w w' : World} {F : Nat → Prop} {t : Thing} (h : Same w w') (k : Has w F t) : Turn F t w w' := ⟨OnlyS.of_below (h.below _), (h.has k).mono fun _ hk => .inl hk⟩
theorem Same.before {a b c : World} {F : Nat → Prop} {t : Thing} (h : Same a b) (k : Turn F t b c) : Turn F t a c := by
  obtain ⟨nq, rfl⟩ := h
  exact ⟨⟨k.only.os, k.only.tape, k.only.output, k.only.size, k.only.block⟩, k.has⟩
def QPost (v : Value) (w : World) (e : Ending) (w' : World) : Prop := e = .returned v ∧ Same w w'
set_option maxHeartbeats 400000 in
theorem rusable_cell (w : World) (g : Nat) (b : Bool) (c0 : w.cell? ⟨g, 0, none⟩ = some (.bool b)) :
    Calls Try.prog 50 #[.pointer (some ⟨g, 0, none⟩)] w fun e w' => e = .returned (.bool b) ∧ w = w' := by
  go_enter Try.func50, Try.ntmps50
  go_wp2_with fail
  go_ret
  exact ⟨rfl, rfl⟩
set_option maxHeartbeats 400000 in
theorem rusable_none (w : World) :
    Calls Try.prog 50 #[.pointer none] w fun e w' => e = .returned (.bool false) ∧ w = w' := by
  go_enter Try.func50, Try.ntmps50
  go_wp2_with fail
  go_ret
  exact ⟨rfl, rfl⟩
set_option maxRecDepth 100000 in
set_option maxHeartbeats 400000 in
theorem rleft_walk (w : World) (F : Nat → Prop) (g n : Nat) (bs : List UInt8) (h : Has w F (.rd g bs n)) (hn : n ≤ 8 * bs.length) (hlen : bs.length ≤ 1099511627776) :
    Calls Try.prog 37 #[.pointer (some ⟨g, 0, none⟩)] w (QPost (.int .i64 ((8 * bs.length - n : Nat) : Int)) w) := by
  have HU := Lib.hid (rusable_cell w g true h.r0)
  have c2 := h.r2
  obtain ⟨rv, h1, h2, h3, h4⟩ := h
  obtain ⟨p, cap, rfl⟩ := h2.toW.shape
  have c1 : w.cell? ⟨g, 1, none⟩ = some (.slice p bs.length cap) := cell_of_row _ _ _ _ _ _ h1
  have HE : Hid ((bs.length : Int) * 8 - (n : Int) = ((8 * bs.length - n : Nat) : Int)) := Lib.hid (by omega)
  have hi : (n : Int) ≤ 8 * (bs.length : Int) := by omega
  clear h1 h2 h3 h4
  generalize bs.length = l at *
  go_enter Try.func37, Try.ntmps37
  go_wp2_with fail
  refine HU.out.mono ?_
  rintro e w' ⟨rfl, rfl⟩
  go_wp2_with fail
  go_quiet (fail)
  go_wp2_with fail
  go_ret
  exact ⟨ret_int HE.out, _, rfl⟩
set_option maxHeartbeats 400000 in
theorem rleft_dead (w : World) (p : Value) (HU : Calls Try.prog 50 #[p] w fun e w' => e = .returned (.bool false) ∧ w = w') :
    Calls Try.prog 37 #[p] w fun e w' => e = .returned (.int .i64 0) ∧ w = w' := by
  have HU := Lib.hid HU
  go_enter Try.func37, Try.ntmps37
  go_wp2_with fail
  refine HU.out.mono ?_
  rintro e w' ⟨rfl, rfl⟩
  go_wp2_with fail
  go_ret
  exact ⟨rfl, rfl⟩
set_option maxHeartbeats 400000 in
theorem rat_walk (w : World) (F : Nat → Prop) (g n : Nat) (bs : List UInt8) (h : Has w F (.rd g bs n)) :
    Calls Try.prog 39 #[.pointer (some ⟨g, 0, none⟩)] w fun e w' => e = .returned (.int .i64 (n : Int)) ∧ w = w' := by
  have HU := Lib.hid (rusable_cell w g true h.r0)
  have c2 := h.r2
  clear h
  go_enter Try.func39, Try.ntmps39
  go_wp2_with fail
  refine HU.out.mono ?_
  rintro e w' ⟨rfl, rfl⟩
  go_wp2_with fail
  go_ret
  exact ⟨rfl, rfl⟩
set_option maxHeartbeats 400000 in
theorem rat_dead (w : World) (p : Value) (HU : Calls Try.prog 50 #[p] w fun e w' => e = .returned (.bool false) ∧ w = w') :
    Calls Try.prog 39 #[p] w fun e w' => e = .returned (.int .i64 0) ∧ w = w' := by
  have HU := Lib.hid HU
  go_enter Try.func39, Try.ntmps39
  go_wp2_with fail
  refine HU.out.mono ?_
  rintro e w' ⟨rfl, rfl⟩
  go_wp2_with fail
  go_ret
  exact ⟨rfl, rfl⟩
theorem wrap_bit (b : Bool) : IntKind.u64.wrap ((b.toNat : Nat) : Int) = ((b.toNat : Nat) : Int) := by cases b <;> rfl
/-- The bit at a place. -/
def bitAt (bs : List UInt8) (k : Nat) : Bool := (bs.getD (k / 8) 0).toNat.testBit (k % 8)
theorem byte_bit (x : UInt8) (p : Nat) : bits .and .u8 (bi x / 2 ^ p) 1 = (((x.toNat.testBit p).toNat : Nat) : Int) := by
  have e : bi x / 2 ^ p = ((x.toNat / 2 ^ p : Nat) : Int) := by unfold bi; norm_cast
  have h : x.toNat / 2 ^ p < 256 := Nat.lt_of_le_of_lt (Nat.div_le_self _ _) x.toNat_lt
  rw [e, show (1 : Int) = ((1 : Nat) : Int) from rfl, u8_and_nat _ _ h (by decide), and_one, bit_at]
set_option maxRecDepth 100000 in
set_option maxHeartbeats 400000 in
theorem rbit_walk (w : World) (F : Nat → Prop) (g n k : Nat) (bs : List UInt8) (h : Has w F (.rd g bs n)) (hk : n + k < 8 * bs.length) (hlen : bs.length ≤ 1099511627776) :
    Calls Try.prog 49 #[.pointer (some ⟨g, 0, none⟩), .int .i64 (k : Int)] w fun e w' => e = .returned (.int .u64 ((bitAt bs (n + k)).toNat : Nat)) ∧ w = w' := by
  have c2 := h.r2
  obtain ⟨rv, h1, h2, h3, h4⟩ := h
  obtain ⟨b, cap, rfl, _, _, _, _, hc, _⟩ := h2.spot (by omega)
  have c1 : w.cell? ⟨g, 1, none⟩ = some (.slice (some ⟨b, 0, none⟩) bs.length cap) := cell_of_row _ _ _ _ _ _ h1
  have hq : (n + k) / 8 < bs.length := by omega
  have c3 := hc _ hq
  have HB := Lib.hid (byte_bit (bs.getD ((n + k) / 8) 0) ((n + k) % 8))
  have HE : Hid (bitAt bs (n + k) = (bs.getD ((n + k) / 8) 0).toNat.testBit ((n + k) % 8)) := Lib.hid rfl
  have hi1 : ((n : Int) + (k : Int)) / 8 < (bs.length : Int) := by omega
  clear h1 h2 h3 h4 hc
  generalize bs.getD ((n + k) / 8) 0 = x at *
  generalize bs.length = l at *
  go_enter Try.func49, Try.ntmps49
  go_wp2_with fail
  go_ret
  exact ⟨ret_int (by rw [HE.out, HB.out, wrap_bit]), rfl⟩
theorem seg_bit (bs : List UInt8) (p k : Nat) : seg bs p (k + 1) = seg bs p k ++ [bitAt bs (p + k)] := seg_succ bs p k
theorem num_go (bs : List UInt8) (p k : Nat) (hk : k < 64) : bits .or .u64 ((num (seg bs p k) : Nat) : Int) (IntKind.u64.wrap (((bitAt bs (p + k)).toNat : Int) * 2 ^ k)) = ((num (seg bs p (k + 1)) : Nat) : Int) := by
  have h1 := num_lt (seg bs p k)
  rw [seg_length] at h1
  rw [seg_bit, num_snoc, seg_length]
  have h2 : 2 ^ k ≤ 2 ^ 63 := Nat.pow_le_pow_right (by decide) (by omega)
  have h3 : (2 : Nat) ^ 63 = 9223372036854775808 := by decide
  generalize bitAt bs (p + k) = b at *
  have h4 : b.toNat <<< k < 18446744073709551616 := by
    rw [Nat.shiftLeft_eq]
    cases b <;> simp <;> omega
  have e : IntKind.u64.wrap ((b.toNat : Int) * 2 ^ k) = ((b.toNat <<< k : Nat) : Int) := by
    have e1 : (b.toNat : Int) * 2 ^ k = ((b.toNat <<< k : Nat) : Int) := by rw [Nat.shiftLeft_eq, Int.natCast_mul, Int.natCast_pow]; rfl
    rw [e1, IntKind.wrap_u64]
    generalize b.toNat <<< k = z at *
    omega
  rw [e, u64_or_nat _ _ (by omega) h4]
set_option maxRecDepth 100000 in
set_option maxHeartbeats 400000 in
theorem number_walk (w : World) (F : Nat → Prop) (g n K : Nat) (bs : List UInt8) (h : Has w F (.rd g bs n)) (hk : n + K ≤ 8 * bs.length) (hlen : bs.length ≤ 1099511627776) (hK : K ≤ 57) :
    Calls Try.prog 48 #[.int .i64 (K : Int), .func (.func 49) #[.pointer (some ⟨g, 0, none⟩)] #[]] w fun e w' => e = .returned (.int .u64 (num (seg bs n K) : Nat)) ∧ w = w' := by
  have HH := Lib.hid h
  have HL := Lib.hid hlen
  clear h hlen
  go_enter Try.func48, Try.ntmps48
  go_wp2_with fail
  go_loop [5, 6, 8] (fun vn _ v => ∃ k : Nat, k ≤ K ∧ v = .int .i64 k ∧ vn = .int .u64 (num (seg bs n k) : Nat)) (fun _ _ v => K - (intOf v).toNat)
  case atStart => exact ⟨0, Nat.zero_le _, rfl, rfl⟩
  case round =>
    obtain ⟨k, hk1, rfl, rfl⟩ := hrel
    by_cases hlt : k < K
    · have hki : (k : Int) < (K : Int) := by omega
      have HN := Lib.hid (num_go bs n k (by omega))
      have HB := Lib.hid (rbit_walk w F g n k bs HH.out (by omega) HL.out)
      generalize num (seg bs n k) = x at *
      go_wp2_with fail
      refine HB.out.mono ?_
      rintro e w' ⟨rfl, rfl⟩
      generalize bitAt bs (n + k) = b at *
      go_wp2_with fail
      exact ⟨⟨k + 1, by omega, by go_num, by rw [HN.out]⟩, by simp [intOf]; omega⟩
    · have hki : (K : Int) ≤ (k : Int) := by omega
      obtain rfl : k = K := by omega
      go_wp2_with fail
      go_ret
      exact ⟨rfl, rfl⟩
set_option maxHeartbeats 400000 in
theorem rrefusal_ok (w : World) (F : Nat → Prop) (g n k : Nat) (bs : List UInt8) (h : Has w F (.rd g bs n)) (hk : n + k ≤ 8 * bs.length) (hlen : bs.length ≤ 1099511627776) (hK : k ≤ 57) :
    Calls Try.prog 47 #[.pointer (some ⟨g, 0, none⟩), .int .i64 (k : Int)] w (QPost (.int .i64 0) w) := by
  have HU := Lib.hid (rusable_cell w g true h.r0)
  have HL := Lib.hid (rleft_walk w F g n bs h (by omega) hlen)
  have h1 : (0 : Int) ≤ (k : Int) := by omega
  have h2 : (k : Int) ≤ 57 := by omega
  have h3 : (k : Int) ≤ ((8 * bs.length - n : Nat) : Int) := by omega
  generalize 8 * bs.length - n = left at *
  clear h hk hlen hK
  go_enter Try.func47, Try.ntmps47
  go_wp2_with fail
  refine HU.out.mono ?_
  rintro e w' ⟨rfl, rfl⟩
  go_wp2_with fail
  refine HL.out.mono ?_
  rintro e w' ⟨rfl, hS⟩
  have HS := Lib.hid hS
  clear hS
  go_wp2_with fail
  go_ret
  exact ⟨rfl, HS.out⟩
set_option maxHeartbeats 400000 in
theorem rrefusal_short (w : World) (F : Nat → Prop) (g n k : Nat) (bs : List UInt8) (h : Has w F (.rd g bs n)) (hn : n ≤ 8 * bs.length) (hk : 8 * bs.length < n + k) (hlen : bs.length ≤ 1099511627776) (hK : k ≤ 57) :
    Calls Try.prog 47 #[.pointer (some ⟨g, 0, none⟩), .int .i64 (k : Int)] w (QPost (.int .i64 4) w) := by
  have HU := Lib.hid (rusable_cell w g true h.r0)
  have HL := Lib.hid (rleft_walk w F g n bs h hn hlen)
  have h1 : (0 : Int) ≤ (k : Int) := by omega
  have h2 : (k : Int) ≤ 57 := by omega
  have h3 : ((8 * bs.length - n : Nat) : Int) < (k : Int) := by omega
  generalize 8 * bs.length - n = left at *
  clear h hk hlen hK hn
  go_enter Try.func47, Try.ntmps47
  go_wp2_with fail
  refine HU.out.mono ?_
  rintro e w' ⟨rfl, rfl⟩
  go_wp2_with fail
  refine HL.out.mono ?_
  rintro e w' ⟨rfl, hS⟩
  have HS := Lib.hid hS
  clear hS
  go_wp2_with fail
  go_ret
  exact ⟨rfl, HS.out⟩
set_option maxHeartbeats 400000 in
theorem rrefusal_lo (w : World) (g : Nat) (m : Int) (c0 : w.cell? ⟨g, 0, none⟩ = some (.bool true)) (hm : m < 0) :
    Calls Try.prog 47 #[.pointer (some ⟨g, 0, none⟩), .int .i64 m] w (QPost (.int .i64 1) w) := by
  have HU := Lib.hid (rusable_cell w g true c0)
  have hd : decide (m < 0) = true := by simpa using hm
  clear c0
  go_enter Try.func47, Try.ntmps47
  go_wp2_with fail
  refine HU.out.mono ?_
  rintro e w' ⟨rfl, rfl⟩
  go_wp2_with fail
  go_ret
  exact ⟨rfl, Same.refl _⟩
set_option maxHeartbeats 400000 in
theorem rrefusal_hi (w : World) (g : Nat) (m : Int) (c0 : w.cell? ⟨g, 0, none⟩ = some (.bool true)) (hm : 57 < m) :
    Calls Try.prog 47 #[.pointer (some ⟨g, 0, none⟩), .int .i64 m] w (QPost (.int .i64 1) w) := by
  have HU := Lib.hid (rusable_cell w g true c0)
  have h0 : 0 ≤ m := by omega
  clear c0
  go_enter Try.func47, Try.ntmps47
  go_wp2_with fail
  refine HU.out.mono ?_
  rintro e w' ⟨rfl, rfl⟩
  go_wp2_with fail
  go_ret
  exact ⟨rfl, Same.refl _⟩
set_option maxHeartbeats 400000 in
theorem rrefusal_dead (w : World) (p : Value) (m : Int) (HU : Calls Try.prog 50 #[p] w fun e w' => e = .returned (.bool false) ∧ w = w') :
    Calls Try.prog 47 #[p, .int .i64 m] w (QPost (.int .i64 2) w) := by
  have HU := Lib.hid HU
  go_enter Try.func47, Try.ntmps47
  go_wp2_with fail
  refine HU.out.mono ?_
  rintro e w' ⟨rfl, rfl⟩
  go_wp2_with fail
  go_ret
  exact ⟨rfl, Same.refl _⟩
/-- What refuses. -/
def rerr (bs : List UInt8) (n : Nat) (m : Int) : Nat := if m < 0 ∨ 57 < m then 1 else if (8 * bs.length : Int) < n + m then 4 else 0
theorem rrefusal_err (w : World) (F : Nat → Prop) (g n : Nat) (m : Int) (bs : List UInt8) (h : Has w F (.rd g bs n)) (hn : n ≤ 8 * bs.length) (hlen : bs.length ≤ 1099511627776) :
    Calls Try.prog 47 #[.pointer (some ⟨g, 0, none⟩), .int .i64 m] w (QPost (.int .i64 (rerr bs n m : Nat)) w) := by
  unfold rerr
  by_cases h1 : m < 0
  · rw [if_pos (.inl h1)]; exact rrefusal_lo w g m h.r0 h1
  by_cases h2 : 57 < m
  · rw [if_pos (.inr h2)]; exact rrefusal_hi w g m h.r0 h2
  rw [if_neg (by omega)]
  obtain ⟨k, rfl⟩ := Int.eq_ofNat_of_zero_le (show 0 ≤ m by omega)
  by_cases h3 : (8 * bs.length : Int) < n + (k : Nat)
  · rw [if_pos h3]; exact rrefusal_short w F g n k bs h hn (by omega) hlen (by omega)
  · rw [if_neg h3]; exact rrefusal_ok w F g n k bs h (by omega) hlen (by omega)
end Go.Proofs.Ytggpdkcmihgdeaa
