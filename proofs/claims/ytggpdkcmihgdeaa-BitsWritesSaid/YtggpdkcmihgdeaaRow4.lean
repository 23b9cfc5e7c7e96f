/-
  Contracts of the document's own rows of bits: Left, Peek, Get, Align, Bytes.
-/
import Derived.Test.YtggpdkcmihgdeaaRow3
namespace Go.Proofs.Ytggpdkcmihgdeaa
open Go.RowKit Bt

set_option maxRecDepth 100000 in
set_option maxHeartbeats 400000 in
theorem qleft_walk (w : World) (F : Nat → Prop) (g n : Nat) (L : List Bool) (h : Has w F (.row g L n)) (hn : n ≤ L.length) (hlen : L.length ≤ 1099511627) :
    Calls Try.prog 38 #[.pointer (some ⟨g, 0, none⟩)] w (QPost (.int .i64 ((L.length - n : Nat) : Int)) w) := by
  obtain ⟨p, cap, c0, c1, _, _⟩ := h.w1
  have HE : Hid ((L.length : Int) - (n : Int) = ((L.length - n : Nat) : Int)) := Lib.hid (by omega)
  clear h
  generalize L.length = l at *
  go_enter Try.func38, Try.ntmps38
  go_wp2_with fail
  go_quiet (fail)
  go_wp2_with fail
  go_ret
  exact ⟨ret_int HE.out, _, rfl⟩
/-- How many bits Peek tells of a row. -/
def thereL (L : List Bool) (n : Nat) (m : Int) : Nat := min (brt m 57) (L.length - n)
def segL (L : List Bool) (n k : Nat) : List Bool := (L.drop n).take k
set_option maxRecDepth 100000 in
set_option maxHeartbeats 800000 in
/-- Peek's end. -/
theorem qnum (w : World) (F : Nat → Prop) (g n t : Nat) (L : List Bool) (h : Has w F (.row g L n)) (ht : n + t ≤ L.length) (ht57 : t ≤ 57) :
    ∃ p cap sv, w.cell? ⟨g, 0, none⟩ = some (.slice p L.length cap) ∧ w.cell? ⟨g, 1, none⟩ = some (.int .i64 (n : Int)) ∧ (∀ w', (Instr.sliceAt 26 (.slice p L.length cap) (some (.int .i64 (n : Int))) (some (.int .i64 ((n : Int) + (t : Int)))) none).run Try.prog w' = .ok sv w') ∧
    ∀ m, Calls Try.prog 45 #[sv] (w.drewN m) fun e w' => e = .returned (.int .u64 (num (segL L n t) : Nat)) ∧ w' = w.drewN m := by
  obtain ⟨p, cap, c0, c1, ho, _⟩ := h.w1
  obtain ⟨sv, h1, h2⟩ := SlL_from ho.toL n (n + t) (by omega) ht
  rw [show n + t - n = t by omega] at h2
  refine ⟨p, cap, sv, c0, c1, h1, fun m => ?_⟩
  exact (number_ref _ sv _ (h2.below (Same.below ⟨m, rfl⟩ w.heap.size) (Nat.le_refl _)) (by simp; omega)).mono fun e w' ⟨he, hw⟩ => ⟨he, hw.symm⟩
set_option maxRecDepth 100000 in
set_option maxHeartbeats 1000000 in
theorem qpeek_neg (w : World) (F : Nat → Prop) (g n : Nat) (L : List Bool) (h : Has w F (.row g L n)) (hn : n ≤ L.length) (hlen : L.length ≤ 1099511627) (m : Int) (hm : m < 0) :
    Calls Try.prog 36 #[.pointer (some ⟨g, 0, none⟩), .int .i64 m] w (QPost (.tuple #[.int .u64 (num (segL L n (0)) : Nat), .int .i64 (0)]) w) := by
  have hl0 := qleft_walk w F g n L h hn hlen
  have HH := Lib.hid h
  obtain ⟨left, hleft⟩ : ∃ left, left = L.length - n := ⟨_, rfl⟩
  rw [← hleft] at hl0
  have HE := Lib.hid hleft
  have HL := Lib.hid hl0
  have hm2 : m ≤ (left : Int) := by omega
  clear h hl0 hleft
  go_enter Try.func36, Try.ntmps36
  go_wp2_with fail
  refine HL.out.mono ?_
  rintro e w1 ⟨rfl, hS⟩
  have HS := Lib.hid hS
  clear hS
  have HS2 := Lib.hid HS.out
  clear HS
  obtain ⟨p, cap, sv, c0, c1, hsl, hN⟩ := qnum _ F g n (0) L (HS2.out.has HH.out) (by have := HE.out; omega) (by omega)
  have HN := Lib.hid hN
  have hsl : ∀ w', (Instr.sliceAt 26 (.slice p L.length cap) (some (.int .i64 (n : Int))) (some (.int .i64 (n : Int))) none).run Try.prog w' = .ok sv w' := fun w' => by have := hsl w'; rwa [show (n : Int) + ((0 : Nat) : Int) = (n : Int) by omega] at this
  have hws : IntKind.i64.wrap ((n : Int)) = (n : Int) := IntWalk.i64_in _ (by omega)
  clear hN HL
  generalize num (segL L n (0)) = y at *
  generalize L.length = l at *
  go_wp2_with fail
  go_quiet ((go_at_call 45; exact Calls.quiet_of_same (HN.out _)))
  go_wp2_with fail
  go_ret2
  exact ⟨rfl, by obtain ⟨a, rfl⟩ := HS2.out; exact ⟨a + nq, by rw [World.drewN_drewN]⟩⟩
set_option maxRecDepth 100000 in
set_option maxHeartbeats 1000000 in
theorem qpeek_all (w : World) (F : Nat → Prop) (g n : Nat) (L : List Bool) (h : Has w F (.row g L n)) (hn : n ≤ L.length) (hlen : L.length ≤ 1099511627) (k : Nat) (hk : k ≤ 57) (hkl : k ≤ L.length - n) :
    Calls Try.prog 36 #[.pointer (some ⟨g, 0, none⟩), .int .i64 (k : Int)] w (QPost (.tuple #[.int .u64 (num (segL L n (k)) : Nat), .int .i64 ((k : Int))]) w) := by
  have hl0 := qleft_walk w F g n L h hn hlen
  have HH := Lib.hid h
  obtain ⟨left, hleft⟩ : ∃ left, left = L.length - n := ⟨_, rfl⟩
  rw [← hleft] at hl0 hkl
  have HE := Lib.hid hleft
  have HL := Lib.hid hl0
  have hk1 : (k : Int) ≤ 57 := by omega
  have hk2 : (k : Int) ≤ (left : Int) := by omega
  clear h hl0 hleft
  go_enter Try.func36, Try.ntmps36
  go_wp2_with fail
  refine HL.out.mono ?_
  rintro e w1 ⟨rfl, hS⟩
  have HS := Lib.hid hS
  clear hS
  have HS2 := Lib.hid HS.out
  clear HS
  obtain ⟨p, cap, sv, c0, c1, hsl, hN⟩ := qnum _ F g n (k) L (HS2.out.has HH.out) (by have := HE.out; omega) (by omega)
  have HN := Lib.hid hN
  have hsl : ∀ w', (Instr.sliceAt 26 (.slice p L.length cap) (some (.int .i64 (n : Int))) (some (.int .i64 ((n : Int) + (k : Int)))) none).run Try.prog w' = .ok sv w' := hsl
  have hws : IntKind.i64.wrap ((n : Int) + (k : Int)) = (n : Int) + (k : Int) := IntWalk.i64_in _ (by omega)
  clear hN HL
  generalize num (segL L n (k)) = y at *
  generalize L.length = l at *
  go_wp2_with fail
  go_quiet ((go_at_call 45; exact Calls.quiet_of_same (HN.out _)))
  go_wp2_with fail
  go_ret2
  exact ⟨rfl, by obtain ⟨a, rfl⟩ := HS2.out; exact ⟨a + nq, by rw [World.drewN_drewN]⟩⟩
set_option maxRecDepth 100000 in
set_option maxHeartbeats 1000000 in
theorem qpeek_left (w : World) (F : Nat → Prop) (g n : Nat) (L : List Bool) (h : Has w F (.row g L n)) (hn : n ≤ L.length) (hlen : L.length ≤ 1099511627) (k : Nat) (hk : k ≤ 57) (hkl : L.length - n < k) :
    Calls Try.prog 36 #[.pointer (some ⟨g, 0, none⟩), .int .i64 (k : Int)] w (QPost (.tuple #[.int .u64 (num (segL L n (L.length - n)) : Nat), .int .i64 (((L.length - n : Nat) : Int))]) w) := by
  have hl0 := qleft_walk w F g n L h hn hlen
  have HH := Lib.hid h
  obtain ⟨left, hleft⟩ : ∃ left, left = L.length - n := ⟨_, rfl⟩
  rw [← hleft] at hl0 hkl ⊢
  have HE := Lib.hid hleft
  have HL := Lib.hid hl0
  have hk1 : (k : Int) ≤ 57 := by omega
  have hk2 : (left : Int) < (k : Int) := by omega
  clear h hl0 hleft
  go_enter Try.func36, Try.ntmps36
  go_wp2_with fail
  refine HL.out.mono ?_
  rintro e w1 ⟨rfl, hS⟩
  have HS := Lib.hid hS
  clear hS
  have HL2 := qleft_walk w1 F g n L (HS.out.has HH.out) hn hlen
  rw [← HE.out] at HL2
  have HL2 := Lib.hid HL2
  go_wp2_with fail
  refine HL2.out.mono ?_
  rintro e w2 ⟨rfl, hS⟩
  have HS2 : Hid (Same w w2) := Lib.hid (by obtain ⟨a, rfl⟩ := HS.out; obtain ⟨b, rfl⟩ := hS; exact ⟨a + b, by rw [World.drewN_drewN]⟩)
  clear hS HS HL2
  obtain ⟨p, cap, sv, c0, c1, hsl, hN⟩ := qnum _ F g n (left) L (HS2.out.has HH.out) (by have := HE.out; omega) (by omega)
  have HN := Lib.hid hN
  have hsl : ∀ w', (Instr.sliceAt 26 (.slice p L.length cap) (some (.int .i64 (n : Int))) (some (.int .i64 ((n : Int) + ((left : Nat) : Int)))) none).run Try.prog w' = .ok sv w' := hsl
  have hws : IntKind.i64.wrap ((n : Int) + ((left : Nat) : Int)) = (n : Int) + ((left : Nat) : Int) := IntWalk.i64_in _ (by omega)
  clear hN HL
  generalize num (segL L n (left)) = y at *
  generalize L.length = l at *
  go_wp2_with fail
  go_quiet ((go_at_call 45; exact Calls.quiet_of_same (HN.out _)))
  go_wp2_with fail
  go_ret2
  exact ⟨rfl, by obtain ⟨a, rfl⟩ := HS2.out; exact ⟨a + nq, by rw [World.drewN_drewN]⟩⟩
set_option maxRecDepth 100000 in
set_option maxHeartbeats 1000000 in
theorem qpeek_57 (w : World) (F : Nat → Prop) (g n : Nat) (L : List Bool) (h : Has w F (.row g L n)) (hn : n ≤ L.length) (hlen : L.length ≤ 1099511627) (m : Int) (hm : 57 < m) (hkl : 57 ≤ L.length - n) :
    Calls Try.prog 36 #[.pointer (some ⟨g, 0, none⟩), .int .i64 m] w (QPost (.tuple #[.int .u64 (num (segL L n (57)) : Nat), .int .i64 (57)]) w) := by
  have hl0 := qleft_walk w F g n L h hn hlen
  have HH := Lib.hid h
  obtain ⟨left, hleft⟩ : ∃ left, left = L.length - n := ⟨_, rfl⟩
  rw [← hleft] at hl0 hkl
  have HE := Lib.hid hleft
  have HL := Lib.hid hl0
  have hk2 : (57 : Int) ≤ (left : Int) := by omega
  clear h hl0 hleft
  go_enter Try.func36, Try.ntmps36
  go_wp2_with fail
  refine HL.out.mono ?_
  rintro e w1 ⟨rfl, hS⟩
  have HS := Lib.hid hS
  clear hS
  have HS2 := Lib.hid HS.out
  clear HS
  obtain ⟨p, cap, sv, c0, c1, hsl, hN⟩ := qnum _ F g n (57) L (HS2.out.has HH.out) (by have := HE.out; omega) (by omega)
  have HN := Lib.hid hN
  have hsl : ∀ w', (Instr.sliceAt 26 (.slice p L.length cap) (some (.int .i64 (n : Int))) (some (.int .i64 ((n : Int) + 57))) none).run Try.prog w' = .ok sv w' := hsl
  have hws : IntKind.i64.wrap ((n : Int) + 57) = (n : Int) + 57 := IntWalk.i64_in _ (by omega)
  clear hN HL
  generalize num (segL L n (57)) = y at *
  generalize L.length = l at *
  go_wp2_with fail
  go_quiet ((go_at_call 45; exact Calls.quiet_of_same (HN.out _)))
  go_wp2_with fail
  go_ret2
  exact ⟨rfl, by obtain ⟨a, rfl⟩ := HS2.out; exact ⟨a + nq, by rw [World.drewN_drewN]⟩⟩
set_option maxRecDepth 100000 in
set_option maxHeartbeats 1000000 in
theorem qpeek_57l (w : World) (F : Nat → Prop) (g n : Nat) (L : List Bool) (h : Has w F (.row g L n)) (hn : n ≤ L.length) (hlen : L.length ≤ 1099511627) (m : Int) (hm : 57 < m) (hkl : L.length - n < 57) :
    Calls Try.prog 36 #[.pointer (some ⟨g, 0, none⟩), .int .i64 m] w (QPost (.tuple #[.int .u64 (num (segL L n (L.length - n)) : Nat), .int .i64 (((L.length - n : Nat) : Int))]) w) := by
  have hl0 := qleft_walk w F g n L h hn hlen
  have HH := Lib.hid h
  obtain ⟨left, hleft⟩ : ∃ left, left = L.length - n := ⟨_, rfl⟩
  rw [← hleft] at hl0 hkl ⊢
  have HE := Lib.hid hleft
  have HL := Lib.hid hl0
  have hk2 : (left : Int) < (57 : Int) := by omega
  clear h hl0 hleft
  go_enter Try.func36, Try.ntmps36
  go_wp2_with fail
  refine HL.out.mono ?_
  rintro e w1 ⟨rfl, hS⟩
  have HS := Lib.hid hS
  clear hS
  have HL2 := qleft_walk w1 F g n L (HS.out.has HH.out) hn hlen
  rw [← HE.out] at HL2
  have HL2 := Lib.hid HL2
  go_wp2_with fail
  refine HL2.out.mono ?_
  rintro e w2 ⟨rfl, hS⟩
  have HS2 : Hid (Same w w2) := Lib.hid (by obtain ⟨a, rfl⟩ := HS.out; obtain ⟨b, rfl⟩ := hS; exact ⟨a + b, by rw [World.drewN_drewN]⟩)
  clear hS HS HL2
  obtain ⟨p, cap, sv, c0, c1, hsl, hN⟩ := qnum _ F g n (left) L (HS2.out.has HH.out) (by have := HE.out; omega) (by omega)
  have HN := Lib.hid hN
  have hsl : ∀ w', (Instr.sliceAt 26 (.slice p L.length cap) (some (.int .i64 (n : Int))) (some (.int .i64 ((n : Int) + ((left : Nat) : Int)))) none).run Try.prog w' = .ok sv w' := hsl
  have hws : IntKind.i64.wrap ((n : Int) + ((left : Nat) : Int)) = (n : Int) + ((left : Nat) : Int) := IntWalk.i64_in _ (by omega)
  clear hN HL
  generalize num (segL L n (left)) = y at *
  generalize L.length = l at *
  go_wp2_with fail
  go_quiet ((go_at_call 45; exact Calls.quiet_of_same (HN.out _)))
  go_wp2_with fail
  go_ret2
  exact ⟨rfl, by obtain ⟨a, rfl⟩ := HS2.out; exact ⟨a + nq, by rw [World.drewN_drewN]⟩⟩
theorem qpeek_walk (w : World) (F : Nat → Prop) (g n : Nat) (m : Int) (L : List Bool) (h : Has w F (.row g L n)) (hn : n ≤ L.length) (hlen : L.length ≤ 1099511627) :
    Calls Try.prog 36 #[.pointer (some ⟨g, 0, none⟩), .int .i64 m] w (QPost (.tuple #[.int .u64 (num (segL L n (thereL L n m)) : Nat), .int .i64 (thereL L n m : Nat)]) w) := by
  by_cases h1 : m < 0
  · have e : thereL L n m = 0 := by unfold thereL brt; omega
    rw [e]; exact qpeek_neg w F g n L h hn hlen m h1
  by_cases h2 : 57 < m
  · by_cases h3 : 57 ≤ L.length - n
    · have e : thereL L n m = 57 := by unfold thereL brt; omega
      rw [e]; exact qpeek_57 w F g n L h hn hlen m h2 h3
    · have e : thereL L n m = L.length - n := by unfold thereL brt; omega
      rw [e]; exact qpeek_57l w F g n L h hn hlen m h2 (by omega)
  obtain ⟨k, rfl⟩ := Int.eq_ofNat_of_zero_le (show 0 ≤ m by omega)
  by_cases h3 : k ≤ L.length - n
  · have e : thereL L n (k : Nat) = k := by unfold thereL brt; omega
    rw [e]; exact qpeek_all w F g n L h hn hlen k (by omega) h3
  · have e : thereL L n (k : Nat) = L.length - n := by unfold thereL brt; omega
    rw [e]; exact qpeek_left w F g n L h hn hlen k (by omega) (by omega)
end Go.Proofs.Ytggpdkcmihgdeaa
