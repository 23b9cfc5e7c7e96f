/-
  The law BitsKnown walked.
-/
import Derived.Test.YtggpdkcmihgdeaaUse2
namespace Go.Proofs.Ytggpdkcmihgdeaa
open Go.RowKit Bt

section
variable {w : World} {p : Value}
set_option maxHeartbeats 400000 in
theorem walign_dead (HU : Calls Try.prog 44 #[p] w fun e w' => e = .returned (.bool false) ∧ w = w') :
    Calls Try.prog 14 #[p] w fun e w' => e = .returned (.int .i64 2) ∧ w = w' := by
  have HU := Lib.hid HU
  go_enter Try.func14, Try.ntmps14
  go_wp2_with fail
  refine HU.out.mono ?_
  rintro e w' ⟨rfl, rfl⟩
  go_wp2_with fail
  go_ret
  exact ⟨rfl, rfl⟩
set_option maxHeartbeats 400000 in
theorem wbytes_dead (v : Value) (HU : Calls Try.prog 44 #[p] w fun e w' => e = .returned (.bool false) ∧ w = w') :
    Calls Try.prog 17 #[p, v] w fun e w' => e = .returned (.int .i64 2) ∧ w = w' := by
  have HU := Lib.hid HU
  go_enter Try.func17, Try.ntmps17
  go_wp2_with fail
  refine HU.out.mono ?_
  rintro e w' ⟨rfl, rfl⟩
  go_wp2_with fail
  go_ret
  exact ⟨rfl, rfl⟩
set_option maxHeartbeats 400000 in
theorem wlen_dead (HU : Calls Try.prog 44 #[p] w fun e w' => e = .returned (.bool false) ∧ w = w') :
    Calls Try.prog 20 #[p] w fun e w' => e = .returned (.int .i64 0) ∧ w = w' := by
  have HU := Lib.hid HU
  go_enter Try.func20, Try.ntmps20
  go_wp2_with fail
  refine HU.out.mono ?_
  rintro e w' ⟨rfl, rfl⟩
  go_wp2_with fail
  go_ret
  exact ⟨rfl, rfl⟩
set_option maxHeartbeats 400000 in
theorem done_dead (HU : Calls Try.prog 44 #[p] w fun e w' => e = .returned (.bool false) ∧ w = w') :
    Calls Try.prog 19 #[p] w fun e w' => e = .returned (.slice none 0 0) ∧ w = w' := by
  have HU := Lib.hid HU
  go_enter Try.func19, Try.ntmps19
  go_wp2_with fail
  refine HU.out.mono ?_
  rintro e w' ⟨rfl, rfl⟩
  go_wp2_with fail
  go_ret
  exact ⟨rfl, rfl⟩
set_option maxHeartbeats 400000 in
theorem rrefusal_dead' (m : Int) (HU : Calls Try.prog 50 #[p] w fun e w' => e = .returned (.bool false) ∧ w = w') :
    Calls Try.prog 47 #[p, .int .i64 m] w fun e w' => e = .returned (.int .i64 2) ∧ w = w' := by
  have HU := Lib.hid HU
  go_enter Try.func47, Try.ntmps47
  go_wp2_with fail
  refine HU.out.mono ?_
  rintro e w' ⟨rfl, rfl⟩
  go_wp2_with fail
  go_ret
  exact ⟨rfl, rfl⟩
set_option maxHeartbeats 400000 in
theorem get_dead (m : Int) (HU : Calls Try.prog 50 #[p] w fun e w' => e = .returned (.bool false) ∧ w = w') :
    Calls Try.prog 28 #[p, .int .i64 m] w fun e w' => e = .returned (.tuple #[.int .u64 0, .int .i64 2]) ∧ w = w' := by
  have HR := Lib.hid (rrefusal_dead' m HU)
  clear HU
  go_enter Try.func28, Try.ntmps28
  go_wp2_with fail
  refine HR.out.mono ?_
  rintro e w' ⟨rfl, rfl⟩
  go_wp2_with fail
  go_ret2
  exact ⟨rfl, rfl⟩
set_option maxHeartbeats 400000 in
theorem skip_dead (m : Int) (HU : Calls Try.prog 50 #[p] w fun e w' => e = .returned (.bool false) ∧ w = w') :
    Calls Try.prog 30 #[p, .int .i64 m] w fun e w' => e = .returned (.int .i64 2) ∧ w = w' := by
  have HR := Lib.hid (rrefusal_dead' m HU)
  clear HU
  go_enter Try.func30, Try.ntmps30
  go_wp2_with fail
  refine HR.out.mono ?_
  rintro e w' ⟨rfl, rfl⟩
  go_wp2_with fail
  go_ret
  exact ⟨rfl, rfl⟩
set_option maxHeartbeats 400000 in
theorem rbytes_dead' (m : Int) (HU : Calls Try.prog 50 #[p] w fun e w' => e = .returned (.bool false) ∧ w = w') :
    Calls Try.prog 33 #[p, .int .i64 m] w fun e w' => e = .returned (.tuple #[.slice none 0 0, .int .i64 2]) ∧ w = w' := by
  have HU := Lib.hid HU
  go_enter Try.func33, Try.ntmps33
  go_wp2_with fail
  refine HU.out.mono ?_
  rintro e w' ⟨rfl, rfl⟩
  go_wp2_with fail
  go_ret2
  exact ⟨rfl, rfl⟩
end
/-- A reader and a writer that nobody made. -/
def zw (w : World) : World := (w.alloc (.cells #[.bool false, .slice none 0 0, .int .i64 0] 67)).alloc (.cells #[.bool false, .slice none 0 0, .int .i64 0] 69)
theorem zw_cells (w : World) : (zw w).cell? ⟨w.heap.size, 0, none⟩ = some (.bool false) ∧ (zw w).cell? ⟨w.heap.size + 1, 0, none⟩ = some (.bool false) := by
  constructor <;> (unfold zw; go_simp)
theorem zw_below (w : World) : Below w.heap.size w (zw w) := ((Below.refl _ _).alloc (Nat.le_refl _) _).alloc (by simp) _
def kA : List Bool := bitsN 144115188075855871 57
def kB : List Bool := fill kA ++ bitsOf [9]
def kP : List UInt8 := [255, 255, 255, 255, 255, 255, 255, 1, 9]
theorem kB_pack : pack kB = kP := by decide +kernel
theorem kP_get : ((num (seg kP 0 57) : Nat) : Int) = 144115188075855871 := by decide +kernel
set_option maxRecDepth 100000 in
set_option maxHeartbeats 4000000 in
theorem known_walk (w : World) : Calls Try.prog 8 #[] w (BoolPost true w) := by
  obtain ⟨z1, z2⟩ := zw_cells w
  have HBZ := Lib.hid (zw_below w)
  have HU1 := Lib.hid (wusable_cell (zw w) w.heap.size false z1)
  have HU2 := Lib.hid (rusable_cell (zw w) (w.heap.size + 1) false z2)
  have HN1 := Lib.hid (wusable_none (zw w))
  have HN2 := Lib.hid (rusable_none (zw w))
  clear z1 z2
  go_enter Try.func8, Try.ntmps8
  go_wp2_with fail
  change Calls _ _ _ (zw w) _
  generalize zw w = W at *
  generalize hg1 : w.heap.size = g1 at HU1 HU2 ⊢
  clear hg1
  refine (get_dead 1 HN2.out).mono ?_
  rintro e w' ⟨rfl, rfl⟩
  go_wp2_with fail
  refine (rbytes_dead' 0 HU2.out).mono ?_
  rintro e w' ⟨rfl, rfl⟩
  go_wp2_with fail
  refine (peek_dead _ _ 5 HN2.out).mono ?_
  rintro e w' ⟨rfl, rfl⟩
  go_wp2_with fail
  refine (put_no _ _ 0 0 2 rfl (wrefusal_dead _ _ 0 0 HN1.out)).mono ?_
  rintro e w' ⟨rfl, rfl⟩
  go_wp2_with fail
  refine (code_no _ _ 0 0 2 rfl (wrefusal_dead _ _ 0 0 HU1.out)).mono ?_
  rintro e w' ⟨rfl, rfl⟩
  go_wp2_with fail
  refine (walign_dead HN1.out).mono ?_
  rintro e w' ⟨rfl, rfl⟩
  go_wp2_with fail
  refine (wbytes_dead _ HU1.out).mono ?_
  rintro e w' ⟨rfl, rfl⟩
  go_wp2_with fail
  refine (wlen_dead HN1.out).mono ?_
  rintro e w' ⟨rfl, rfl⟩
  go_wp2_with fail
  refine (done_dead HU1.out).mono ?_
  rintro e w' ⟨rfl, rfl⟩
  go_wp2_with fail
  refine (skip_dead 0 HN2.out).mono ?_
  rintro e w' ⟨rfl, rfl⟩
  go_wp2_with fail
  refine (ralign_dead _ _ HU2.out).mono ?_
  rintro e w' ⟨rfl, rfl⟩
  go_wp2_with fail
  refine (rleft_dead _ _ HN2.out).mono ?_
  rintro e w' ⟨rfl, rfl⟩
  go_wp2_with fail
  refine (rat_dead _ _ HU2.out).mono ?_
  rintro e w' ⟨rfl, rfl⟩
  go_wp2_with fail
  have HW0 := Lib.hid (Ws.nil W)
  clear HU1 HU2 HN1 HN2
  refine (ws_newwriter HW0.out).mono ?_
  rintro e w1 ⟨g, rfl, hW, hb⟩
  have HW1 : Hid (Ws W.heap.size w1 [.wr g []]) := Lib.hid hW
  have HB1 := Lib.hid hb
  clear hW hb HW0
  go_wp2_with fail
  refine (ws_put_no HW1.out 0 g [] 2 1 rfl (by decide)).mono ?_
  rintro e w' ⟨rfl, rfl⟩
  go_wp2_with fail
  refine (ws_put_no HW1.out 0 g [] 0 (-1) rfl (by decide)).mono ?_
  rintro e w' ⟨rfl, rfl⟩
  go_wp2_with fail
  refine (ws_put_no HW1.out 0 g [] 0 58 rfl (by decide)).mono ?_
  rintro e w' ⟨rfl, rfl⟩
  go_wp2_with fail
  refine (ws_code_no HW1.out 0 g [] 1 0 rfl (by decide)).mono ?_
  rintro e w' ⟨rfl, rfl⟩
  go_wp2_with fail
  refine (ws_put HW1.out 0 g [] 144115188075855871 57 rfl (by decide) (by decide) (by decide) (by decide)).mono ?_
  rintro e w2 ⟨rfl, hW, hb⟩
  have HW2 : Hid (Ws W.heap.size w2 [.wr g kA]) := Lib.hid hW
  have HB2 := Lib.hid (HB1.out.trans hb)
  clear hW hb HW1 HB1
  go_wp2_with fail
  have HWa := Lib.hid (HW2.out.later ((Below.refl _ _).alloc (Nat.le_refl _) (.cells #[.int .u8 1] 5)))
  have HBa := Lib.hid (HB2.out.alloc HB2.out.size (.cells #[.int .u8 1] 5))
  clear HW2 HB2
  refine (ws_wbytes_no HWa.out 0 g kA _ rfl (by decide)).mono ?_
  rintro e w' ⟨rfl, rfl⟩
  generalize w2.alloc (.cells #[.int .u8 1] 5) = w2a at *
  have HW2 := Lib.hid HWa.out
  have HB2 := Lib.hid HBa.out
  clear HWa HBa
  go_wp2_with fail
  refine (ws_walign HW2.out 0 g kA rfl (by decide)).mono ?_
  rintro e w3 ⟨rfl, hW, hb⟩
  have HW3 : Hid (Ws W.heap.size w3 [.wr g (fill kA)]) := Lib.hid hW
  have HB3 := Lib.hid (HB2.out.trans hb)
  clear hW hb HW2 HB2
  go_wp2_with fail
  have HS := Lib.hid (slw_lit w3 9 9 rfl)
  have HWa := Lib.hid (HW3.out.later ((Below.refl _ _).alloc (Nat.le_refl _) (.cells #[.int .u8 9] 5)))
  have HBa := Lib.hid (HB3.out.alloc HB3.out.size (.cells #[.int .u8 9] 5))
  clear HW3 HB3
  refine (ws_wbytes HWa.out 0 g (fill kA) _ [9] rfl HS.out (by decide) (by decide)).mono ?_
  rintro e w4 ⟨rfl, hW, hb⟩
  have HW4 : Hid (Ws W.heap.size w4 [.wr g kB]) := Lib.hid hW
  have HB4 := Lib.hid (HBa.out.trans hb)
  clear hW hb HWa HBa HS
  go_wp2_with fail
  refine (ws_done HW4.out 0 g kB rfl (by decide)).mono ?_
  rintro e w5 ⟨p, cap, rfl, hW, hb⟩
  rw [kB_pack] at hW ⊢
  have HW5 : Hid (Ws W.heap.size w5 [.wr g kB, .sl (.slice p 9 cap) kP]) := Lib.hid hW
  have HB5 := Lib.hid (HB4.out.trans hb)
  clear hW hb HW4 HB4
  rw [show kP.length = 9 from rfl]
  go_wp2_with fail
  refine (ws_newreader HW5.out (HW5.out.sl 1 _ _ rfl) (by decide)).mono ?_
  rintro e w6 ⟨g2, rfl, hW, hb⟩
  have HW6 : Hid (Ws W.heap.size w6 [.wr g kB, .sl (.slice p 9 cap) kP, .rd g2 kP 0]) := Lib.hid hW
  have HB6 := Lib.hid (HB5.out.trans hb)
  clear hW hb HW5 HB5
  go_wp2_with fail
  refine (ws_get HW6.out 2 g2 0 57 kP rfl (by decide) (by decide) (by decide)).mono ?_
  rintro e w7 ⟨rfl, hW, hb⟩
  have HW7 : Hid (Ws W.heap.size w7 [.wr g kB, .sl (.slice p 9 cap) kP, .rd g2 kP 57]) := Lib.hid hW
  have HB7 := Lib.hid (HB6.out.trans hb)
  clear hW hb HW6 HB6
  rw [kP_get]
  go_wp2_with fail
  refine (ws_rbytes_no HW7.out 2 g2 57 1 kP 1 rfl (by decide) (by decide) (by decide)).mono ?_
  rintro e w8 ⟨rfl, hW, hb⟩
  have HW8 := Lib.hid hW
  have HB8 := Lib.hid (HB7.out.trans hb)
  clear hW hb HW7 HB7
  go_wp2_with fail
  refine (ws_get_no HW8.out 2 g2 57 58 kP rfl (by decide) (by decide) (by decide)).mono ?_
  rintro e w9 ⟨rfl, hW, hb⟩
  have HW9 := Lib.hid hW
  have HB9 := Lib.hid (HB8.out.trans hb)
  clear hW hb HW8 HB8
  rw [show ((rerr kP 57 58 : Nat) : Int) = 1 from by decide]
  go_wp2_with fail
  refine (ws_get_no HW9.out 2 g2 57 (-1) kP rfl (by decide) (by decide) (by decide)).mono ?_
  rintro e w10 ⟨rfl, hW, hb⟩
  have HW10 := Lib.hid hW
  have HB10 := Lib.hid (HB9.out.trans hb)
  clear hW hb HW9 HB9
  rw [show ((rerr kP 57 (-1) : Nat) : Int) = 1 from by decide]
  go_wp2_with fail
  refine (ws_ralign HW10.out 2 g2 57 kP rfl (by decide) (by decide)).mono ?_
  rintro e w11 ⟨rfl, hW, hb⟩
  have HW11 : Hid (Ws W.heap.size w11 [.wr g kB, .sl (.slice p 9 cap) kP, .rd g2 kP 64]) := Lib.hid hW
  have HB11 := Lib.hid (HB10.out.trans hb)
  clear hW hb HW10 HB10
  go_wp2_with fail
  refine (ws_rbytes HW11.out 2 g2 64 1 kP rfl (by decide) (by decide) (by decide)).mono ?_
  rintro e w12 ⟨p2, cap2, rfl, hW, hb⟩
  have HW12 : Hid (Ws W.heap.size w12 [.wr g kB, .sl (.slice p 9 cap) kP, .rd g2 kP 72, .sl (.slice p2 1 cap2) [9]]) := Lib.hid hW
  have HB12 := Lib.hid (HB11.out.trans hb)
  clear hW hb HW11 HB11
  rw [show ((kP.drop (64 / 8)).take 1).length = 1 from rfl]
  go_wp2_with fail
  refine (ws_rbytes_no HW12.out 2 g2 72 1 kP 4 rfl (by decide) (by decide) (by decide)).mono ?_
  rintro e w13 ⟨rfl, hW, hb⟩
  have HW13 := Lib.hid hW
  have HB13 := Lib.hid (HB12.out.trans hb)
  clear hW hb HW12 HB12
  go_wp2_with fail
  refine (ws_rbytes_no HW13.out 2 g2 72 (-1) kP 1 rfl (by decide) (by decide) (by decide)).mono ?_
  rintro e w14 ⟨rfl, hW, hb⟩
  have HW14 := Lib.hid hW
  have HB14 := Lib.hid (HB13.out.trans hb)
  clear hW hb HW13 HB13
  go_wp2_with fail
  have HWa := Lib.hid (HW14.out.later ((Below.refl _ _).alloc (Nat.le_refl _) (.cells #[.int .u8 9] 5)))
  have HBa := Lib.hid (HB14.out.alloc HB14.out.size (.cells #[.int .u8 9] 5))
  refine (equal_walk _ _ _ [9] [9] (HWa.out.sl 3 _ _ rfl) (slw_lit w14 9 9 rfl)).mono ?_
  rintro e w' ⟨rfl, rfl⟩
  rw [show (([9] : List UInt8) == [9]) = true from rfl]
  clear HW14 HB14
  generalize w14.alloc (.cells #[.int .u8 9] 5) = w15 at *
  go_wp2_with fail
  refine (reverse_walk 1 64 w15 (by decide)).mono ?_
  rintro e w' ⟨rfl, rfl⟩
  rw [show ((rev 1 (brt 64 64) : Nat) : Int) = 9223372036854775808 from by decide +kernel]
  go_wp2_with fail
  refine (reverse_walk 6 2 w15 (by decide)).mono ?_
  rintro e w' ⟨rfl, rfl⟩
  rw [show ((rev 6 (brt 2 64) : Nat) : Int) = 1 from by decide +kernel]
  go_wp2_with fail
  refine (reverse_walk 9 (-1) w15 (by decide)).mono ?_
  rintro e w' ⟨rfl, rfl⟩
  rw [show ((rev 9 (brt (-1) 64) : Nat) : Int) = 0 from by decide +kernel]
  go_wp2_with fail
  refine (wakes_walk w15).mono ?_
  rintro e we ⟨rfl, hb⟩
  have hq := HBZ.out.trans ((HBa.out.trans (hb.mono HBa.out.size)).mono HBZ.out.size)
  have HQ : Hid (BoolPost true w (.returned (.bool true)) we) := Lib.hid ⟨rfl, hq⟩
  clear hb hq HWa HBa
  go_wp2_with fail
  go_ret
  exact HQ.out
end Go.Proofs.Ytggpdkcmihgdeaa
