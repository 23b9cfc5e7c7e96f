/-
  The law BitsBack walked.
-/
import Derived.Test.YtggpdkcmihgdeaaUse2
import Derived.Test.YtggpdkcmihgdeaaTurned
import Derived.Test.YtggpdkcmihgdeaaBackSpec
namespace Go.Proofs.Ytggpdkcmihgdeaa
open Go.RowKit Bt

/-- Things that came in. -/
def TsAt (w : World) (v : Value) (ts : List T) : Prop :=
  (∃ g o cap, v = .slice (some ⟨g, o, none⟩) ts.length cap ∧ ts.length ≤ cap ∧ ∀ i x, ts[i]? = some x → x.1 < 18446744073709551616 ∧ x.2.1 < 256 ∧ w.cell? ⟨g, o + i * 4, none⟩ = some (.int .u64 (x.1 : Nat)) ∧ w.cell? ⟨g, o + i * 4 + 1, none⟩ = some (.int .u8 (x.2.1 : Nat)) ∧
    w.cell? ⟨g, o + i * 4 + 2, none⟩ = some (.bool x.2.2.1) ∧ w.cell? ⟨g, o + i * 4 + 3, none⟩ = some x.2.2.2.1 ∧ SlW w x.2.2.2.1 x.2.2.2.2) ∨ (v = .slice none 0 0 ∧ ts = [])
theorem TsAt.below {w w' : World} {v : Value} {ts : List T} (h : TsAt w v ts) (hb : Below w.heap.size w w') : TsAt w' v ts := by
  rcases h with ⟨g, o, cap, h1, h2, h3⟩ | h
  · refine .inl ⟨g, o, cap, h1, h2, fun i x hx => ?_⟩
    obtain ⟨e0, e0', e1, e2, e3, e4, e5⟩ := h3 i x hx
    exact ⟨e0, e0', (hb.cell (p := ⟨g, o + i * 4, none⟩) (block_lt_of_cell e1)).trans e1, (hb.cell (p := ⟨g, o + i * 4 + 1, none⟩) (block_lt_of_cell e2)).trans e2,
      (hb.cell (p := ⟨g, o + i * 4 + 2, none⟩) (block_lt_of_cell e3)).trans e3, (hb.cell (p := ⟨g, o + i * 4 + 3, none⟩) (block_lt_of_cell e4)).trans e4, e5.below hb (Nat.le_refl _)⟩
  · exact .inr h
theorem TsAt.take {w : World} {p : Option Addr} {n cap : Nat} {ts : List T} (h : TsAt w (.slice p n cap) ts) (k : Nat) (hk : k ≤ n) : TsAt w (.slice p k cap) (ts.take k) := by
  rcases h with ⟨g, o, cap, h1, h2, h3⟩ | ⟨h1, rfl⟩
  · cases h1
    exact .inl ⟨g, o, cap, by rw [List.length_take]; congr 1; omega, by simp; omega, fun i x hx => by
      rw [List.getElem?_take] at hx
      split at hx
      · exact h3 i x hx
      · cases hx⟩
  · cases h1
    obtain rfl : k = 0 := by omega
    exact .inr ⟨rfl, by simp⟩
theorem TsAt.sl {w : World} {v : Value} {ts : List T} (h : TsAt w v ts) (i : Nat) (x : T) (hx : ts[i]? = some x) : SlW w x.2.2.2.1 x.2.2.2.2 := by
  rcases h with ⟨g, o, cap, h1, h2, h3⟩ | ⟨h1, rfl⟩
  · exact (h3 i x hx).2.2.2.2.2.2
  · simp at hx
theorem slice59_to {w : World} (p : Option Addr) (n cap k : Nat) (ts : List T) (hs : TsAt w (.slice p n cap) ts) (hk : k ≤ n) : ∀ w', (Instr.sliceAt 59 (.slice p n cap) none (some (.int .i64 (k : Int))) none).run Try.prog w' = .ok (.slice p k cap) w' := by
  intro w'
  have h1 : (0 : Int) ≤ (k : Int) := by omega
  rcases hs with ⟨g, o, cap', h, hc, _⟩ | ⟨h, rfl⟩
  · cases h
    have h2 : (k : Int) ≤ (cap : Int) := by omega
    go_simp
  · cases h
    obtain rfl : k = 0 := by omega
    show (Instr.sliceAt 59 (.slice none 0 0) none (some (.int .i64 0)) none).run Try.prog w' = .ok (.slice none 0 0) w'
    kernel_rfl
theorem take_min20 (bs : List UInt8) (t : Nat) (ht : t = min bs.length 20) : bs.take t = bs.take 20 := by
  by_cases h : bs.length ≤ 20
  · rw [List.take_of_length_le h, List.take_of_length_le (by omega)]
  · rw [show t = 20 by omega]
structure BackIn (w : World) (g : Nat) (ts : List T) (i : Nat) (wr : World) : Prop where
  ws : Ws w.heap.size wr [.wr g (st (ts.take i))]
  below : Below w.heap.size w wr
def BackRel (w : World) (g l : Nat) (ts : List T) (v4 v36 : Value) (wr : World) : Prop :=
  ∃ i : Nat, i ≤ l ∧ v4 = .int .i64 ((st (ts.take i)).length : Nat) ∧ v36 = .int .i64 (i : Int) ∧ BackIn w g ts i wr
def BackRel2 (w : World) (g g2 l : Nat) (S : List Bool) (ts : List T) (dv v : Value) (wr : World) : Prop :=
  ∃ j : Nat, j ≤ l ∧ v = .int .i64 (j : Int) ∧ Ws w.heap.size wr [.wr g S, .sl dv (pack S), .rd g2 (pack S) (st (ts.take j)).length] ∧ Below w.heap.size w wr
theorem read_bits' (S : List Bool) (ts : List T) (i n m : Nat) (c : Bool) (v : Value) (bs : List UInt8) (h : (T.b (n, m, c, v, bs)).length = 0 → seg (pack S) (st (ts.take i)).length (T.k (n, m, c, v, bs)) = T.bits (n, m, c, v, bs) ∧ (st (ts.take (i + 1))).length = (st (ts.take i)).length + T.k (n, m, c, v, bs)) :
    (bs.take 20).length = 0 → seg (pack S) (st (ts.take i)).length (m % 58) = (if c then (bitsN (n % 2 ^ (m % 58)) (m % 58)).reverse else bitsN (n % 2 ^ (m % 58)) (m % 58)) ∧ (st (ts.take (i + 1))).length = (st (ts.take i)).length + m % 58 := h
theorem read_bytes' (S : List Bool) (ts : List T) (i n m : Nat) (c : Bool) (v : Value) (bs : List UInt8) (h : (T.b (n, m, c, v, bs)).length ≠ 0 → ((pack S).drop (((st (ts.take i)).length + 7) / 8 * 8 / 8)).take (T.b (n, m, c, v, bs)).length = T.b (n, m, c, v, bs) ∧ (st (ts.take (i + 1))).length = ((st (ts.take i)).length + 7) / 8 * 8 + (T.b (n, m, c, v, bs)).length * 8) :
    (bs.take 20).length ≠ 0 → ((pack S).drop (((st (ts.take i)).length + 7) / 8 * 8 / 8)).take (bs.take 20).length = bs.take 20 ∧ (st (ts.take (i + 1))).length = ((st (ts.take i)).length + 7) / 8 * 8 + (bs.take 20).length * 8 := h
set_option maxRecDepth 100000 in
set_option maxHeartbeats 4000000 in
theorem back_walk (w : World) (p : Option Addr) (cap : Nat) (ts0 : List T) (hs : TsAt w (.slice p ts0.length cap) ts0) (hlen : ts0.length ≤ 9223372036854775807) :
    Calls Try.prog 5 #[.slice p ts0.length cap] w (BoolPost true w) := by
  have HW0 := Lib.hid (Ws.nil w)
  obtain ⟨l, hl⟩ : ∃ l, l = min ts0.length 60 := ⟨_, rfl⟩
  have hmi : min (ts0.length : Int) 60 = (l : Int) := by omega
  have hl1 : l ≤ ts0.length := by omega
  have hl2 : l ≤ 60 := by omega
  have sl := slice59_to p ts0.length cap l ts0 hs hl1
  have HS : Hid (TsAt w (.slice p l cap) (ts0.take l)) := Lib.hid (hs.take l hl1)
  have HL : Hid ((ts0.take l).length = l) := Lib.hid (by simp; omega)
  generalize ts0.take l = ts at *
  generalize ts0.length = l0 at *
  clear hs hl
  go_enter Try.func5, Try.ntmps5
  go_wp2_with fail
  refine (ws_newwriter HW0.out).mono ?_
  rintro e w1 ⟨g, rfl, hW, hb⟩
  have HW1 : Hid (BackIn w g ts 0 w1) := Lib.hid ⟨hW, hb⟩
  clear hW hb HW0 sl hmi
  go_wp2_with fail
  go_loopw [4, 6, 7, 8, 9, 10, 36] (fun v4 _ _ _ _ _ v36 wr => BackRel w g l ts v4 v36 wr) (fun _ _ _ _ _ _ v36 _ => l - (intOf v36).toNat)
  case atStart => exact ⟨0, by omega, rfl, rfl, HW1.out⟩
  case round =>
    clear HW1
    obtain ⟨i, hi, rfl, rfl, hB⟩ := hrel
    have HB := Lib.hid hB
    clear hB
    by_cases hlt : i < l
    · have hii : (i : Int) < (l : Int) := by omega
      have HSr := Lib.hid (HS.out.below (HB.out.below))
      obtain ⟨x, hx⟩ : ∃ x, ts[i]? = some x := ⟨ts[i]'(by rw [HL.out]; omega), List.getElem?_eq_getElem _⟩
      obtain ⟨gp, op, cap', e1, e2, e3⟩ | ⟨e1, e2⟩ := HSr.out
      rotate_left
      · have := HL.out; rw [e2] at this; simp at this; omega
      obtain ⟨rfl, e4, rfl⟩ : p = some ⟨gp, op, none⟩ ∧ l = ts.length ∧ cap = cap' := by simpa using e1
      obtain ⟨hn, hm, c0, c1, c2, c3, hsx⟩ := e3 i x hx
      have HX := Lib.hid hx
      obtain ⟨n, m, c, bv, bs⟩ := x
      simp only at hn hm c0 c1 c2 c3 hsx
      obtain ⟨pb, cb, rfl⟩ := hsx.shape
      have HSX : Hid (SlW w (.slice pb bs.length cb) bs) := Lib.hid (HS.out.sl i _ HX.out)
      clear e1 e2 e3 e4 hx hsx HSr
      obtain ⟨tt, ht⟩ : ∃ tt, tt = min bs.length 20 := ⟨_, rfl⟩
      have hti : min (bs.length : Int) 20 = (tt : Int) := by omega
      have sl2 := slice_to pb bs.length cb tt bs HSX.out (by omega)
      have HSB : Hid (SlW w (.slice pb tt cb) (bs.take 20)) := Lib.hid (by rw [← take_min20 bs tt ht]; exact HSX.out.take tt (by omega))
      have HBL : Hid ((bs.take 20).length = tt) := Lib.hid (by simp; omega)
      have ht20 : tt ≤ 20 := by omega
      have HSTa := Lib.hid (st_succ' ts i n m c _ bs HX.out)
      have hk : m % 58 ≤ 57 := by omega
      have hki : (m : Int) % 58 = ((m % 58 : Nat) : Int) := by omega
      generalize m % 58 = k at *
      have HM := Lib.hid (mask_go n k hn hk)
      have HXK : Hid (n % 2 ^ k < 2 ^ k) := Lib.hid (Nat.mod_lt _ (Nat.two_pow_pos k))
      have HX2 : Hid (n % 2 ^ k < 18446744073709551616) := Lib.hid (Nat.lt_of_le_of_lt (Nat.mod_le _ _) hn)
      generalize n % 2 ^ k = y at *
      generalize bs.take 20 = B at *
      have hlen' := st_le (ts.take i)
      rw [List.length_take] at hlen'
      have hA : (st (ts.take i)).length ≤ 12000 := by omega
      have HWs := Lib.hid HB.out.ws
      have HBe := Lib.hid HB.out.below
      generalize hX : st (ts.take i) = X at *
      have HX := Lib.hid hX
      obtain ⟨a, ha⟩ : ∃ a, a = X.length := ⟨_, rfl⟩
      rw [← ha] at hA ⊢
      have HA := Lib.hid ha
      clear hlen' HSX ht hX ha hn HB
      generalize bs.length = lb at *
      by_cases htz : tt = 0
      · obtain rfl := htz
        have hti : min (lb : Int) 20 = 0 := hti
        have sl2 : ∀ w', (Instr.sliceAt 30 (.slice pb lb cb) none (some (.int .i64 0)) none).run Try.prog w' = .ok (.slice pb 0 cb) w' := sl2
        have hst := HSTa.out
        rw [if_pos HBL.out] at hst
        have HSTb := Lib.hid hst
        clear hst HSTa
        cases c with
        | true =>
          have HST : Hid (st (ts.take (i + 1)) = X ++ (bitsN y k).reverse) := Lib.hid (HSTb.out.trans (by simp))
          clear HSTb
          go_wp2_with fail
          go_quiet (fail)
          go_wp2_with fail
          rw [HM.out]
          have hwb : Below wr.heap.size wr ((wr.alloc (.cells #[.int .u64 (n : Int), .int .u8 (m : Int), .bool true, .slice pb lb cb] 61)).drewN nq) := ((Below.refl _ _).alloc (Nat.le_refl _) _).trans (Same.below ⟨nq, rfl⟩ _)
          have HW2 := Lib.hid (HWs.out.later hwb)
          have HB2 := Lib.hid (HBe.out.trans (hwb.mono HBe.out.size))
          clear hwb HWs HBe
          refine (ws_code HW2.out 0 g X y k rfl (by rw [← HA.out]; omega) HX2.out hk HXK.out).mono ?_
          rintro e w3 ⟨rfl, hW, hb⟩
          have HW3 : Hid (Ws w.heap.size w3 [.wr g (st (ts.take (i + 1)))]) := Lib.hid (by rw [HST.out]; exact hW)
          have HB3 := Lib.hid (HB2.out.trans hb)
          have HLE : Hid (((st (ts.take (i + 1))).length : Int) = (a : Int) + (k : Int)) := Lib.hid (by rw [HST.out, List.length_append]; rw [List.length_reverse, bitsN_length]; rw [HA.out]; omega)
          have HX3 : Hid (X.length = a) := Lib.hid HA.out.symm
          clear hW hb HW2 HB2 HST HM HXK HX2
          go_wp2_with fail
          refine (ws_len HW3.out 0 g _ rfl).mono ?_
          rintro e w' ⟨rfl, rfl⟩
          rw [HLE.out]
          have HF : Hid (BackRel w g l ts (.int .i64 ((a : Int) + (k : Int))) (.int .i64 ((i : Int) + 1)) w3) := Lib.hid ⟨i + 1, hlt, by rw [HLE.out], by go_num, HW3.out, HB3.out⟩
          clear HW3 HB3 HLE
          go_wp2_with fail
          exact ⟨HF.out, by simp [intOf]; omega⟩
        | false =>
          have HST : Hid (st (ts.take (i + 1)) = X ++ bitsN y k) := Lib.hid (HSTb.out.trans (by simp))
          clear HSTb
          go_wp2_with fail
          go_quiet (fail)
          go_wp2_with fail
          rw [HM.out]
          have hwb : Below wr.heap.size wr ((wr.alloc (.cells #[.int .u64 (n : Int), .int .u8 (m : Int), .bool false, .slice pb lb cb] 61)).drewN nq) := ((Below.refl _ _).alloc (Nat.le_refl _) _).trans (Same.below ⟨nq, rfl⟩ _)
          have HW2 := Lib.hid (HWs.out.later hwb)
          have HB2 := Lib.hid (HBe.out.trans (hwb.mono HBe.out.size))
          clear hwb HWs HBe
          refine (ws_put HW2.out 0 g X y k rfl (by rw [← HA.out]; omega) HX2.out hk HXK.out).mono ?_
          rintro e w3 ⟨rfl, hW, hb⟩
          have HW3 : Hid (Ws w.heap.size w3 [.wr g (st (ts.take (i + 1)))]) := Lib.hid (by rw [HST.out]; exact hW)
          have HB3 := Lib.hid (HB2.out.trans hb)
          have HLE : Hid (((st (ts.take (i + 1))).length : Int) = (a : Int) + (k : Int)) := Lib.hid (by rw [HST.out, List.length_append]; rw [bitsN_length]; rw [HA.out]; omega)
          have HX3 : Hid (X.length = a) := Lib.hid HA.out.symm
          clear hW hb HW2 HB2 HST HM HXK HX2
          go_wp2_with fail
          refine (ws_len HW3.out 0 g _ rfl).mono ?_
          rintro e w' ⟨rfl, rfl⟩
          rw [HLE.out]
          have HF : Hid (BackRel w g l ts (.int .i64 ((a : Int) + (k : Int))) (.int .i64 ((i : Int) + 1)) w3) := Lib.hid ⟨i + 1, hlt, by rw [HLE.out], by go_num, HW3.out, HB3.out⟩
          clear HW3 HB3 HLE
          go_wp2_with fail
          exact ⟨HF.out, by simp [intOf]; omega⟩
      · have hpos : (0 : Int) < (tt : Int) := by omega
        have hst := HSTa.out
        rw [if_neg (by rw [HBL.out]; exact htz)] at hst
        have HST := Lib.hid hst
        clear hst HSTa
        have hE1 : ((fill X).length : Int) = ((a : Int) + 7) / 8 * 8 := by rw [fill_length, ← HA.out]; omega
        have HLE : Hid (((st (ts.take (i + 1))).length : Int) = ((a : Int) + 7) / 8 * 8 + 8 * (tt : Int)) := Lib.hid (by rw [HST.out, List.length_append, bitsOf_length, HBL.out]; omega)
        have HFL : Hid ((fill X).length = (a + 7) / 8 * 8) := Lib.hid (by rw [fill_length, ← HA.out])
        clear hE1
        go_wp2_with fail
        go_quiet (fail)
        go_wp2_with fail
        have hwb : Below wr.heap.size wr ((wr.alloc (.cells #[.int .u64 (n : Int), .int .u8 (m : Int), .bool c, .slice pb lb cb] 61)).drewN nq) := ((Below.refl _ _).alloc (Nat.le_refl _) _).trans (Same.below ⟨nq, rfl⟩ _)
        have HW2 := Lib.hid (HWs.out.later hwb)
        have HB2 := Lib.hid (HBe.out.trans (hwb.mono HBe.out.size))
  
        clear hwb HWs HBe
        refine (ws_walign HW2.out 0 g X rfl (by rw [← HA.out]; omega)).mono ?_
        rintro e w3 ⟨rfl, hW, hb⟩
        have HW3 := Lib.hid hW
        have HB3 := Lib.hid (HB2.out.trans hb)
        have HS3 := Lib.hid (HSB.out.below HB3.out (Nat.le_refl _))
        clear hW hb HW2 HB2
        go_wp2_with fail
        refine (ws_wbytes HW3.out 0 g (fill X) _ B rfl HS3.out (by rw [HFL.out, HBL.out]; omega) (by rw [HFL.out]; omega)).mono ?_
        rintro e w4 ⟨rfl, hW, hb⟩
        have HW4 : Hid (Ws w.heap.size w4 [.wr g (st (ts.take (i + 1)))]) := Lib.hid (by rw [HST.out]; exact hW)
        have HB4 := Lib.hid (HB3.out.trans hb)
        clear hW hb HW3 HB3 HS3 HST HM HXK HX2 HFL
        go_wp2_with fail
        refine (ws_len HW4.out 0 g _ rfl).mono ?_
        rintro e w' ⟨rfl, rfl⟩
        rw [HLE.out]
        have HF : Hid (BackRel w g l ts (.int .i64 (((a : Int) + 7) / 8 * 8 + 8 * (tt : Int))) (.int .i64 ((i : Int) + 1)) w4) := Lib.hid ⟨i + 1, hlt, by rw [HLE.out], by go_num, HW4.out, HB4.out⟩
        clear HW4 HB4 HLE
        go_wp2_with fail
        exact ⟨HF.out, by simp [intOf]; omega⟩
    · have hii : (l : Int) ≤ (i : Int) := by omega
      obtain rfl : i = l := by omega
      have HWs : Hid (Ws w.heap.size wr [.wr g (st ts)]) := Lib.hid (by have := HB.out.ws; rwa [List.take_of_length_le (by rw [HL.out]; omega)] at this)
      have HBe := Lib.hid HB.out.below
      have hst : st (ts.take i) = st ts := by rw [List.take_of_length_le (by rw [HL.out]; omega)]
      have HTK := Lib.hid hst
      rw [hst]
      have hlen' := st_le ts
      rw [HL.out] at hlen'
      have hA : (st ts).length ≤ 12000 := by omega
      have HP : Hid ((pack (st ts)).length = ((st ts).length + 7) / 8) := Lib.hid (pack_length _)
      have HRB := Lib.hid (read_bits ts)
      have HRY := Lib.hid (read_bytes ts)
      have HRT := Lib.hid (st_take_le ts)
      have HRR := Lib.hid (read_rest (st ts))
      clear HB hst hlen' hii hi
      generalize hS : st ts = S at *
      clear hS
      obtain ⟨a, ha⟩ : ∃ a, a = S.length := ⟨_, rfl⟩
      rw [← ha] at hA ⊢
      have HA := Lib.hid ha
      clear ha
      go_wp2_with fail
      refine (ws_done HWs.out 0 g S rfl (by rw [← HA.out]; omega)).mono ?_
      rintro e w2 ⟨pd, cd, rfl, hW, hb⟩
      have HW2 := Lib.hid hW
      have HB2 := Lib.hid (HBe.out.trans hb)
      have HPA : Hid ((pack S).length = (a + 7) / 8) := Lib.hid (by rw [HP.out, HA.out])
      have HPB : Hid (S.length ≤ 8 * (pack S).length) := Lib.hid (by rw [HP.out]; omega)
      have hcmp : (((pack S).length : Int) != ((a : Int) + 7) / 8) = false := by rw [bne_eq_false_iff_eq, HPA.out]; omega
      have hpl : (pack S).length ≤ 1600 := by rw [HPA.out]; omega
      clear hW hb HWs HBe
      generalize hPl : (pack S).length = pl at *
      have HPL := Lib.hid hPl
      clear hPl
      go_wp2_with fail
      refine (ws_newreader HW2.out (HW2.out.sl 1 _ _ rfl) (by rw [HPL.out]; omega)).mono ?_
      rintro e w3 ⟨g2, rfl, hW, hb⟩
      have HW3 : Hid (Ws w.heap.size w3 [.wr g S, .sl (.slice pd pl cd) (pack S), .rd g2 (pack S) 0]) := Lib.hid hW
      have HB3 := Lib.hid (HB2.out.trans hb)
      clear hW hb HW2 HB2
      go_wp2_with fail
      refine (ws_left HW3.out 2 g2 0 _ rfl (by omega) (by rw [HPL.out]; omega)).mono ?_
      rintro e w4 ⟨rfl, hW, hb⟩
      rw [show ((8 * (pack S).length - 0 : Nat) : Int) = 8 * (pl : Int) by rw [HPL.out]; omega]
      have HW4 := Lib.hid hW
      have HB4 := Lib.hid (HB3.out.trans hb)
      clear hW hb HW3 HB3
      go_wp2_with fail
      go_loopw [14, 15, 16, 17, 18, 19, 20, 21, 22, 23, 24, 121] (fun _ _ _ _ _ _ _ _ _ _ _ v wr => BackRel2 w g g2 i S ts (.slice pd pl cd) v wr) (fun _ _ _ _ _ _ _ _ _ _ _ v _ => i - (intOf v).toNat)
      case atStart => exact ⟨0, by omega, rfl, HW4.out, HB4.out⟩
      case round =>
        clear HW4 HB4
        obtain ⟨j, hj, rfl, hW, hb⟩ := hrel
        have HWr := Lib.hid hW
        have HBr := Lib.hid hb
        clear hW hb
        by_cases hlt : j < i
        · have hii : (j : Int) < (i : Int) := by omega
          have HSr := Lib.hid (HS.out.below (HBr.out))
          obtain ⟨x, hx⟩ : ∃ x, ts[j]? = some x := ⟨ts[j]'(by rw [HL.out]; omega), List.getElem?_eq_getElem _⟩
          obtain ⟨gp, op, cap', e1, e2, e3⟩ | ⟨e1, e2⟩ := HSr.out
          rotate_left
          · have := HL.out; rw [e2] at this; simp at this; omega
          obtain ⟨rfl, e4, rfl⟩ : p = some ⟨gp, op, none⟩ ∧ i = ts.length ∧ cap = cap' := by simpa using e1
          obtain ⟨hn, hm, c0, c1, c2, c3, hsx⟩ := e3 j x hx
          have HX := Lib.hid hx
          obtain ⟨n, m, c, bv, bs⟩ := x
          simp only at hn hm c0 c1 c2 c3 hsx
          obtain ⟨pb, cb, rfl⟩ := hsx.shape
          have HSX : Hid (SlW w (.slice pb bs.length cb) bs) := Lib.hid (HS.out.sl j _ HX.out)
          clear e1 e2 e3 e4 hx hsx HSr
          obtain ⟨tt, ht⟩ : ∃ tt, tt = min bs.length 20 := ⟨_, rfl⟩
          have hti : min (bs.length : Int) 20 = (tt : Int) := by omega
          have sl2 := slice_to pb bs.length cb tt bs HSX.out (by omega)
          have HSB : Hid (SlW w (.slice pb tt cb) (bs.take 20)) := Lib.hid (by rw [← take_min20 bs tt ht]; exact HSX.out.take tt (by omega))
          have HBL : Hid ((bs.take 20).length = tt) := Lib.hid (by simp; omega)
          have ht20 : tt ≤ 20 := by omega
          have HR1 := Lib.hid (read_bits' _ ts j n m c _ bs (HRB.out j _ HX.out))
          have HR2 := Lib.hid (read_bytes' _ ts j n m c _ bs (HRY.out j _ HX.out))
          have HR3 := Lib.hid (HRT.out (j + 1))
          have hk : m % 58 ≤ 57 := by omega
          have hki : (m : Int) % 58 = ((m % 58 : Nat) : Int) := by omega
          generalize m % 58 = k at *
          have HM := Lib.hid (mask_go n k hn hk)
          have HXK : Hid (n % 2 ^ k < 2 ^ k) := Lib.hid (Nat.mod_lt _ (Nat.two_pow_pos k))
          have HX2 : Hid (n % 2 ^ k < 18446744073709551616) := Lib.hid (Nat.lt_of_le_of_lt (Nat.mod_le _ _) hn)
          generalize n % 2 ^ k = y at *
          generalize bs.take 20 = B at *
          have HPos := Lib.hid (HRT.out j)
          generalize (st (ts.take j)).length = pos at *
          have HPN : Hid (∃ pn, pn = (st (ts.take (j + 1))).length) := Lib.hid ⟨_, rfl⟩
          clear HSX ht hn HX
          generalize bs.length = lb at *
          by_cases htz : tt = 0
          · obtain rfl := htz
            have hti : min (lb : Int) 20 = 0 := hti
            have sl2 : ∀ w', (Instr.sliceAt 30 (.slice pb lb cb) none (some (.int .i64 0)) none).run Try.prog w' = .ok (.slice pb 0 cb) w' := sl2
            obtain ⟨hr1, hr2⟩ := HR1.out HBL.out
            have HTH : Hid (there (pack S) pos (k : Int) = k) := Lib.hid (by
              have := HR3.out
              rw [hr2] at this
              unfold there
              rw [brt_nat k 57 hk, HPL.out]
              have := HPB.out
              omega)
            have HNP := Lib.hid hr2
            have HM2 := Lib.hid HM.out
            cases c with
            | true =>
              have HV : Hid (num (seg (pack S) pos k) = rev y k) := Lib.hid (by rw [hr1]; rfl)
              clear hr1 hr2 HR1 HR2
              go_wp2_with fail
              go_quiet (fail)
              go_wp2_with fail
              have hwb : Below wr.heap.size wr ((wr.alloc (.cells #[.int .u64 (n : Int), .int .u8 (m : Int), .bool true, .slice pb lb cb] 61)).drewN nq) := ((Below.refl _ _).alloc (Nat.le_refl _) _).trans (Same.below ⟨nq, rfl⟩ _)
              have hc5 : ((wr.alloc (.cells #[.int .u64 (n : Int), .int .u8 (m : Int), .bool true, .slice pb lb cb] 61)).drewN nq).heap[wr.heap.size]? = some (.cells #[.int .u64 (n : Int), .int .u8 (m : Int), .bool true, .slice pb lb cb] 61 (0, 0)) := heap_alloc_new wr _
              have HW5 := Lib.hid (HWr.out.add hwb (.box wr.heap.size #[.int .u64 (n : Int), .int .u8 (m : Int), .bool true, .slice pb lb cb] 61) (fun k => k = wr.heap.size) ⟨hc5, rfl⟩ (fun k hk => by
                have hk' : k = wr.heap.size := hk
                subst hk'
                exact ⟨Nat.le_refl _, (Array.getElem?_eq_some_iff.1 hc5).1⟩))
              have HB5 := Lib.hid (HBr.out.trans (hwb.mono HBr.out.size))
              clear hwb HWr HBr hc5
              generalize (wr.alloc (.cells #[.int .u64 (n : Int), .int .u8 (m : Int), .bool true, .slice pb lb cb] 61)).drewN nq = w5 at *
              generalize wr.heap.size = gx at *
              refine (ws_peek HW5.out 2 g2 pos (k : Int) (pack S) rfl (by have h1 := HPos.out; have h2 := HPB.out; rw [HPL.out]; omega) (by rw [HPL.out]; omega)).mono ?_
              rintro e w6 ⟨rfl, hW, hb⟩
              rw [HTH.out, HV.out]
              have HW6 := Lib.hid hW
              have HB6 := Lib.hid (HB5.out.trans hb)
              clear hW hb HW5 HB5
              go_wp2_with fail
              refine (ws_get HW6.out 2 g2 pos k (pack S) rfl (by have h1 := HR3.out; rw [HNP.out] at h1; have h2 := HPB.out; rw [HPL.out]; omega) (by rw [HPL.out]; omega) hk).mono ?_
              rintro e w7 ⟨rfl, hW, hb⟩
              rw [HV.out]
              have HW7 := Lib.hid hW
              have HB7 := Lib.hid (HB6.out.trans hb)
              have hcx : w7.cell? ⟨gx, 2, none⟩ = some (.bool true) := HW7.out.box 3 gx _ 61 rfl 2
              clear hW hb HW6 HB6 HTH HM
              have HF : Hid (BackRel2 w g g2 i S ts (.slice pd pl cd) (.int .i64 ((j : Int) + 1)) w7) := Lib.hid ⟨j + 1, hlt, by go_num, by rw [HNP.out]; exact HW7.out.take 3, HB7.out⟩
              clear HW7 HB7
              have hr := reverse_walk y (k : Int) w7 HX2.out
              rw [brt_nat k 64 (by omega)] at hr
              have HREV := Lib.hid hr
              clear hr
              generalize rev y k = rv at *
              go_wp2_with fail
              rw [HM2.out]
              refine HREV.out.mono ?_
              rintro e w' ⟨rfl, rfl⟩
              go_wp2_with fail
              exact ⟨HF.out, by simp [intOf]; omega⟩
            | false =>
              have HV : Hid (num (seg (pack S) pos k) = y) := Lib.hid (by rw [hr1]; exact num_bitsN_of_lt HXK.out)
              clear hr1 hr2 HR1 HR2
              go_wp2_with fail
              go_quiet (fail)
              go_wp2_with fail
              have hwb : Below wr.heap.size wr ((wr.alloc (.cells #[.int .u64 (n : Int), .int .u8 (m : Int), .bool false, .slice pb lb cb] 61)).drewN nq) := ((Below.refl _ _).alloc (Nat.le_refl _) _).trans (Same.below ⟨nq, rfl⟩ _)
              have hc5 : ((wr.alloc (.cells #[.int .u64 (n : Int), .int .u8 (m : Int), .bool false, .slice pb lb cb] 61)).drewN nq).heap[wr.heap.size]? = some (.cells #[.int .u64 (n : Int), .int .u8 (m : Int), .bool false, .slice pb lb cb] 61 (0, 0)) := heap_alloc_new wr _
              have HW5 := Lib.hid (HWr.out.add hwb (.box wr.heap.size #[.int .u64 (n : Int), .int .u8 (m : Int), .bool false, .slice pb lb cb] 61) (fun k => k = wr.heap.size) ⟨hc5, rfl⟩ (fun k hk => by
                have hk' : k = wr.heap.size := hk
                subst hk'
                exact ⟨Nat.le_refl _, (Array.getElem?_eq_some_iff.1 hc5).1⟩))
              have HB5 := Lib.hid (HBr.out.trans (hwb.mono HBr.out.size))
              clear hwb HWr HBr hc5
              generalize (wr.alloc (.cells #[.int .u64 (n : Int), .int .u8 (m : Int), .bool false, .slice pb lb cb] 61)).drewN nq = w5 at *
              generalize wr.heap.size = gx at *
              refine (ws_peek HW5.out 2 g2 pos (k : Int) (pack S) rfl (by have h1 := HPos.out; have h2 := HPB.out; rw [HPL.out]; omega) (by rw [HPL.out]; omega)).mono ?_
              rintro e w6 ⟨rfl, hW, hb⟩
              rw [HTH.out, HV.out]
              have HW6 := Lib.hid hW
              have HB6 := Lib.hid (HB5.out.trans hb)
              clear hW hb HW5 HB5
              go_wp2_with fail
              refine (ws_get HW6.out 2 g2 pos k (pack S) rfl (by have h1 := HR3.out; rw [HNP.out] at h1; have h2 := HPB.out; rw [HPL.out]; omega) (by rw [HPL.out]; omega) hk).mono ?_
              rintro e w7 ⟨rfl, hW, hb⟩
              rw [HV.out]
              have HW7 := Lib.hid hW
              have HB7 := Lib.hid (HB6.out.trans hb)
              have hcx : w7.cell? ⟨gx, 2, none⟩ = some (.bool false) := HW7.out.box 3 gx _ 61 rfl 2
              clear hW hb HW6 HB6 HTH HM
              have HF : Hid (BackRel2 w g g2 i S ts (.slice pd pl cd) (.int .i64 ((j : Int) + 1)) w7) := Lib.hid ⟨j + 1, hlt, by go_num, by rw [HNP.out]; exact HW7.out.take 3, HB7.out⟩
              clear HW7 HB7
              have hcmp2 : ((y : Int) != bits .and .u64 (n : Int) (IntKind.u64.wrap (IntKind.u64.wrap (2 ^ k) - 1))) = false := by rw [HM2.out]; simp
              go_wp2_with fail
              exact ⟨HF.out, by simp [intOf]; omega⟩
          · have hpos : (0 : Int) < (tt : Int) := by omega
            obtain ⟨hr1, hr2⟩ := HR2.out (by rw [HBL.out]; exact htz)
            rw [HBL.out] at hr1 hr2
            have HNP := Lib.hid hr2
            have HV := Lib.hid hr1
            have HPos3 : Hid ((pos + 7) / 8 * 8 + tt * 8 ≤ 8 * pl) := Lib.hid (by have h1 := HR3.out; rw [hr2] at h1; have h2 := HPB.out; omega)
            clear hr1 hr2 HR1 HR2
            go_wp2_with fail
            go_quiet (fail)
            go_wp2_with fail
            have hwb : Below wr.heap.size wr ((wr.alloc (.cells #[.int .u64 (n : Int), .int .u8 (m : Int), .bool c, .slice pb lb cb] 61)).drewN nq) := ((Below.refl _ _).alloc (Nat.le_refl _) _).trans (Same.below ⟨nq, rfl⟩ _)
            have HW5 := Lib.hid (HWr.out.later hwb)
            have HB5 := Lib.hid (HBr.out.trans (hwb.mono HBr.out.size))
            clear hwb HWr HBr
            generalize (wr.alloc (.cells #[.int .u64 (n : Int), .int .u8 (m : Int), .bool c, .slice pb lb cb] 61)).drewN nq = w5 at *
            refine (ws_ralign HW5.out 2 g2 pos (pack S) rfl (by have h1 := HPos.out; have h2 := HPB.out; rw [HPL.out]; omega) (by rw [HPL.out]; omega)).mono ?_
            rintro e w6 ⟨rfl, hW, hb⟩
            have HW6 := Lib.hid hW
            have HB6 := Lib.hid (HB5.out.trans hb)
            clear hW hb HW5 HB5
            go_wp2_with fail
            refine (ws_rbytes HW6.out 2 g2 ((pos + 7) / 8 * 8) tt (pack S) rfl (by omega) (by rw [HPL.out]; exact HPos3.out) (by rw [HPL.out]; omega)).mono ?_
            rintro e w7 ⟨p2, cap2, rfl, hW, hb⟩
            rw [HV.out] at hW ⊢
            have HW7 := Lib.hid hW
            have HB7 := Lib.hid (HB6.out.trans hb)
            clear hW hb HW6 HB6
            go_wp2_with fail
            refine (equal_walk _ _ _ B B (HSB.out.below HB7.out (Nat.le_refl _)) (HW7.out.sl 3 _ _ rfl)).mono ?_
            rintro e w' ⟨rfl, rfl⟩
            rw [show (B == B) = true from beq_self_eq_true _]
            have HF : Hid (BackRel2 w g g2 i S ts (.slice pd pl cd) (.int .i64 ((j : Int) + 1)) w7) := Lib.hid ⟨j + 1, hlt, by go_num, by rw [HNP.out]; exact HW7.out.take 3, HB7.out⟩
            clear HW7 HB7
            go_wp2_with fail
            exact ⟨HF.out, by simp [intOf]; omega⟩
        · have hii : (i : Int) ≤ (j : Int) := by omega
          obtain rfl : j = i := by omega
          have HWs2 : Hid (Ws w.heap.size wr [.wr g S, .sl (.slice pd pl cd) (pack S), .rd g2 (pack S) a]) := Lib.hid (by have := HWr.out; rwa [HTK.out, ← HA.out] at this)
          obtain ⟨rest, hrest⟩ : ∃ r, r = 8 * pl - a := ⟨_, rfl⟩
          have hr8 : rest < 8 := by rw [hrest, HPA.out]; omega
          have hai : a + rest = 8 * pl := by have := HPB.out; rw [← HA.out] at this; omega
          have HZ : Hid (num (seg (pack S) a rest) = 0) := Lib.hid (by
            have := HRR.out
            rw [← HA.out, ← hrest] at this
            rw [this, num_false])
          have hri : (rest : Int) < 8 := by omega
          have h7 : bits .and .i64 (rest : Int) 7 = (rest : Int) := by
            have key : ∀ r : Fin 8, bits .and .i64 ((r.val : Nat) : Int) 7 = ((r.val : Nat) : Int) := by decide +kernel
            exact key ⟨rest, hr8⟩
          have HLW := Lib.hid (ws_left HWs2.out 2 g2 a (pack S) rfl (by rw [HPL.out]; omega) (by rw [HPL.out]; omega))
          have HLE : Hid (8 * (pack S).length - a = rest) := Lib.hid (by rw [HPL.out]; exact hrest.symm)
          have HAI := Lib.hid hai
          clear HWr HWs2 hrest hai HRR HRB HRY HRT
          go_wp2_with fail
          refine HLW.out.mono ?_
          rintro e w6 ⟨rfl, hW, hb⟩
          rw [HLE.out]
          have HW6 := Lib.hid hW
          have HB6 := Lib.hid (HBr.out.trans hb)
          clear hW hb HLW HLE HBr
          go_wp2_with fail
          refine (ws_get HW6.out 2 g2 a rest (pack S) rfl (by rw [HPL.out, HAI.out]; exact Nat.le_refl _) (by rw [HPL.out]; omega) (by omega)).mono ?_
          rintro e w7 ⟨rfl, hW, hb⟩
          rw [HZ.out, HAI.out] at *
          have HW7 := Lib.hid hW
          have HB7 := Lib.hid (HB6.out.trans hb)
          clear hW hb HW6 HB6
          go_wp2_with fail
          refine (ws_at HW7.out 2 g2 (8 * pl) (pack S) rfl).mono ?_
          rintro e w' ⟨rfl, rfl⟩
          rw [show ((8 * pl : Nat) : Int) = 8 * (pl : Int) by omega]
          go_wp2_with fail
          refine (wakes_walk w7).mono ?_
          rintro e we ⟨rfl, hb⟩
          have HQ : Hid (BoolPost true w (.returned (.bool true)) we) := Lib.hid ⟨rfl, HB7.out.trans (hb.mono HB7.out.size)⟩
          clear hb HW7 HB7
          go_wp2_with fail
          go_ret
          exact HQ.out
end Go.Proofs.Ytggpdkcmihgdeaa
