/-
  Contracts of the document's own Bits and Reverse.
-/
import Derived.Test.YtggpdkcmihgdeaaRef
namespace Go.Proofs.Ytggpdkcmihgdeaa
open Go.RowKit Bt

theorem OwnL.shapeN {base : Nat} {w : World} {v : Value} {l : List Bool} (h : OwnL base w v l) {n : Nat} (hn : l.length = n) : ∃ p cap, v = .slice p n cap := by
  subst hn; exact h.toL.shape
theorem grown_belowL {B : Nat} {w w' : World} {v : Value} (hg : w.grownBy w' v.ownBlock) (hB : B ≤ w.heap.size) (hv : ∀ k, v.ownBlock = some k → B ≤ k) : Below B w w' :=
  (Below.refl _ w).grown hg hB hv
def BitsPost (n K : Nat) (w : World) (e : Ending) (w' : World) : Prop :=
  ∃ p cap, e = .returned (.tuple #[.slice p K cap, .bool (decide (n < 2 ^ K))]) ∧ OwnL w.heap.size w' (.slice p K cap) (bitsN n K) ∧ Below w.heap.size w w'
def BitsRel (w : World) (n K : Nat) (v0 v6 v7 : Value) (wr : World) : Prop :=
  ∃ k : Nat, k ≤ K ∧ v7 = .int .i64 (k : Int) ∧ v0 = .int .u64 ((n / 2 ^ k : Nat) : Int) ∧ (∃ p cap, v6 = .slice p k cap) ∧ OwnL w.heap.size wr v6 (bitsN n k) ∧ Below w.heap.size w wr
theorem odd_bit (n k : Nat) : (((n / 2 ^ k : Nat) : Int) % 2 == 1) = n.testBit k := by
  have h := bit_at n k
  have e : ((n / 2 ^ k : Nat) : Int) % 2 = ((n.testBit k).toNat : Int) := by omega
  rw [e]
  cases n.testBit k <;> rfl
theorem zero_fit (n K : Nat) : (((n / 2 ^ K : Nat) : Int) == 0) = decide (n < 2 ^ K) := by
  by_cases h : n < 2 ^ K
  · rw [Nat.div_eq_of_lt h]; simp [h]
  · have := Nat.div_pos (Nat.le_of_not_lt h) (Nat.two_pow_pos K)
    rw [decide_eq_false h, beq_eq_false_iff_ne]; omega
set_option maxRecDepth 100000 in
set_option maxHeartbeats 1000000 in
theorem bits_ref (w : World) (n : Nat) (m : Int) (hn : n < 18446744073709551616) (hm : m ≤ 64) :
    Calls Try.prog 43 #[.int .u64 (n : Int), .int .i64 m] w (BitsPost n m.toNat w) := by
  obtain ⟨K, hK⟩ : ∃ K, K = m.toNat := ⟨_, rfl⟩
  rw [← hK]
  have HK : Hid (∀ k : Nat, (k < K → (k : Int) < m) ∧ (K ≤ k → m ≤ (k : Int))) := Lib.hid fun k => by omega
  have hK64 : K ≤ 64 := by omega
  have HWR : Hid (∀ k, IntKind.u64.wrap ((n / 2 ^ k : Nat) : Int) = ((n / 2 ^ k : Nat) : Int)) := Lib.hid fun k => by
    have := Nat.div_le_self n (2 ^ k)
    rw [IntKind.wrap_u64]
    generalize n / 2 ^ k = z at *
    omega
  clear hK hm hn
  go_enter Try.func43, Try.ntmps43
  go_wp2_with fail
  go_loopw [0, 6, 7] (fun v0 v6 v7 wr => BitsRel w n K v0 v6 v7 wr) (fun _ _ v7 _ => K - (intOf v7).toNat)
  case atStart => exact ⟨0, Nat.zero_le _, rfl, by simp, ⟨none, 0, rfl⟩, OwnL.nil _ _, Below.refl _ _⟩
  case round =>
    obtain ⟨k, hk, rfl, rfl, ⟨p, cap, rfl⟩, ho, hb⟩ := hrel
    have HO := Lib.hid ho
    have HB := Lib.hid hb
    clear ho hb
    by_cases hlt : k < K
    · have hki := (HK.out k).1 hlt
      have hob := odd_bit n k
      have HD := Lib.hid (div_two n k)
      have HN := Lib.hid (bitsN_succ n k)
      have HL : Hid ((bitsN n k).length + [n.testBit k].length ≤ 1099511627776) := Lib.hid (by rw [bitsN_length]; simp; omega)
      have HL2 : Hid ((bitsN n k ++ [n.testBit k]).length = k + 1) := Lib.hid (by simp [bitsN_length])
      generalize n / 2 ^ k = x at *
      generalize n.testBit k = b at *
      generalize bitsN n k = A at *
      go_wp2_with (refine wpList_appL rfl (.tmp 13) (.tmp 17) rfl w.heap.size (.slice p k cap) (.slice (some ⟨wr.heap.size, 0, none⟩) 1 1) A [b] rfl rfl (HO.out.alloc _) (sll_one wr b) (by have := HB.out.size; simp; omega) HL.out ?_; intro v' w1 hown hgrow _; obtain ⟨p', cap', rfl⟩ := hown.shapeN HL2.out)
      have hb1 : Below w.heap.size w w1 := (HB.out.alloc HB.out.size _).trans (grown_belowL hgrow (by have := HB.out.size; simp; omega) fun k hk => (HO.out.lt k hk).1)
      exact ⟨⟨k + 1, by omega, by go_num, by rw [HD.out, HWR.out], ⟨p', cap', rfl⟩, by rw [HN.out]; exact hown, hb1⟩, by simp [intOf]; omega⟩
    · have hki := (HK.out k).2 (by omega)
      obtain rfl : k = K := by omega
      have hzf := zero_fit n k
      generalize n / 2 ^ k = x at *
      have HQ : Hid (BitsPost n k w (.returned (.tuple #[.slice p k cap, .bool (decide (n < 2 ^ k))])) wr) := Lib.hid ⟨p, cap, rfl, HO.out, HB.out⟩
      generalize decide (n < 2 ^ k) = fb at *
      go_wp2_with fail
      go_ret2
      exact HQ.out
theorem rev_at (n K j : Nat) (hj : j < K) : (bitsN n K).reverse.take (K - j) = (bitsN n K).reverse.take (K - (j + 1)) ++ [n.testBit j] := by
  have e : K - j = K - (j + 1) + 1 := by omega
  rw [e, List.take_succ_eq_append_getElem (by rw [List.length_reverse, bitsN_length]; omega)]
  congr 2
  simp [bitsN]
  congr 1
  omega
def RevRel (w : World) (n K : Nat) (v7 v8 : Value) (wr : World) : Prop :=
  ∃ j : Nat, j ≤ K ∧ v8 = .int .i64 ((j : Int) - 1) ∧ (∃ p cap, v7 = .slice p (K - j) cap) ∧ OwnL w.heap.size wr v7 ((bitsN n K).reverse.take (K - j)) ∧ Below w.heap.size w wr
def NumPost (x : Nat) (w : World) (e : Ending) (w' : World) : Prop := e = .returned (.int .u64 (x : Nat)) ∧ Below w.heap.size w w'
set_option maxRecDepth 100000 in
set_option maxHeartbeats 1000000 in
theorem revref_lo (w : World) (n : Nat) (m : Int) (hn : n < 18446744073709551616) (hm : m ≤ 64) :
    Calls Try.prog 24 #[.int .u64 (n : Int), .int .i64 m] w (NumPost (rev n (brt m 64)) w) := by
  obtain ⟨K, hK⟩ : ∃ K, K = brt m 64 := ⟨_, rfl⟩
  rw [← hK]
  have hK64 : K ≤ 64 := by have := brt_le m 64; omega
  have HBT := bits_ref w n m hn (by omega)
  rw [show (m : Int).toNat = K by rw [hK]; unfold brt; omega] at HBT
  have HBT := Lib.hid HBT
  clear hK hn
  go_enter Try.func24, Try.ntmps24
  go_wp2_with fail
  refine HBT.out.mono ?_
  rintro e w1 ⟨p5, c5, rfl, ho, hb⟩
  have HL5 := Lib.hid ho.toL
  have HB1 := Lib.hid hb
  clear ho hb HBT
  go_wp2_with fail
  go_loopw [7, 8] (fun v7 v8 wr => RevRel w1 n K v7 v8 wr) (fun _ v8 _ => (intOf v8 + 1).toNat)
  case atStart => exact ⟨K, Nat.le_refl _, rfl, ⟨none, 0, by rw [Nat.sub_self]⟩, by rw [Nat.sub_self, List.take_zero]; exact OwnL.nil _ _, Below.refl _ _⟩
  case round =>
    obtain ⟨j, hj, rfl, ⟨p, cap, rfl⟩, ho, hb⟩ := hrel
    have HO := Lib.hid ho
    have HB := Lib.hid hb
    clear ho hb
    by_cases h0 : 0 < j
    · obtain ⟨i, rfl⟩ : ∃ i, j = i + 1 := ⟨j - 1, by omega⟩
      obtain ⟨g5, o5, rfl, hB5⟩ := HL5.out.some (by omega)
      have hc0 := hB5 i (by rw [bitsN_length]; omega)
      have hc : wr.cell? ⟨g5, o5 + i, none⟩ = some (.bool (n.testBit i)) := by
        rw [HB.out.cell (p := ⟨g5, o5 + i, none⟩) (block_lt_of_cell hc0), hc0, bitsN_getD, decide_eq_true (show i < K by omega)]; rfl
      have HT := Lib.hid (rev_at n K i (by omega))
      have hji : (((i + 1 : Nat) : Int) - 1) = (i : Int) := by omega
      rw [hji]
      have hik : (i : Int) < (K : Int) := by omega
      have HL : Hid (((bitsN n K).reverse.take (K - (i + 1))).length + [n.testBit i].length ≤ 1099511627776) := Lib.hid (by simp; omega)
      have HL2 : Hid (((bitsN n K).reverse.take (K - (i + 1)) ++ [n.testBit i]).length = K - i) := Lib.hid (by simp [bitsN_length]; omega)
      have hs1 : K - (i + 1) ≤ 64 := by omega
      clear hB5 hc0 hji
      generalize n.testBit i = b at *
      generalize (bitsN n K).reverse.take (K - (i + 1)) = A at *
      generalize K - (i + 1) = q at *
      go_wp2_with (refine wpList_appL rfl (.tmp 24) (.tmp 29) rfl w1.heap.size (.slice p q cap) (.slice (some ⟨wr.heap.size, 0, none⟩) 1 1) A [b] rfl rfl (HO.out.alloc _) (sll_one wr b) (by have := HB.out.size; simp; omega) HL.out ?_; intro v' w2 hown hgrow _; obtain ⟨p', cap', rfl⟩ := hown.shapeN HL2.out)
      have hb1 : Below w1.heap.size w1 w2 := (HB.out.alloc HB.out.size _).trans (grown_belowL hgrow (by have := HB.out.size; simp; omega) fun k hk => (HO.out.lt k hk).1)
      exact ⟨⟨i, by omega, rfl, ⟨p', cap', rfl⟩, by rw [HT.out]; exact hown, hb1⟩, by simp [intOf]⟩
    · obtain rfl : j = 0 := by omega
      have hz : (((0 : Nat) : Int) - 1) = -1 := rfl
      rw [hz]
      have HV : Hid (num ((bitsN n K).reverse.take (K - 0)) = rev n K) := Lib.hid (by
        rw [List.take_of_length_le (by rw [List.length_reverse, bitsN_length]; omega)]; rfl)
      have HNU := number_ref wr _ _ HO.out.toL (by simp; omega)
      rw [HV.out] at HNU
      have HNU := Lib.hid HNU
      have HQ : Hid (NumPost (rev n K) w (.returned (.int .u64 (rev n K : Nat))) wr) := Lib.hid ⟨rfl, HB1.out.trans (HB.out.mono HB1.out.size)⟩
      clear hz HV HO HB HB1
      generalize rev n K = rv at *
      go_wp2_with fail
      refine HNU.out.mono ?_
      rintro e w' ⟨rfl, rfl⟩
      go_wp2_with fail
      go_ret
      exact HQ.out
set_option maxRecDepth 100000 in
set_option maxHeartbeats 1000000 in
theorem revref_hi (w : World) (n : Nat) (m : Int) (hn : n < 18446744073709551616) (hm : 64 < m) :
    Calls Try.prog 24 #[.int .u64 (n : Int), .int .i64 m] w (NumPost (rev n (brt m 64)) w) := by
  obtain ⟨K, hK⟩ : ∃ K, K = brt m 64 := ⟨_, rfl⟩
  rw [← hK]
  have hK64 : K ≤ 64 := by have := brt_le m 64; omega
  have HBT := bits_ref w n 64 hn (by omega)
  rw [show (64 : Int).toNat = K by rw [hK]; unfold brt; omega] at HBT
  have HBT := Lib.hid HBT
  clear hK hn
  go_enter Try.func24, Try.ntmps24
  go_wp2_with fail
  refine HBT.out.mono ?_
  rintro e w1 ⟨p5, c5, rfl, ho, hb⟩
  have HL5 := Lib.hid ho.toL
  have HB1 := Lib.hid hb
  clear ho hb HBT
  go_wp2_with fail
  go_loopw [7, 8] (fun v7 v8 wr => RevRel w1 n K v7 v8 wr) (fun _ v8 _ => (intOf v8 + 1).toNat)
  case atStart => exact ⟨K, Nat.le_refl _, rfl, ⟨none, 0, by rw [Nat.sub_self]⟩, by rw [Nat.sub_self, List.take_zero]; exact OwnL.nil _ _, Below.refl _ _⟩
  case round =>
    obtain ⟨j, hj, rfl, ⟨p, cap, rfl⟩, ho, hb⟩ := hrel
    have HO := Lib.hid ho
    have HB := Lib.hid hb
    clear ho hb
    by_cases h0 : 0 < j
    · obtain ⟨i, rfl⟩ : ∃ i, j = i + 1 := ⟨j - 1, by omega⟩
      obtain ⟨g5, o5, rfl, hB5⟩ := HL5.out.some (by omega)
      have hc0 := hB5 i (by rw [bitsN_length]; omega)
      have hc : wr.cell? ⟨g5, o5 + i, none⟩ = some (.bool (n.testBit i)) := by
        rw [HB.out.cell (p := ⟨g5, o5 + i, none⟩) (block_lt_of_cell hc0), hc0, bitsN_getD, decide_eq_true (show i < K by omega)]; rfl
      have HT := Lib.hid (rev_at n K i (by omega))
      have hji : (((i + 1 : Nat) : Int) - 1) = (i : Int) := by omega
      rw [hji]
      have hik : (i : Int) < (K : Int) := by omega
      have HL : Hid (((bitsN n K).reverse.take (K - (i + 1))).length + [n.testBit i].length ≤ 1099511627776) := Lib.hid (by simp; omega)
      have HL2 : Hid (((bitsN n K).reverse.take (K - (i + 1)) ++ [n.testBit i]).length = K - i) := Lib.hid (by simp [bitsN_length]; omega)
      have hs1 : K - (i + 1) ≤ 64 := by omega
      clear hB5 hc0 hji
      generalize n.testBit i = b at *
      generalize (bitsN n K).reverse.take (K - (i + 1)) = A at *
      generalize K - (i + 1) = q at *
      go_wp2_with (refine wpList_appL rfl (.tmp 24) (.tmp 29) rfl w1.heap.size (.slice p q cap) (.slice (some ⟨wr.heap.size, 0, none⟩) 1 1) A [b] rfl rfl (HO.out.alloc _) (sll_one wr b) (by have := HB.out.size; simp; omega) HL.out ?_; intro v' w2 hown hgrow _; obtain ⟨p', cap', rfl⟩ := hown.shapeN HL2.out)
      have hb1 : Below w1.heap.size w1 w2 := (HB.out.alloc HB.out.size _).trans (grown_belowL hgrow (by have := HB.out.size; simp; omega) fun k hk => (HO.out.lt k hk).1)
      exact ⟨⟨i, by omega, rfl, ⟨p', cap', rfl⟩, by rw [HT.out]; exact hown, hb1⟩, by simp [intOf]⟩
    · obtain rfl : j = 0 := by omega
      have hz : (((0 : Nat) : Int) - 1) = -1 := rfl
      rw [hz]
      have HV : Hid (num ((bitsN n K).reverse.take (K - 0)) = rev n K) := Lib.hid (by
        rw [List.take_of_length_le (by rw [List.length_reverse, bitsN_length]; omega)]; rfl)
      have HNU := number_ref wr _ _ HO.out.toL (by simp; omega)
      rw [HV.out] at HNU
      have HNU := Lib.hid HNU
      have HQ : Hid (NumPost (rev n K) w (.returned (.int .u64 (rev n K : Nat))) wr) := Lib.hid ⟨rfl, HB1.out.trans (HB.out.mono HB1.out.size)⟩
      clear hz HV HO HB HB1
      generalize rev n K = rv at *
      go_wp2_with fail
      refine HNU.out.mono ?_
      rintro e w' ⟨rfl, rfl⟩
      go_wp2_with fail
      go_ret
      exact HQ.out
theorem revref (w : World) (n : Nat) (m : Int) (hn : n < 18446744073709551616) :
    Calls Try.prog 24 #[.int .u64 (n : Int), .int .i64 m] w (NumPost (rev n (brt m 64)) w) := by
  by_cases h : m ≤ 64
  · exact revref_lo w n m hn h
  · exact revref_hi w n m hn (by omega)
end Go.Proofs.Ytggpdkcmihgdeaa
