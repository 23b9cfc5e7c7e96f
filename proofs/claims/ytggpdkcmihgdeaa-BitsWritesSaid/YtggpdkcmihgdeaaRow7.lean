/-
  Contracts of the document's own rows of bits: Code.
-/
import Derived.Test.YtggpdkcmihgdeaaRow3
import Derived.Deep.RegionLaw
namespace Go.Proofs.Ytggpdkcmihgdeaa
open Go.RowKit Bt

theorem step_appL {ops : Array Oper} {o : Oper} {a : Act} {w : World} {K : Act → World → Prop} {Q : Exit → Act → World → Prop} {E : Prop} (hgd : o.guard = none) (d x : Operand)
    (ho : o.op = .call { callee := .builtin .append, args := #[d, x], argTypes := #[26, 26] }) (base : Nat) (v src : Value) (l ys : List Bool) (hd : a.eval d = v) (hx : a.eval x = src)
    (hown : OwnL base w v l) (hsrc : SlL w src ys) (hbase : base ≤ w.heap.size) (hsz : l.length + ys.length ≤ 1099511627776)
    (h : ∀ v' w', OwnL base w' v' (l ++ ys) → w.grownBy w' v.ownBlock → (v'.ownBlock = v.ownBlock ∨ v'.ownBlock = some w.heap.size) → K (a.put o.dst v') w') :
    if Region.wanted o (yielded ops a.tmps) = true then Oper.wp Try.prog o a w K Q else E := by
  have hw : Region.wanted o (yielded ops a.tmps) = true := by simp [Region.wanted, hgd]
  rw [if_pos hw]
  obtain ⟨v', w', hrun, h1, h2, h3⟩ := run_appL o.type hown hsrc hbase hsz
  unfold Oper.wp
  simp only [execOp, ho, resolve, invoke, builtin, hd, hx, hrun, Result.andThen, List.map_toArray, List.map_cons, List.map_nil, Sem.run_bind, Sem.run_pure]
  exact h v' w' h1 h2 h3
theorem SlL.drew {w : World} {v : Value} {bs : List Bool} (h : SlL w v bs) : SlL w.drew v bs := h.below ⟨rfl, rfl, rfl, Nat.le_refl _, fun _ _ => rfl⟩ (Nat.le_refl _)
def CodeRel (F : Nat → Prop) (g n0 : Nat) (L : List Bool) (n K : Nat) (w1 : World) (v9 : Value) (wr : World) : Prop :=
  ∃ j : Nat, j ≤ K ∧ v9 = .int .i64 ((j : Int) - 1) ∧ Turn F (.row g (L ++ (bitsN n K).reverse.take (K - j)) n0) w1 wr
set_option maxRecDepth 100000 in
set_option maxHeartbeats 2000000 in
theorem rcode_ok (w : World) (F : Nat → Prop) (g n0 : Nat) (L : List Bool) (n K : Nat) (h : Has w F (.row g L n0)) (hF : ∀ k, F k → k < w.heap.size) (hlen : L.length + K ≤ 1099511627) (hn : n < 18446744073709551616) (hK : K ≤ 57) (hf : n < 2 ^ K) :
    Calls Try.prog 13 #[.pointer (some ⟨g, 0, none⟩), .int .u64 (n : Int), .int .i64 (K : Int)] w (Turned (.int .i64 0) F (.row g (L ++ (bitsN n K).reverse) n0) w) := by
  have HH := Lib.hid h
  have HFF := Lib.hid hF
  have HBT := bits_ref w n (K : Int) hn (by omega)
  rw [show ((K : Int)).toNat = K by omega] at HBT
  have HBT := Lib.hid HBT
  have h1 : (0 : Int) ≤ (K : Int) := by omega
  have h2 : (K : Int) ≤ 57 := by omega
  have hd : decide ((K : Int) < 0) = false := by simp
  have HFit : Hid (decide (n < 2 ^ K) = true) := Lib.hid (by simpa using hf)
  have HLen := Lib.hid hlen
  clear h hn hf hF hlen
  go_enter Try.func13, Try.ntmps13
  go_wp2_with fail
  refine HBT.out.mono ?_
  rintro e w1 ⟨p5, c5, rfl, ho, hb⟩
  rw [HFit.out]
  have HO5 := Lib.hid ho
  have HB1 := Lib.hid hb
  have H1 : Hid (Turn F (.row g (L ++ (bitsN n K).reverse.take (K - K)) n0) w1 w1) := Lib.hid (by
    rw [Nat.sub_self, List.take_zero, List.append_nil]
    exact Turn.refl (HH.out.stays fun k hk => HB1.out.block k (HFF.out k hk)))
  clear ho hb HBT HFit
  go_wp2_with fail
  go_loopw [9] (fun v9 wr => CodeRel F g n0 L n K w1 v9 wr) (fun v9 _ => (intOf v9 + 1).toNat)
  case atStart => exact ⟨K, Nat.le_refl _, rfl, H1.out⟩
  case round =>
    clear H1
    obtain ⟨j, hj, rfl, hT⟩ := hrel
    have HT := Lib.hid hT
    clear hT
    by_cases h0 : 0 < j
    · obtain ⟨i, rfl⟩ : ∃ i, j = i + 1 := ⟨j - 1, by omega⟩
      have HO5r : OwnL w.heap.size wr (.slice p5 K c5) (bitsN n K) := HO5.out.stays fun k hk => HT.out.only.block k (HO5.out.lt k hk).2 (fun hfk => by have := HFF.out k hfk; have := (HO5.out.lt k hk).1; omega)
      obtain ⟨g5, o5, rfl, hB5⟩ := HO5r.toL.some (by omega)
      have hc := hB5 i (by rw [bitsN_length]; omega)
      rw [bitsN_getD, decide_eq_true (show i < K by omega), Bool.true_and] at hc
      obtain ⟨p, cap, c0, _, ho, hfz⟩ := HT.out.has.w1
      have f0 := hfz 0
      have HT2 : Hid (L ++ (bitsN n K).reverse.take (K - (i + 1)) ++ [n.testBit i] = L ++ (bitsN n K).reverse.take (K - i)) := Lib.hid (by rw [rev_at n K i (by omega), List.append_assoc])
      have hji : (((i + 1 : Nat) : Int) - 1) = (i : Int) := by omega
      rw [hji]
      have hik : (i : Int) < (K : Int) := by omega
      have HL : Hid ((L ++ (bitsN n K).reverse.take (K - (i + 1))).length + [n.testBit i].length ≤ 1099511627776) := Lib.hid (by have := HLen.out; simp [bitsN_length]; omega)
      have HO := Lib.hid ho
      have HC := Lib.hid c0
      clear hB5 hji hfz ho HO5r
      generalize n.testBit i = b at *
      generalize L ++ (bitsN n K).reverse.take (K - (i + 1)) = A at *
      obtain ⟨q, hq⟩ : ∃ q, q = A.length := ⟨_, rfl⟩
      rw [← hq] at c0 HC HO
      clear hq
      have hwa : Below wr.heap.size wr (wr.alloc (.cells #[.bool b] 4)) := (Below.refl _ _).alloc (Nat.le_refl _) _
      have c0a : (wr.alloc (.cells #[.bool b] 4)).cell? ⟨g, 0, none⟩ = some (.slice p q cap) := (hwa.cell (p := ⟨g, 0, none⟩) (block_lt_of_cell HC.out)).trans HC.out
      have HWA : Hid (Below wr.heap.size wr (wr.alloc (.cells #[.bool b] 4)).drew) := Lib.hid (hwa.trans ⟨rfl, rfl, rfl, Nat.le_refl _, fun _ _ => rfl⟩)
      clear hwa
      go_wp2_with fail
      go_region_law (refine step_appL rfl (.tmp 34) (.tmp 39) rfl 0 (.slice p q cap) (.slice (some ⟨wr.heap.size, 0, none⟩) 1 1) A [b] rfl rfl (HO.out.alloc _).drew (sll_one wr b).drew (Nat.zero_le _) HL.out ?_; intro v' w2 hown hgrow hat; obtain ⟨p', c', rfl⟩ := hown.toL.shape; generalize (A ++ [b]).length = nl at *; obtain ⟨e1, f1, hT3⟩ := HT.out.has.rowapp HC.out HWA.out hown hgrow hat; have HT3 := Lib.hid (HT.out.trans hT3); clear hT3 hown hgrow hat)
      all_goals go_wp2_with fail
      all_goals
        rw [HT2.out] at HT3
        exact ⟨⟨i, by omega, rfl, HT3.out⟩, by simp [intOf]⟩
    · obtain rfl : j = 0 := by omega
      have hz : (((0 : Nat) : Int) - 1) = -1 := rfl
      rw [hz]
      have HQ : Hid (Turned (.int .i64 0) F (.row g (L ++ (bitsN n K).reverse) n0) w (.returned (.int .i64 0)) wr) := Lib.hid ⟨rfl, by
        have h3 := HT.out
        rw [List.take_of_length_le (by rw [List.length_reverse, bitsN_length]; omega)] at h3
        have h4 : Turn F (.row g L n0) w w1 := ⟨OnlyS.of_below HB1.out, (HH.out.stays fun k hk => HB1.out.block k (HFF.out k hk)).mono fun _ hk => .inl hk⟩
        have s1 := HB1.out.size
        have s2 := h3.only.size
        exact ⟨h4.only.trans h3.only, h3.has.mono fun k hk => by
          rcases hk with hk | hk
          · exact .inl hk
          · exact .inr ⟨by omega, hk.2⟩⟩⟩
      clear hz HT
      go_wp2_with fail
      go_ret
      exact HQ.out
set_option maxRecDepth 100000 in
set_option maxHeartbeats 1000000 in
theorem rcode_in (w : World) (g n K : Nat) (hn : n < 18446744073709551616) (hK : K ≤ 57) (hf : ¬ n < 2 ^ K) :
    Calls Try.prog 13 #[.pointer (some ⟨g, 0, none⟩), .int .u64 (n : Int), .int .i64 (K : Int)] w (BelowPost (.int .i64 1) w) := by
  have HBT := bits_ref w n (K : Int) hn (by omega)
  rw [show ((K : Int)).toNat = K by omega] at HBT
  have HBT := Lib.hid HBT
  have h1 : (0 : Int) ≤ (K : Int) := by omega
  have h2 : (K : Int) ≤ 57 := by omega
  have hd : decide ((K : Int) < 0) = false := by simp
  have HF : Hid (decide (n < 2 ^ K) = false) := Lib.hid (by simpa using hf)
  clear hn hf
  go_enter Try.func13, Try.ntmps13
  go_wp2_with fail
  refine HBT.out.mono ?_
  rintro e w1 ⟨p5, c5, rfl, ho, hb⟩
  rw [HF.out]
  have HB1 := Lib.hid hb
  clear ho hb HBT HF
  go_wp2_with fail
  go_ret
  exact ⟨rfl, HB1.out⟩
set_option maxHeartbeats 400000 in
theorem rcode_lo (w : World) (p : Value) (n : Nat) (m : Int) (hm : m < 0) :
    Calls Try.prog 13 #[p, .int .u64 (n : Int), .int .i64 m] w (BelowPost (.int .i64 1) w) := by
  have hd : decide (m < 0) = true := by simpa using hm
  go_enter Try.func13, Try.ntmps13
  go_wp2_with fail
  go_ret
  exact ⟨rfl, Below.refl _ _⟩
set_option maxHeartbeats 400000 in
theorem rcode_hi (w : World) (p : Value) (n : Nat) (m : Int) (hm : 57 < m) :
    Calls Try.prog 13 #[p, .int .u64 (n : Int), .int .i64 m] w (BelowPost (.int .i64 1) w) := by
  have hd : decide (m < 0) = false := by simp; omega
  go_enter Try.func13, Try.ntmps13
  go_wp2_with fail
  go_ret
  exact ⟨rfl, Below.refl _ _⟩
theorem rcode_no (w : World) (g n : Nat) (m : Int) (hn : n < 18446744073709551616) (hf : ¬ fits' n m) :
    Calls Try.prog 13 #[.pointer (some ⟨g, 0, none⟩), .int .u64 (n : Int), .int .i64 m] w (BelowPost (.int .i64 1) w) := by
  by_cases h1 : m < 0
  · exact rcode_lo w _ n m h1
  by_cases h2 : 57 < m
  · exact rcode_hi w _ n m h2
  obtain ⟨k, rfl⟩ := Int.eq_ofNat_of_zero_le (show 0 ≤ m by omega)
  exact rcode_in w g n k hn (by omega) (fun h => hf ⟨by omega, by omega, by simpa using h⟩)
theorem step_of {ops : Array Oper} {o : Oper} {a : Act} {w : World} {K : Act → World → Prop} {Q : Exit → Act → World → Prop} {E : Prop} (hgd : o.guard = none) (x : Operand) (ts : Array TypeId)
    (ho : o.op = .call { callee := .value (.func 27), args := #[x], argTypes := ts }) (v : Value) (bs : List UInt8) (hx : a.eval x = v) (hs : SlW w v bs) (hlen : bs.length ≤ 109951162)
    (h : ∀ g w', Below w.heap.size w w' → Has w' (fun k => w.heap.size ≤ k ∧ k < w'.heap.size) (.row g (bitsOf bs) 0) → K (a.put o.dst (.pointer (some ⟨g, 0, none⟩))) w') :
    if Region.wanted o (yielded ops a.tmps) = true then Oper.wp Try.prog o a w K Q else E := by
  have hw : Region.wanted o (yielded ops a.tmps) = true := by simp [Region.wanted, hgd]
  rw [if_pos hw]
  have hr : (execOp a.eval o).run Try.prog w = .ok (.enter 27 #[a.eval x]) w := by unfold execOp; rw [ho]; kernel_rfl
  unfold Oper.wp
  rw [hr, Oper.upon_enter, hx]
  exact (of_walk w v bs hs hlen).mono fun e w' ⟨g, he, hb, hh⟩ => by subst he; exact h g w' hb hh
set_option maxRecDepth 100000 in
set_option maxHeartbeats 2000000 in
theorem rlay_ok (w : World) (F : Nat → Prop) (g n0 : Nat) (L : List Bool) (v : Value) (bs : List UInt8) (h : Has w F (.row g L n0)) (hF : ∀ k, F k → k < w.heap.size) (hs : SlW w v bs) (hlen : L.length + 8 * bs.length ≤ 109951162) (h8 : L.length % 8 = 0) :
    Calls Try.prog 18 #[.pointer (some ⟨g, 0, none⟩), v] w (Turned (.int .i64 0) F (.row g (L ++ bitsOf bs) n0) w) := by
  have HH := Lib.hid h
  have HFF := Lib.hid hF
  obtain ⟨p, cap, c0, _, ho, hfz⟩ := h.w1
  obtain ⟨ps, cs, rfl⟩ := hs.shape
  have HS : Hid (SlW w.drew (.slice ps bs.length cs) bs) := Lib.hid (hs.below ⟨rfl, rfl, rfl, Nat.le_refl _, fun _ _ => rfl⟩ (Nat.le_refl _))
  have HO := Lib.hid ho
  have HC := Lib.hid c0
  have hpi : (L.length : Int) % 8 = 0 := by omega
  have hq1 : L.length ≤ 109951162 := by omega
  have HBS : Hid (bs.length ≤ 109951162) := Lib.hid (by omega)
  have HL : Hid (L.length + (bitsOf bs).length ≤ 1099511627776) := Lib.hid (by rw [bitsOf_length]; omega)
  clear h hs ho hfz h8 hF hlen
  obtain ⟨l, hl⟩ : ∃ l, l = L.length := ⟨_, rfl⟩
  rw [← hl] at c0 HC HO hpi hq1
  clear hl
  obtain ⟨lb, hlb⟩ : ∃ lb, lb = bs.length := ⟨_, rfl⟩
  rw [← hlb] at HS ⊢
  clear hlb
  go_enter Try.func18, Try.ntmps18
  go_wp2_with fail
  go_region_law (first
    | (refine step_of rfl (.tmp 17) #[30] rfl (.slice ps lb cs) bs rfl HS.out HBS.out ?_; intro g2 w2 hb2 hh2; have HB2 : Hid (Below w.heap.size w w2) := Lib.hid ⟨hb2.os, hb2.tape, hb2.output, hb2.size, hb2.block⟩; obtain ⟨p2, cap2, d0, _, ho2, _⟩ := hh2.w1; have c0b : w2.cell? ⟨g, 0, none⟩ = some (.slice p l cap) := (HB2.out.cell (p := ⟨g, 0, none⟩) (block_lt_of_cell HC.out)).trans HC.out; have HO1 := Lib.hid (HO.out.stays fun k hk => HB2.out.block k (HO.out.lt k hk).2); have HO2 := Lib.hid ho2; clear hb2 hh2 ho2)
    | (refine step_appL rfl (.tmp 16) (.tmp 21) rfl 0 (.slice p l cap) (.slice p2 (bitsOf bs).length cap2) L (bitsOf bs) rfl rfl HO1.out HO2.out.toL (Nat.zero_le _) HL.out ?_; intro v' w3 hown hgrow hat; obtain ⟨p', c', rfl⟩ := hown.toL.shape; generalize (L ++ bitsOf bs).length = nl at *; obtain ⟨e1, f1, hT3⟩ := HH.out.rowapp HC.out HB2.out hown hgrow hat; have HT3 := Lib.hid hT3; clear hT3 hown hgrow hat))
  all_goals go_wp2_with fail
  all_goals go_ret
  all_goals exact ⟨rfl, HT3.out⟩
end Go.Proofs.Ytggpdkcmihgdeaa
