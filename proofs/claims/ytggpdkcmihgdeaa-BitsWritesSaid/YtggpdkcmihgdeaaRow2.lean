/-
  Contracts of the document's own rows of bits: Fill, Of, Done.
-/
import Derived.Test.YtggpdkcmihgdeaaRow
import Derived.Test.YtggpdkcmihgdeaaUse
namespace Go.Proofs.Ytggpdkcmihgdeaa
open Go.RowKit Bt

def lenOf (g : Nat) (w : World) : Nat := match w.cell? ⟨g, 0, none⟩ with | some (.slice _ n _) => n | _ => 0
theorem Has.lenOf {w : World} {F : Nat → Prop} {g n : Nat} {L : List Bool} (h : Has w F (.row g L n)) : lenOf g w = L.length := by
  obtain ⟨p, cap, c0, _⟩ := h.w1
  unfold Ytggpdkcmihgdeaa.lenOf
  rw [c0]
def FillRel (F : Nat → Prop) (g n : Nat) (L : List Bool) (w wr : World) : Prop := ∃ j, L.length + j ≤ (L.length + 7) / 8 * 8 ∧ Turn F (.row g (L ++ List.replicate j false) n) w wr
set_option maxRecDepth 100000 in
set_option maxHeartbeats 1000000 in
theorem rfill_walk (w : World) (F : Nat → Prop) (g n0 : Nat) (L : List Bool) (h : Has w F (.row g L n0)) (hlen : L.length ≤ 1099511627) :
    Calls Try.prog 15 #[.pointer (some ⟨g, 0, none⟩)] w (Turned (.tuple #[]) F (.row g (fill L) n0) w) := by
  have HT0 : Hid (FillRel F g n0 L w w) := Lib.hid ⟨0, by omega, by simpa using Turn.refl h⟩
  have HLen := Lib.hid hlen
  clear h hlen
  go_enter Try.func15, Try.ntmps15
  go_wp2_with fail
  go_loopw [8] (fun _ wr => FillRel F g n0 L w wr) (fun _ wr => (8 - lenOf g wr % 8) % 8)
  case atStart => exact HT0.out
  case round =>
    clear HT0
    obtain ⟨j, hj, hT⟩ := hrel
    have HT := Lib.hid hT
    obtain ⟨p, cap, c0, _, ho, _⟩ := hT.has.w1
    have hll : (L ++ List.replicate j false).length = L.length + j := by simp
    have HLO := Lib.hid hT.has.lenOf
    rw [hll] at c0 ho HLO
    have HO := Lib.hid ho
    have HC := Lib.hid c0
    have hle := HLen.out
    clear hT ho hll
    by_cases h8 : (L.length + j) % 8 = 0
    · have hpi : ((L.length + j : Nat) : Int) % 8 = 0 := by omega
      have HE : Hid (Turn F (.row g (fill L) n0) w wr) := Lib.hid (by
        have := HT.out
        rwa [show j = (L.length + 7) / 8 * 8 - L.length by omega] at this)
      clear HT HO HC HLO HLen
      generalize L.length + j = q at *
      go_wp2_with fail
      go_end0
      exact ⟨rfl, HE.out⟩
    · have hpi : (((L.length + j : Nat) : Int) % 8 != 0) = true := by rw [bne_iff_ne]; omega
      have HL : Hid ((L ++ List.replicate j false).length + [false].length ≤ 1099511627776) := Lib.hid (by simp; omega)
      have HM : Hid ((8 - (L.length + j + 1) % 8) % 8 < (8 - (L.length + j) % 8) % 8 ∧ L.length + (j + 1) ≤ (L.length + 7) / 8 * 8) := Lib.hid (by omega)
      have HRJ : Hid (L ++ List.replicate j false ++ [false] = L ++ List.replicate (j + 1) false) := Lib.hid (by rw [List.append_assoc, List.replicate_succ'])
      have HL3 : Hid ((L ++ List.replicate (j + 1) false).length = L.length + j + 1) := Lib.hid (by simp; omega)
      have hq : L.length + j ≤ 1099511700 := by omega
      generalize hLj : L ++ List.replicate j false = Lj at *
      have HLJ := Lib.hid hLj
      clear hLj h8 hj HLen hle
      generalize hqq : L.length + j = q at *
      have HQQ := Lib.hid hqq
      clear hqq
      go_wp2_with (refine wpList_appL rfl (.tmp 13) (.tmp 14) rfl 0 (.slice p q cap) (.slice (some ⟨wr.heap.size, 0, none⟩) 1 1) Lj [false] rfl rfl (HO.out.alloc _) (sll_one wr false) (Nat.zero_le _) HL.out ?_; intro v' w2 hown hgrow hat; obtain ⟨p', c', rfl⟩ := hown.toL.shape; generalize (Lj ++ [false]).length = nl at *; obtain ⟨e1, f1, hT2⟩ := HT.out.has.rowapp HC.out ((Below.refl _ _).alloc (Nat.le_refl _) _) hown hgrow hat; have HT2 := Lib.hid (HT.out.trans hT2); clear hT2 hown hgrow hat c0)
      rw [HRJ.out] at HT2
      have e1 := HT2.out.has.lenOf
      rw [HL3.out] at e1
      refine ⟨⟨j + 1, HM.out.2, HT2.out⟩, ?_⟩
      rw [e1, HLO.out]
      exact HM.out.1
theorem bitsOf_snoc (l : List UInt8) (x : UInt8) : bitsOf (l ++ [x]) = bitsOf l ++ bitsN x.toNat 8 := by
  apply ext_getD false
  · rw [bitsOf_length, List.length_append, List.length_append, bitsOf_length, bitsN_length]; simp; omega
  intro i hi
  rw [bitsOf_length, List.length_append, List.length_singleton] at hi
  rw [bitsOf_getD]
  by_cases h : i < 8 * l.length
  · rw [List.getD_eq_getElem?_getD, List.getElem?_append_left (by omega), ← List.getD_eq_getElem?_getD, List.getD_eq_getElem?_getD (l := bitsOf l ++ _), List.getElem?_append_left (by rw [bitsOf_length]; exact h), ← List.getD_eq_getElem?_getD, bitsOf_getD]
  · have e1 : i / 8 = l.length := by omega
    have e2 : i - 8 * l.length = i % 8 := by omega
    rw [e1, List.getD_eq_getElem?_getD (l := bitsOf l ++ _), List.getElem?_append_right (by rw [bitsOf_length]; omega), ← List.getD_eq_getElem?_getD, bitsOf_length, bitsN_getD, e2, decide_eq_true (show i % 8 < 8 by omega), Bool.true_and]
    simp
def DoneRel (w : World) (L : List Bool) (v3 v4 : Value) (wr : World) : Prop :=
  ∃ k : Nat, k ≤ (L.length + 7) / 8 ∧ v4 = .int .i64 ((8 * k : Nat) : Int) ∧ (∃ p cap, v3 = .slice p k cap) ∧ OwnB w.heap.size wr v3 ((pack L).take k) ∧ Below w.heap.size w wr
theorem pack_take (L : List Bool) (k : Nat) (hk : k < (L.length + 7) / 8) : (pack L).take (k + 1) = (pack L).take k ++ [byteAt L k] := by
  rw [List.take_succ_eq_append_getElem (by rw [pack_length]; exact hk)]
  congr 2
  simp [pack]
theorem byte_num (L : List Bool) (k : Nat) : ((num ((L.drop (8 * k)).take 8) : Nat) : Int) % 256 = bi (byteAt L k) := by
  unfold byteAt
  rw [bi_ofNat]; omega
theorem OwnB.shapeN {base : Nat} {w : World} {v : Value} {l : List UInt8} (h : OwnB base w v l) {n : Nat} (hn : l.length = n) : ∃ p cap, v = .slice p n cap := by
  subst hn; exact h.toW.shape
set_option maxRecDepth 100000 in
set_option maxHeartbeats 1600000 in
theorem rdone_walk (w : World) (F : Nat → Prop) (g n0 : Nat) (L : List Bool) (h : Has w F (.row g L n0)) (hlen : L.length ≤ 1099511627) :
    Calls Try.prog 22 #[.pointer (some ⟨g, 0, none⟩)] w (ClonePost (pack L) w) := by
  obtain ⟨p0, cap0, c0, _, ho, _⟩ := h.w1
  have HO0 := Lib.hid ho
  have HC := Lib.hid c0
  obtain ⟨l, hl⟩ : ∃ l, l = L.length := ⟨_, rfl⟩
  rw [← hl] at HO0 HC hlen
  have HLL := Lib.hid hl
  clear hl ho c0 h
  go_enter Try.func22, Try.ntmps22
  go_wp2_with fail
  go_loopw [3, 4, 5] (fun v3 v4 _ wr => DoneRel w L v3 v4 wr) (fun _ v4 _ _ => l + 8 - (intOf v4).toNat)
  case atStart => exact ⟨0, Nat.zero_le _, rfl, ⟨none, 0, rfl⟩, by rw [List.take_zero]; exact OwnB.nil _ _, Below.refl _ _⟩
  case round =>
    obtain ⟨k, hk, rfl, ⟨p, cap, rfl⟩, ho, hb⟩ := hrel
    rw [← HLL.out] at hk
    have HO := Lib.hid ho
    have HB := Lib.hid hb
    have c0 : wr.cell? ⟨g, 0, none⟩ = some (.slice p0 l cap0) := (hb.cell (p := ⟨g, 0, none⟩) (block_lt_of_cell HC.out)).trans HC.out
    have HOr : Hid (OwnL 0 wr (.slice p0 l cap0) L) := Lib.hid (HO0.out.stays fun k hk => hb.block k (HO0.out.lt k hk).2)
    have hk8 : ((8 * k : Nat) : Int) = 8 * (k : Int) := by omega
    rw [hk8]
    clear ho hb hk8
    by_cases hlt : 8 * k < l
    · have hki : 8 * (k : Int) < (l : Int) := by omega
      by_cases h8 : 8 * k + 8 ≤ l
      · have hki2 : 8 * (k : Int) + 8 ≤ (l : Int) := by omega
        have hki3 : (8 * (k : Int) + 8).toNat = 8 * k + 8 := by omega
        obtain ⟨sv, hsl, hsv⟩ := SlL_from HOr.out.toL (8 * k) (8 * k + 8) (by omega) (by omega)
        have hsl : ∀ w', (Instr.sliceAt 26 (.slice p0 l cap0) (some (.int .i64 (8 * (k : Int)))) (some (.int .i64 (8 * (k : Int) + 8))) none).run Try.prog w' = .ok sv w' := hsl
        have HNU := number_ref wr sv _ hsv (by simp; omega)
        rw [show (L.drop (8 * k)).take ((8 * k + 8) - 8 * k) = (L.drop (8 * k)).take 8 by rw [show 8 * k + 8 - 8 * k = 8 by omega]] at HNU
        have HNU := Lib.hid HNU
        have HBN := Lib.hid (byte_num L k)
        have HPT := Lib.hid (pack_take L k (by rw [← HLL.out]; omega))
        have HL : Hid (((pack L).take k).length + [byteAt L k].length ≤ 1099511627776) := Lib.hid (by simp [pack_length]; omega)
        have HL2 : Hid (((pack L).take k ++ [byteAt L k]).length = k + 1) := Lib.hid (by simp [pack_length]; rw [← HLL.out]; omega)
        clear hsv HOr
        generalize byteAt L k = x at *
        generalize (pack L).take k = A at *
        generalize num ((L.drop (8 * k)).take 8) = y at *
        go_wp2_with fail
        refine HNU.out.mono ?_
        rintro e w' ⟨rfl, rfl⟩
        clear HNU
        go_wp2_with (refine wpList_appB rfl (.tmp 29) (.tmp 39) rfl w.heap.size (.slice p k cap) (.slice (some ⟨wr.heap.size, 0, none⟩) 1 1) A [x] rfl rfl (HO.out.alloc _) (slw_lit wr x _ HBN.out) (by have := HB.out.size; simp; omega) HL.out ?_; intro v' w2 hown hgrow _; obtain ⟨p', cap', rfl⟩ := hown.shapeN HL2.out)
        have hb1 : Below w.heap.size w w2 := (HB.out.alloc HB.out.size _).trans ((Below.refl _ _).grown hgrow (by have := HB.out.size; simp; omega) fun k hk => (HO.out.lt k hk).1)
        exact ⟨⟨k + 1, by rw [← HLL.out]; omega, by congr 1, ⟨p', cap', rfl⟩, by rw [HPT.out]; exact hown, hb1⟩, by simp [intOf]; omega⟩
      · have hki2 : (l : Int) < 8 * (k : Int) + 8 := by omega
        obtain ⟨sv, hsl, hsv⟩ := SlL_from HOr.out.toL (8 * k) l (by omega) (by omega)
        have hsl : ∀ w', (Instr.sliceAt 26 (.slice p0 l cap0) (some (.int .i64 (8 * (k : Int)))) (some (.int .i64 ((l : Int)))) none).run Try.prog w' = .ok sv w' := hsl
        have HNU := number_ref wr sv _ hsv (by simp; omega)
        rw [show (L.drop (8 * k)).take (l - 8 * k) = (L.drop (8 * k)).take 8 by rw [List.take_of_length_le (by rw [List.length_drop, ← HLL.out]; omega), List.take_of_length_le (by rw [List.length_drop, ← HLL.out]; omega)]] at HNU
        have HNU := Lib.hid HNU
        have HBN := Lib.hid (byte_num L k)
        have HPT := Lib.hid (pack_take L k (by rw [← HLL.out]; omega))
        have HL : Hid (((pack L).take k).length + [byteAt L k].length ≤ 1099511627776) := Lib.hid (by simp [pack_length]; omega)
        have HL2 : Hid (((pack L).take k ++ [byteAt L k]).length = k + 1) := Lib.hid (by simp [pack_length]; rw [← HLL.out]; omega)
        clear hsv HOr
        generalize byteAt L k = x at *
        generalize (pack L).take k = A at *
        generalize num ((L.drop (8 * k)).take 8) = y at *
        go_wp2_with fail
        refine HNU.out.mono ?_
        rintro e w' ⟨rfl, rfl⟩
        clear HNU
        go_wp2_with (refine wpList_appB rfl (.tmp 29) (.tmp 39) rfl w.heap.size (.slice p k cap) (.slice (some ⟨wr.heap.size, 0, none⟩) 1 1) A [x] rfl rfl (HO.out.alloc _) (slw_lit wr x _ HBN.out) (by have := HB.out.size; simp; omega) HL.out ?_; intro v' w2 hown hgrow _; obtain ⟨p', cap', rfl⟩ := hown.shapeN HL2.out)
        have hb1 : Below w.heap.size w w2 := (HB.out.alloc HB.out.size _).trans ((Below.refl _ _).grown hgrow (by have := HB.out.size; simp; omega) fun k hk => (HO.out.lt k hk).1)
        exact ⟨⟨k + 1, by rw [← HLL.out]; omega, by congr 1, ⟨p', cap', rfl⟩, by rw [HPT.out]; exact hown, hb1⟩, by simp [intOf]; omega⟩
    · have hki : (l : Int) ≤ 8 * (k : Int) := by omega
      have HQ : Hid (ClonePost (pack L) w (.returned (.slice p k cap)) wr) := Lib.hid ⟨_, rfl, by
        have := HO.out
        rwa [List.take_of_length_le (by rw [pack_length, ← HLL.out]; omega)] at this, HB.out⟩
      go_wp2_with fail
      go_ret
      exact HQ.out
end Go.Proofs.Ytggpdkcmihgdeaa
