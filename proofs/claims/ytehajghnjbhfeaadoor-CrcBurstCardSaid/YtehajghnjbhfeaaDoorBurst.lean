/-
  The law CrcBurst walked.
-/
import Derived.Test.YtehajghnjbhfeaaDoorTails
import Derived.Test.YtehajghnjbhfeaaDoorOwn
import Derived.IntWalk
namespace Go.Proofs.YtehajghnjbhfeaaDoor
open Go.RowKit Crc Inv

/-- Four bytes side by side changed, as it goes on. -/
def burstTo (B by4 : List UInt8) (k : Nat) : Nat → List UInt8
  | 0 => B
  | i + 1 => (burstTo B by4 k i).set (k + i) ((burstTo B by4 k i).getD (k + i) 0 ^^^ by4.getD i 0)
theorem burstTo_length (B by4 : List UInt8) (k i : Nat) : (burstTo B by4 k i).length = B.length := by
  induction i with
  | zero => rfl
  | succ i ih => simp [burstTo, ih]
theorem xor_zero_iff (q b : UInt8) : q = q ^^^ b ↔ b = 0 := by
  constructor
  · intro h
    have : q ^^^ q = q ^^^ (q ^^^ b) := by rw [← h]
    rw [← UInt8.xor_assoc, UInt8.xor_self, UInt8.zero_xor] at this
    exact this.symm
  · rintro rfl; rw [UInt8.xor_zero]
theorem split4 (B : List UInt8) (k : Nat) (hk : k + 4 ≤ B.length) : B = B.take k ++ ([B.getD k 0, B.getD (k + 1) 0, B.getD (k + 2) 0, B.getD (k + 3) 0] ++ B.drop (k + 4)) := by
  have e0 := List.getElem?_eq_getElem (l := B) (i := k) (by omega)
  have d0 : B.drop k = B[k]'(by omega) :: B.drop (k + 1) := List.drop_eq_getElem_cons (by omega)
  have d1 : B.drop (k + 1) = B[k + 1]'(by omega) :: B.drop (k + 2) := List.drop_eq_getElem_cons (by omega)
  have d2 : B.drop (k + 2) = B[k + 2]'(by omega) :: B.drop (k + 3) := List.drop_eq_getElem_cons (by omega)
  have d3 : B.drop (k + 3) = B[k + 3]'(by omega) :: B.drop (k + 4) := List.drop_eq_getElem_cons (by omega)
  have g : ∀ j (hj : j < B.length), B.getD j 0 = B[j] := fun j hj => by simp [hj]
  rw [g k (by omega), g (k + 1) (by omega), g (k + 2) (by omega), g (k + 3) (by omega)]
  conv => lhs; rw [← List.take_append_drop k B, d0, d1, d2, d3]
  rfl
theorem burst_eq (P S : List UInt8) (q0 q1 q2 q3 b0 b1 b2 b3 : UInt8) : burstTo (P ++ ([q0, q1, q2, q3] ++ S)) [b0, b1, b2, b3] P.length 4 = P ++ ([q0 ^^^ b0, q1 ^^^ b1, q2 ^^^ b2, q3 ^^^ b3] ++ S) := by
  have key : ∀ (Q : List UInt8) (i : Nat) (x : UInt8), (P ++ Q).set (P.length + i) x = P ++ Q.set i x := fun Q i x => by
    rw [List.set_append_right _ _ (by omega), Nat.add_sub_cancel_left]
  have get : ∀ (Q : List UInt8) (i : Nat), (P ++ Q).getD (P.length + i) 0 = Q.getD i 0 := fun Q i => by
    rw [List.getD_eq_getElem?_getD, List.getElem?_append_right (by omega), Nat.add_sub_cancel_left, List.getD_eq_getElem?_getD]
  simp only [burstTo, get, key]
  simp
theorem burst_iff (B by4 : List UInt8) (k : Nat) (hk : k + 4 ≤ B.length) (h4 : by4.length = 4) : (iv (crcL B) == iv (crcL (burstTo B by4 k 4))) = (by4 == [0, 0, 0, 0]) := by
  obtain ⟨b0, b1, b2, b3, rfl⟩ : ∃ x y z u, by4 = [x, y, z, u] := by
    match by4, h4 with
    | [x, y, z, u], _ => exact ⟨x, y, z, u, rfl⟩
  have hs := split4 B k hk
  have hPl : (B.take k).length = k := by simp; omega
  generalize B.take k = P at *
  generalize B.drop (k + 4) = S at *
  generalize B.getD k 0 = q0 at *
  generalize B.getD (k + 1) 0 = q1 at *
  generalize B.getD (k + 2) 0 = q2 at *
  generalize B.getD (k + 3) 0 = q3 at *
  subst hs hPl
  rw [burst_eq]
  have c : ∀ Q : List UInt8, crcL (P ++ (Q ++ S)) = on (on (crcL P) Q) S := fun Q => by rw [crc_on, on_append]
  rw [c, c]
  by_cases h : on (on (crcL P) [q0, q1, q2, q3]) S = on (on (crcL P) [q0 ^^^ b0, q1 ^^^ b1, q2 ^^^ b2, q3 ^^^ b3]) S
  · rw [h, beq_self_eq_true]
    obtain ⟨h0, h1, h2, h3⟩ := (on_four _ _ _ _ _ _ _ _ _).1 (on_inj S h)
    rw [xor_zero_iff] at h0 h1 h2 h3
    subst h0 h1 h2 h3
    rfl
  · rw [iv_beq _ _ h]
    symm
    rw [beq_eq_false_iff_ne]
    intro e
    obtain ⟨rfl, rfl, rfl, rfl⟩ : b0 = 0 ∧ b1 = 0 ∧ b2 = 0 ∧ b3 = 0 := by simpa using e
    apply h
    simp
theorem law_end5 {R : Ending → World → Prop} {a : Act} {w : World} (h6 : a.eval (.tmp 6) = .bool true) (hd : a.defers = []) (h : R (.returned (.bool true)) w) : Code.wp Tryd.prog Code.ret (bodyPost Tryd.prog Tryd.f5 R) a w := by
  refine wp_ret (bodyPost_ret (v := .bool true) ?_ hd h)
  have h6' : a.tmps.getD 6 undef = .bool true := h6
  simp [results, Tryd.results5, go_sem]
  simpa using h6'
theorem run_zero37 {o : Oper} {a : Act} {w : World} (ho : o.op = .build 37 #[]) : (execOp a.eval o).run Tryd.prog w = .ok (.value (.agg (bcells [0, 0, 0, 0]))) w := by
  unfold execOp; rw [ho]; kernel_rfl
def BurstRel (w : World) (v1 : Value) (B by4 : List UInt8) (k : Nat) (v : Value) (wr : World) : Prop :=
  ∃ i : Nat, i ≤ 4 ∧ v = .int .i64 i ∧ OwnB (w.heap.size + 1) wr v1 (burstTo B by4 k i) ∧ RowT 37 wr w.heap.size by4 ∧ Below w.heap.size w wr
set_option maxRecDepth 100000 in
set_option maxHeartbeats 1000000 in
theorem burst_walk (w : World) (p : Option Addr) (cap : Nat) (b : List UInt8) (hb : SlW w (.slice p b.length cap) b) (z : Nat) (hz : z < 65536) (by4 : List UInt8) (ho : by4.length = 4) (hT : TAt w) :
    Calls Tryd.prog 5 #[.slice p b.length cap, .int .u16 z, .agg (bcells by4)] w (BoolPost true w) := by
  have h0 := hT.lt
  obtain ⟨m, hm⟩ : ∃ m, m = min b.length 2000 := ⟨_, rfl⟩
  have hmi : min (b.length : Int) 2000 = (m : Int) := by omega
  have hmb : m ≤ b.length := by omega
  have hm1 : m ≤ 2000 := by omega
  have hsl := slice_to p b.length cap m b hb hmb
  have HB := Lib.hid (hb.take m hmb)
  have HLT : Hid ((b.take m).length = m) := Lib.hid (by simp; omega)
  have HO := Lib.hid ho
  have hb1 : Below w.heap.size w (w.alloc (.cells (bcells by4) 37)) := (Below.refl _ _).alloc (Nat.le_refl _) _
  have hr1 : RowT 37 (w.alloc (.cells (bcells by4) 37)) w.heap.size by4 := heap_alloc_new _ _
  clear hm hb ho
  generalize b.take m = B at *
  generalize b.length = L at *
  by_cases h4 : m < 4
  · have h4i : (m : Int) < 4 := by omega
    have HR := Lib.hid hr1
    clear hr1
    go_enter Tryd.func5, Tryd.ntmps5
    go_wp2_with fail
    refine (tells_walk _ (hT.below hb1 h0)).mono ?_
    rintro e w2 ⟨rfl, hb2⟩
    have hbel2 : Below w.heap.size w w2 := hb1.trans (hb2.mono (by simp))
    go_wp2_with fail
    go_ret
    exact ⟨rfl, hbel2⟩
  · obtain ⟨k, hk⟩ : ∃ k, k = z % (m - 3) := ⟨_, rfl⟩
    have hkm : k < m - 3 := by rw [hk]; exact Nat.mod_lt _ (by omega)
    have hki : (z : Int) % ((m : Int) - 3) = (k : Int) := by
      rw [hk, show (m : Int) - 3 = ((m - 3 : Nat) : Int) by omega]; rfl
    have HI := Lib.hid (burst_iff B by4 k (by rw [HLT.out]; omega) HO.out)
    have HS1 : Hid (SlW (w.alloc (.cells (bcells by4) 37)) (.slice p m cap) B) := Lib.hid (HB.out.below hb1 (Nat.le_refl _))
    have h4i : (4 : Int) ≤ (m : Int) := by omega
    have hp3 : (0 : Int) < (m : Int) - 3 := by omega
    clear hk h4
    go_enter Tryd.func5, Tryd.ntmps5
    go_wp2_with (refine wpList_appB rfl (.const (.slice none 0 0)) (.tmp 19) rfl (w.heap.size + 1) _ _ [] B rfl rfl (OwnB.nil _ _) HS1.out (by simp) (by rw [HLT.out]; simp; omega) ?_; intro v1 w1 hown1 hg1)
    rw [hki]
    have hb2 : Below w.heap.size w w1 := hb1.trans (grown_below hg1 (by simp) (fun k hk => by cases hk))
    have hr2 : RowT 37 w1 w.heap.size by4 := hr1.below (B := w.heap.size + 1) (grown_below hg1 (by simp) (fun k hk => by cases hk)) (by omega)
    rw [List.nil_append] at hown1
    obtain ⟨g1, cap1, rfl, hge, hlt1, hc1, hc2, _, _, _⟩ := hown1.spot (by rw [HLT.out]; omega)
    have HOW := Lib.hid hown1
    clear hown1 hg1 hr1 hb1 hki hsl hmi
    rw [HLT.out] at hc1 HOW ⊢
    have hz0 : (0 : Int) ≤ (z : Int) := by omega
    go_loopw [9, 27] (fun _ v wr => BurstRel w (.slice (some ⟨g1, 0, none⟩) m cap1) B by4 k v wr) (fun _ v _ => 4 - (intOf v).toNat)
    case atStart => exact ⟨0, by omega, rfl, HOW.out, hr2, hb2⟩
    case round =>
      clear HOW hr2 hb2
      obtain ⟨i, hi, rfl, hown, hrow, hbel⟩ := hrel
      by_cases hlt : i < 4
      · obtain ⟨g', cap', e1, _, _, _, _, hcell, hfree, hset⟩ := hown.spot (by rw [burstTo_length, HLT.out]; omega)
        obtain ⟨rfl, -, rfl⟩ : g1 = g' ∧ m = _ ∧ cap1 = cap' := by simpa using e1
        have c1 := hcell (k + i) (by rw [burstTo_length, HLT.out]; omega)
        have f1 := hfree (k + i)
        have c2 := hrow.cell i (by rw [HO.out]; exact hlt)
        have HX : Hid (burstTo B by4 k (i + 1) = (burstTo B by4 k i).set (k + i) ((burstTo B by4 k i).getD (k + i) 0 ^^^ by4.getD i 0)) := Lib.hid rfl
        have HS := Lib.hid (hset (k + i) ((burstTo B by4 k i).getD (k + i) 0 ^^^ by4.getD i 0) (by rw [burstTo_length, HLT.out]; omega))
        have HR := Lib.hid hrow
        have hne : w.heap.size ≠ g1 := by omega
        clear hown e1 hcell hfree hset hrow HI
        generalize (burstTo B by4 k i).getD (k + i) 0 = x at *
        generalize by4.getD i 0 = y at *
        have u1 := u8_xor_bi x y
        have hli : (i : Int) < 4 := by omega
        have al : Tryd.prog.arrayLen 37 = 4 := by kernel_rfl
        go_wp2_with fail
        have s1 : IntKind.i64.wrap ((k : Int) + (i : Int)) = (k : Int) + (i : Int) := IntWalk.i64_in _ (by omega)
        have s2 : (0 : Int) ≤ (k : Int) + (i : Int) := by omega
        have s3 : ((k : Int) + (i : Int)).toNat = k + i := by omega
        have s4 : (k : Int) + (i : Int) < (m : Int) := by omega
        go_region
        clear s1 s2 s3 s4
        go_wp2_with fail
        refine ⟨⟨i + 1, by omega, by go_num, ?_, ?_, ?_⟩, by simp [intOf]; omega⟩
        · rw [HX.out]; exact HS.out.drew
        · exact (heap_setCell_other _ _ _ _ hne).trans HR.out
        · exact below_drew (hbel.setCell (by show w.heap.size ≤ g1; omega) _)
      · obtain rfl : i = 4 := by omega
        have hli : (4 : Int) ≤ (4 : Int) := by omega
        have hTW := hT.below hbel h0
        have hB0 : SlW wr (.slice p m cap) B := HB.out.below hbel (Nat.le_refl _)
        have hO0 := hown.toW
        have HOL : Hid ((burstTo B by4 k 4).length = m) := Lib.hid (by rw [burstTo_length]; exact HLT.out)
        have HQ : Hid (∀ wx, Below wr.heap.size wr wx → BoolPost true w (.returned (.bool true)) wx) := Lib.hid (fun wx h => ⟨rfl, hbel.trans (h.mono hbel.size)⟩)
        clear hown
        generalize burstTo B by4 k 4 = O at *
        go_wp2_with fail
        refine wp_region_inv (by kernel_rfl) (by kernel_rfl) (BaseW wr.drew) StepW (VV [.eq (.slice p m cap), .parts [(.slice p m cap, B)], .eq (.int .u32 (iv (crcL (cat [(.slice p m cap, B)])))), .eq (.slice (some ⟨g1, 0, none⟩) m cap1), .parts [(.slice (some ⟨g1, 0, none⟩) m cap1, O)], .eq (.int .u32 (iv (crcL (cat [(.slice (some ⟨g1, 0, none⟩) m cap1, O)])))), .eq (.bool (iv (crcL B) == iv (crcL O))), .eq (.agg (bcells by4)), .eq (.agg (bcells [0, 0, 0, 0])), .eq (.bool (by4 == [0, 0, 0, 0])), .eq (.bool true), .eq (.bool true), .eq (.bool true), .eq (.bool true), .eq (.bool true)]) (VV.mono _) (Below.refl _ _) ?_ ?_
        · refine ⟨ok_move (.inl rfl) _ rfl _ rfl rfl fun x y hL _ hD => hL.rest 0 (by kernel_rfl),
          ok_build (.inl rfl) _ [(.slice p m cap, B)] (by simp) (by simp) rfl rfl rfl fun x y hL hB hD => ⟨one_part (hD.1 rfl), one_slw (W0 := wr.drew) hB0 hB⟩,
          ok_of (.inl rfl) _ _ rfl [(.slice p m cap, B)] hTW (by rw [cat_one, HLT.out]; omega) (by simp) rfl rfl fun x y hL hB hD => (hD.1 rfl),
          ok_move (.inl rfl) _ rfl _ rfl rfl fun x y hL _ hD => hL.rest 7 (by kernel_rfl),
          ok_build (.inl rfl) _ [(.slice (some ⟨g1, 0, none⟩) m cap1, O)] (by simp) (by simp) rfl rfl rfl fun x y hL hB hD => ⟨one_part (hD.1 rfl), one_slw (W0 := wr.drew) hO0 hB⟩,
          ok_of (.inl rfl) _ _ rfl [(.slice (some ⟨g1, 0, none⟩) m cap1, O)] hTW (by rw [cat_one, HOL.out]; omega) (by simp) rfl rfl fun x y hL hB hD => (hD.1 rfl),
          ok_run (.inl rfl) _ rfl rfl fun x y hL hB hD => (run_eql32 (.tmp 44) (.tmp 47) rfl (iv (crcL (cat [(.slice p m cap, B)]))) (iv (crcL (cat [(.slice (some ⟨g1, 0, none⟩) m cap1, O)]))) (hD.1 rfl) (hD.2.1 rfl)).trans (by rw [cat_one, cat_one]),
          ok_run (.inl rfl) _ rfl rfl fun x y hL hB hD => run_load37 (.tmp 5) rfl w.heap.size 37 by4 HO.out (hL.rest 5 (by kernel_rfl)) (hrow.below (of_drew hB) hrow.lt),
          ok_run (.inl rfl) _ rfl rfl fun x y hL hB hD => run_zero37 rfl,
          ok_run (.inl rfl) _ rfl rfl fun x y hL hB hD => run_eql37 (.tmp 49) (.tmp 50) rfl by4 [0, 0, 0, 0] HO.out rfl (hD.1 rfl) (hD.2.1 rfl),
          ok_run (.inl rfl) _ rfl rfl fun x y hL hB hD => (run_eql_bool (.tmp 48) (.tmp 51) rfl (iv (crcL B) == iv (crcL O)) (by4 == [0, 0, 0, 0]) (hD.1 rfl) (hD.2.1 rfl)).trans (by rw [HI.out, beq_self_eq_true]),
          ok_move (.inl rfl) _ rfl _ rfl rfl fun x y hL _ hD => hD.1 rfl,
          ok_tells (.inr ⟨11, true, rfl, fun x y hL _ hD => hD.1 rfl⟩) _ rfl hTW rfl rfl,
          ok_pick (.inl rfl) _ _ _ rfl _ rfl rfl fun x y hL _ hD => ⟨hD.1 rfl, hD.2.1 rfl⟩,
          ok_assign (.inl rfl) _ rfl _ rfl rfl fun x y hL _ hD => hD.1 rfl, trivial⟩
        · intro a' w' hL hB hV
          have h6 : a'.eval (.tmp 6) = .bool true := hV 14 (of_decide_eq_true (by kernel_rfl))
          refine (by assumption : ∀ (a : Act) (wx : World), Code.wp Tryd.prog Code.ret (bodyPost Tryd.prog Tryd.f5 (BoolPost true w)) a wx → _) a' w' ?_
          exact law_end5 h6 hL.defers (HQ.out w' (of_drew hB))
end Go.Proofs.YtehajghnjbhfeaaDoor
