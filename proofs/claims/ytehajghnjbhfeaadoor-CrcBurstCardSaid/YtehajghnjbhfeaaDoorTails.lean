/-
  The law CrcTails walked.
-/
import Derived.Test.YtehajghnjbhfeaaDoorTail
namespace Go.Proofs.YtehajghnjbhfeaaDoor
open Go.RowKit Crc Inv

theorem tailL_length (s t : W) : (tailL s t).length = 4 := rfl
theorem crc_on (b c : List UInt8) : crcL (b ++ c) = on (crcL b) c := on_append _ _ _
theorem tails_iff (b other : List UInt8) (want : W) (ho : other.length = 4) : (iv (crcL (b ++ other)) == iv want) = (other == tailL (crcL b) want) := by
  obtain ⟨x, y, z, u, rfl⟩ : ∃ x y z u, other = [x, y, z, u] := by
    match other, ho with
    | [x, y, z, u], _ => exact ⟨x, y, z, u, rfl⟩
  rw [crc_on]
  have h1 := on_tail (crcL b) want
  by_cases h : on (crcL b) [x, y, z, u] = want
  · rw [h, beq_self_eq_true]
    symm
    rw [beq_iff_eq]
    have h2 : on (crcL b) [x, y, z, u] = on (crcL b) (tailL (crcL b) want) := by rw [h, h1]
    obtain ⟨rfl, rfl, rfl, rfl⟩ := (on_four _ _ _ _ _ _ _ _ _).1 h2
    rfl
  · rw [iv_beq _ _ h]
    symm
    rw [beq_eq_false_iff_ne]
    intro e
    rw [e] at h
    exact h h1
theorem law_end4 {R : Ending → World → Prop} {a : Act} {w : World} (h6 : a.eval (.tmp 6) = .bool true) (hd : a.defers = []) (h : R (.returned (.bool true)) w) : Code.wp Tryd.prog Code.ret (bodyPost Tryd.prog Tryd.f4 R) a w := by
  refine wp_ret (bodyPost_ret (v := .bool true) ?_ hd h)
  have h6' : a.tmps.getD 6 undef = .bool true := h6
  simp [results, Tryd.results4, go_sem]
  simpa using h6'
theorem cat_two (v u : Value) (b c : List UInt8) : cat [(v, b), (u, c)] = b ++ c := by simp [cat]
set_option maxRecDepth 100000 in
set_option maxHeartbeats 1000000 in
theorem tails_walk (w : World) (p : Option Addr) (cap : Nat) (b : List UInt8) (hb : SlW w (.slice p b.length cap) b) (want : W) (other : List UInt8) (ho : other.length = 4) (hT : TAt w) :
    Calls Tryd.prog 4 #[.slice p b.length cap, .int .u32 (iv want), .agg (bcells other)] w (BoolPost true w) := by
  have h0 := hT.lt
  obtain ⟨m, hm⟩ : ∃ m, m = min b.length 1000 := ⟨_, rfl⟩
  have hmi : min (b.length : Int) 1000 = (m : Int) := by omega
  have hmb : m ≤ b.length := by omega
  have hm1 : m ≤ 1000 := by omega
  have hsl := slice_to p b.length cap m b hb hmb
  have HB := Lib.hid (hb.take m hmb)
  have HLT : Hid ((b.take m).length = m) := Lib.hid (by simp; omega)
  have HO := Lib.hid ho
  clear hm hb ho
  generalize b.take m = B at *
  generalize b.length = L at *
  go_enter Tryd.func4, Tryd.ntmps4
  go_wp2_with fail
  have hb1 : Below w.heap.size w ((w.alloc (.cells (bcells other) 37)).alloc (.cells #[.slice p m cap] 27)) := ((Below.refl _ _).alloc (Nat.le_refl _) _).alloc (by simp) _
  have hP1 : PAt ((w.alloc (.cells (bcells other) 37)).alloc (.cells #[.slice p m cap] 27)) (.slice (some ⟨w.heap.size + 1, 0, none⟩) 1 1) [(.slice p m cap, B)] := by
    have h := pat_row (w := w.alloc (.cells (bcells other) 37)) [(.slice p m cap, B)] (fun x hx => by
      obtain rfl := List.mem_singleton.1 hx
      exact HB.out.below ((Below.refl _ _).alloc (Nat.le_refl _) _) (Nat.le_refl _)) 27 (0, 0)
    rw [size_alloc] at h
    exact h
  have hr1 : RowT 37 ((w.alloc (.cells (bcells other) 37)).alloc (.cells #[.slice p m cap] 27)) w.heap.size other := heap_alloc2_old _ _ _
  refine (of_walk _ _ _ hP1 (hT.below hb1 h0) (by rw [cat_one, HLT.out]; omega) (by simp)).mono ?_
  rintro e w2 ⟨rfl, hb2⟩
  rw [cat_one]
  have hz1 := hb1.size
  have hbel2 : Below w.heap.size w w2 := hb1.trans (hb2.mono hz1)
  have hr2 : RowT 37 w2 w.heap.size other := hr1.below hb2 hr1.lt
  clear hb1 hP1 hr1 hb2 hz1 hsl hmi
  go_wp2_with fail
  refine (tail_walk _ _ _).mono ?_
  rintro e w3 ⟨rfl, hb3⟩
  have hbel3 : Below w.heap.size w w3 := hbel2.trans (hb3.mono hbel2.size)
  have hr3 : RowT 37 w3 w.heap.size other := hr2.below hb3 hr2.lt
  clear hb3 hr2 hbel2
  obtain ⟨c0, c1, c2, c3, hc⟩ : ∃ c0 c1 c2 c3, tailL (crcL B) want = [c0, c1, c2, c3] := ⟨_, _, _, _, rfl⟩
  have HI := Lib.hid (tails_iff B other want HO.out)
  have HJ := Lib.hid (tails_iff B (tailL (crcL B) want) want rfl)
  rw [hc] at HI HJ ⊢
  clear hc
  rw [show bcells [c0, c1, c2, c3] = #[.int .u8 (bi c0), .int .u8 (bi c1), .int .u8 (bi c2), .int .u8 (bi c3)] from rfl]
  go_wp2_with fail
  obtain ⟨G, hG⟩ : ∃ G, G = w3.heap.size := ⟨_, rfl⟩
  have hbel4 : Below w.heap.size w (w3.alloc (.cells #[.int .u8 (bi c0), .int .u8 (bi c1), .int .u8 (bi c2), .int .u8 (bi c3)] 37)) := hbel3.alloc hbel3.size _
  have hr4 : RowT 37 (w3.alloc (.cells #[.int .u8 (bi c0), .int .u8 (bi c1), .int .u8 (bi c2), .int .u8 (bi c3)] 37)) w.heap.size other := hr3.below ((Below.refl _ _).alloc (Nat.le_refl _) _) hr3.lt
  have hr5 : RowT 37 (w3.alloc (.cells #[.int .u8 (bi c0), .int .u8 (bi c1), .int .u8 (bi c2), .int .u8 (bi c3)] 37)) G [c0, c1, c2, c3] := by rw [hG]; exact heap_alloc_new _ _
  generalize w3.alloc (.cells #[.int .u8 (bi c0), .int .u8 (bi c1), .int .u8 (bi c2), .int .u8 (bi c3)] 37) = W0 at *
  rw [← hG]
  clear hG hr3 hbel3
  have hTW := hT.below hbel4 h0
  have hB0 : SlW W0 (.slice p m cap) B := HB.out.below hbel4 (Nat.le_refl _)
  have hT0 : SlW W0 (.slice (some ⟨G, 0, none⟩) 4 4) [c0, c1, c2, c3] := .inl ⟨G, 0, 4, rfl, Nat.le_refl _, hr5.bytes⟩
  have hO0 : SlW W0 (.slice (some ⟨w.heap.size, 0, none⟩) 4 4) other := .inl ⟨w.heap.size, 0, 4, by rw [HO.out], by rw [HO.out]; exact Nat.le_refl _, hr4.bytes⟩
  have HQ : Hid (∀ wx, Below W0.heap.size W0 wx → BoolPost true w (.returned (.bool true)) wx) := Lib.hid (fun wx h => ⟨rfl, hbel4.trans (h.mono hbel4.size)⟩)
  refine wp_region_inv (by kernel_rfl) (by kernel_rfl) (BaseW W0.drew) StepW (VV [.eq (.slice p m cap), .eq (.slice (some ⟨G, 0, none⟩) 4 4), .parts [(.slice p m cap, B), (.slice (some ⟨G, 0, none⟩) 4 4, [c0, c1, c2, c3])], .eq (.int .u32 (iv (crcL (cat [(.slice p m cap, B), (.slice (some ⟨G, 0, none⟩) 4 4, [c0, c1, c2, c3])])))), .eq (.int .u32 (iv want)), .eq (.bool true), .eq (.bool true), .eq (.slice p m cap), .eq (.slice (some ⟨w.heap.size, 0, none⟩) 4 4), .parts [(.slice p m cap, B), (.slice (some ⟨w.heap.size, 0, none⟩) 4 4, other)], .eq (.int .u32 (iv (crcL (cat [(.slice p m cap, B), (.slice (some ⟨w.heap.size, 0, none⟩) 4 4, other)])))), .eq (.int .u32 (iv want)), .eq (.bool (iv (crcL (B ++ other)) == iv want)), .eq (.agg (bcells other)), .eq (.agg (bcells [c0, c1, c2, c3])), .eq (.bool (other == [c0, c1, c2, c3])), .eq (.bool true), .eq (.bool true), .eq (.bool true), .eq (.bool true), .eq (.bool true), .eq (.bool true)]) (VV.mono _) (Below.refl _ _) ?_ ?_
  · refine ⟨ok_move (.inl rfl) _ rfl _ rfl rfl fun x y hL _ hD => hL.rest 0 (by kernel_rfl),
          ok_run (.inl rfl) _ rfl rfl fun x y hL hB hD => run_slice37 (.tmp 7) rfl G (hL.rest 7 (by kernel_rfl)),
          ok_build (.inl rfl) _ [(.slice p m cap, B), (.slice (some ⟨G, 0, none⟩) 4 4, [c0, c1, c2, c3])] (by simp) (by simp) rfl rfl rfl fun x y hL hB hD => ⟨two_parts (hD.1 rfl) (hD.2.1 rfl), two_slw (W0 := W0.drew) hB0 hT0 hB⟩,
          ok_of (.inl rfl) _ _ rfl [(.slice p m cap, B), (.slice (some ⟨G, 0, none⟩) 4 4, [c0, c1, c2, c3])] hTW (by rw [cat_two, List.length_append, HLT.out]; simp; omega) (by simp) rfl rfl fun x y hL hB hD => (hD.1 rfl),
          ok_move (.inl rfl) _ rfl _ rfl rfl fun x y hL _ hD => hL.rest 1 (by kernel_rfl),
          ok_run (.inl rfl) _ rfl rfl fun x y hL hB hD => (run_eql32 (.tmp 21) (.tmp 22) rfl (iv (crcL (cat [(.slice p m cap, B), (.slice (some ⟨G, 0, none⟩) 4 4, [c0, c1, c2, c3])]))) (iv want) (hD.1 rfl) (hD.2.1 rfl)).trans (by rw [cat_two, HJ.out, beq_self_eq_true]),
          ok_move (.inl rfl) _ rfl _ rfl rfl fun x y hL _ hD => hD.1 rfl,
          ok_move (.inr ⟨6, true, rfl, fun x y hL _ hD => hD.1 rfl⟩) _ rfl _ rfl rfl fun x y hL _ hD => hL.rest 0 (by kernel_rfl),
          ok_run (.inr ⟨6, true, rfl, fun x y hL _ hD => hD.1 rfl⟩) _ rfl rfl fun x y hL hB hD => run_slice37 (.tmp 5) rfl w.heap.size (hL.rest 5 (by kernel_rfl)),
          ok_build (.inr ⟨6, true, rfl, fun x y hL _ hD => hD.2.2.1 rfl⟩) _ [(.slice p m cap, B), (.slice (some ⟨w.heap.size, 0, none⟩) 4 4, other)] (by simp) (by simp) rfl rfl rfl fun x y hL hB hD => ⟨two_parts (hD.1 rfl) (hD.2.1 rfl), two_slw (W0 := W0.drew) hB0 hO0 hB⟩,
          ok_of (.inr ⟨6, true, rfl, fun x y hL _ hD => hD.2.1 rfl⟩) _ _ rfl [(.slice p m cap, B), (.slice (some ⟨w.heap.size, 0, none⟩) 4 4, other)] hTW (by rw [cat_two, List.length_append, HLT.out, HO.out]; omega) (by simp) rfl rfl fun x y hL hB hD => (hD.1 rfl),
          ok_move (.inr ⟨6, true, rfl, fun x y hL _ hD => hD.1 rfl⟩) _ rfl _ rfl rfl fun x y hL _ hD => hL.rest 1 (by kernel_rfl),
          ok_run (.inr ⟨6, true, rfl, fun x y hL _ hD => hD.2.2.1 rfl⟩) _ rfl rfl fun x y hL hB hD => (run_eql32 (.tmp 28) (.tmp 29) rfl (iv (crcL (cat [(.slice p m cap, B), (.slice (some ⟨w.heap.size, 0, none⟩) 4 4, other)]))) (iv want) (hD.1 rfl) (hD.2.1 rfl)).trans (by rw [cat_two]),
          ok_run (.inr ⟨6, true, rfl, fun x y hL _ hD => hD.1 rfl⟩) _ rfl rfl fun x y hL hB hD => run_load37 (.tmp 5) rfl w.heap.size 37 other HO.out (hL.rest 5 (by kernel_rfl)) (hr4.below (of_drew hB) hr4.lt),
          ok_run (.inr ⟨6, true, rfl, fun x y hL _ hD => hD.1 rfl⟩) _ rfl rfl fun x y hL hB hD => run_load37 (.tmp 7) rfl G 37 [c0, c1, c2, c3] rfl (hL.rest 7 (by kernel_rfl)) (hr5.below (of_drew hB) hr5.lt),
          ok_run (.inr ⟨6, true, rfl, fun x y hL _ hD => hD.2.2.1 rfl⟩) _ rfl rfl fun x y hL hB hD => run_eql37 (.tmp 31) (.tmp 32) rfl other [c0, c1, c2, c3] HO.out rfl (hD.1 rfl) (hD.2.1 rfl),
          ok_run (.inr ⟨6, true, rfl, fun x y hL _ hD => hD.2.2.1 rfl⟩) _ rfl rfl fun x y hL hB hD => (run_eql_bool (.tmp 30) (.tmp 33) rfl (iv (crcL (B ++ other)) == iv want) (other == [c0, c1, c2, c3]) (hD.1 rfl) (hD.2.1 rfl)).trans (by rw [HI.out, beq_self_eq_true]),
          ok_pick (.inl rfl) _ _ _ rfl _ rfl rfl fun x y hL _ hD => ⟨hD.1 rfl, hD.2.1 rfl⟩,
          ok_move (.inl rfl) _ rfl _ rfl rfl fun x y hL _ hD => hD.1 rfl,
          ok_tells (.inr ⟨18, true, rfl, fun x y hL _ hD => hD.1 rfl⟩) _ rfl hTW rfl rfl,
          ok_pick (.inl rfl) _ _ _ rfl _ rfl rfl fun x y hL _ hD => ⟨hD.1 rfl, hD.2.1 rfl⟩,
          ok_assign (.inl rfl) _ rfl _ rfl rfl fun x y hL _ hD => hD.1 rfl, trivial⟩
  · intro a' w' hL hB hV
    have h6 : a'.eval (.tmp 6) = .bool true := hV 21 (of_decide_eq_true (by kernel_rfl))
    refine (by assumption : ∀ (a : Act) (wx : World), Code.wp Tryd.prog Code.ret (bodyPost Tryd.prog Tryd.f4 (BoolPost true w)) a wx → _) a' w' ?_
    exact law_end4 h6 hL.defers (HQ.out w' (of_drew hB))
end Go.Proofs.YtehajghnjbhfeaaDoor
