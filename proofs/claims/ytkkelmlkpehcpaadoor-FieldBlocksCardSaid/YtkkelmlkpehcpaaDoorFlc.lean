/-
  The document's own Check.
-/
import Derived.Test.YtkkelmlkpehcpaaDoorFlb
import Derived.Test.YtkkelmlkpehcpaaDoorFnd
namespace Go.Proofs.YtkkelmlkpehcpaaDoor
open Go.RowKit

theorem magic_or (l : List UInt8) : (fpart l 257 6 = [117, 115, 116, 97, 114, 0] ∧ magicB l = true) ∨ (fpart l 257 6 = [117, 115, 116, 97, 114, 32] ∧ magicB l = true) ∨ (fpart l 257 6 ≠ [117, 115, 116, 97, 114, 0] ∧ fpart l 257 6 ≠ [117, 115, 116, 97, 114, 32] ∧ magicB l = false) := by
  unfold magicB
  by_cases h1 : fpart l 257 6 = [117, 115, 116, 97, 114, 0]
  · exact .inl ⟨h1, by rw [h1]; rfl⟩
  · by_cases h2 : fpart l 257 6 = [117, 115, 116, 97, 114, 32]
    · exact .inr (.inl ⟨h2, by rw [h2]; rfl⟩)
    · exact .inr (.inr ⟨h1, h2, by rw [Bool.or_eq_false_iff, beq_eq_false_iff_ne, beq_eq_false_iff_ne]; exact ⟨h1, h2⟩⟩)
set_option maxRecDepth 100000 in
set_option maxHeartbeats 2000000 in
theorem rcheck_walk (w : World) (l : List UInt8) (hl : l.length = 512) :
    Calls Tryd.prog 27 #[.agg (bl l).toArray] w (CheckPost l w) := by
  have HL := Lib.hid hl
  have HI0 := Lib.hid (bl_size39 l hl)
  obtain ⟨W, hW⟩ : ∃ W, w.alloc (.cells (bl l).toArray 39) = W := ⟨_, rfl⟩
  have HX : Hid (W.heap[w.heap.size]? = some (.cells (bl l).toArray 39 (0, 0))) := Lib.hid (by rw [← hW]; exact heap_alloc_new _ _)
  have HB : Hid (Below w.heap.size w W) := Lib.hid (by rw [← hW]; exact (Below.refl _ _).alloc (Nat.le_refl _) _)
  have HLT : Hid (w.heap.size < W.heap.size) := Lib.hid (by rw [← hW]; simp)
  have HW := Lib.hid hW
  have hrow : RowAt W w.heap.size 0 (bl l) := fun i v hi => by rw [Nat.zero_add, cell_of_row _ _ _ _ _ _ HX.out]; simpa using hi
  have piece : ∀ p n c : Nat, p + n ≤ 512 → n ≤ c → SlV W (.slice (some ⟨w.heap.size, p, none⟩) n c) (bl (fpart l p n)) := fun p n c hp hc => by
    have hfl : (fpart l p n).length = n := by simp [fpart, hl]; omega
    have := (hrow.drop p).take n
    rw [bl_drop, bl_take, Nat.zero_add] at this
    exact .inl ⟨w.heap.size, p, c, by rw [bl_length, hfl], by rw [bl_length, hfl]; exact hc, this⟩
  have HS := Lib.hid (piece 148 8 364 (by decide) (by decide))
  have HM := Lib.hid (piece 257 6 255 (by decide) (by decide))
  have hs1 : ∀ w', (Instr.sliceAt 39 (.pointer (some ⟨w.heap.size, 0, none⟩)) (some (.int .i64 148)) (some (.int .i64 156)) none).run Tryd.prog w' = .ok (.slice (some ⟨w.heap.size, 148, none⟩) 8 364) w' := fun w' => slice_lh Tryd.underlying39 arr39 elm39 w.heap.size 148 156 (by decide) (by decide) (by decide) w'
  have hs2 : ∀ w', (Instr.sliceAt 39 (.pointer (some ⟨w.heap.size, 0, none⟩)) (some (.int .i64 257)) (some (.int .i64 263)) none).run Tryd.prog w' = .ok (.slice (some ⟨w.heap.size, 257, none⟩) 6 255) w' := fun w' => slice_lh Tryd.underlying39 arr39 elm39 w.heap.size 257 263 (by decide) (by decide) (by decide) w'
  obtain ⟨x, e, he⟩ : ∃ x e, Fx.num (fpart l 148 8) = (x, e) := ⟨_, _, rfl⟩
  have HE := Lib.hid he
  clear hW he hl hrow piece
  have hmor := magic_or l
  unfold CheckPost
  by_cases h1 : e = 0
  · subst h1
    rcases hmor with ⟨hz, hm⟩ | ⟨hz, hm⟩ | ⟨hz1, hz2, hm⟩
    · have HMB := Lib.hid hm
      rw [hz] at HM
      clear hz hm
      by_cases hx : x = (sumF l : Int)
      · subst hx
        have HK : Hid (checkF l = 0) := Lib.hid (by unfold checkF; rw [if_neg (by rw [HE.out, HMB.out]; simp), if_neg (by rw [HE.out]; simp)])
        rw [HK.out]
        go_enter Tryd.func27, Tryd.ntmps27
        go_wp2_with (first
          | (rw [HW.out])
          | ((with_reducible refine (rnumber_walk W _ _ HS.out).mono ?_); unfold RNumPost; rw [HE.out]; rintro e' w2 ⟨rfl, b2⟩; have T2 : Hid (Below w.heap.size w w2) := Lib.hid (HB.out.trans (b2.mono HB.out.size)); have c1 := run_toString (HM.out.below b2 (Nat.le_refl _)); have H2 : Hid (w2.heap[w.heap.size]? = some (.cells (bl l).toArray 39 (0, 0))) := Lib.hid ((b2.block _ HLT.out).trans HX.out); clear b2)
          | (refine wpList_load_row rfl 39 _ rfl w.heap.size rfl 39 (bl l).toArray (0, 0) _ H2.out Tryd.underlying39 rfl HI0.out ?_)
          | ((with_reducible refine (rsum_walk w2 l HL.out).mono ?_); rintro e' w3 ⟨rfl, b3⟩; have T3 : Hid (Below w.heap.size w w3) := Lib.hid (T2.out.trans (b3.mono T2.out.size)); clear b3))
        go_ret
        exact ⟨rfl, T3.out⟩
      · have HK : Hid (checkF l = 21) := Lib.hid (by unfold checkF; rw [if_neg (by rw [HE.out, HMB.out]; simp), if_pos (by rw [HE.out]; exact hx)])
        have t1 : (x == (sumF l : Int)) = false := by rw [beq_eq_false_iff_ne]; exact hx
        have t2 : (x != (sumF l : Int)) = true := by rw [bne_iff_ne]; exact hx
        rw [HK.out]
        clear hx
        go_enter Tryd.func27, Tryd.ntmps27
        go_wp2_with (first
          | (rw [HW.out])
          | ((with_reducible refine (rnumber_walk W _ _ HS.out).mono ?_); unfold RNumPost; rw [HE.out]; rintro e' w2 ⟨rfl, b2⟩; have T2 : Hid (Below w.heap.size w w2) := Lib.hid (HB.out.trans (b2.mono HB.out.size)); have c1 := run_toString (HM.out.below b2 (Nat.le_refl _)); have H2 : Hid (w2.heap[w.heap.size]? = some (.cells (bl l).toArray 39 (0, 0))) := Lib.hid ((b2.block _ HLT.out).trans HX.out); clear b2)
          | (refine wpList_load_row rfl 39 _ rfl w.heap.size rfl 39 (bl l).toArray (0, 0) _ H2.out Tryd.underlying39 rfl HI0.out ?_)
          | ((with_reducible refine (rsum_walk w2 l HL.out).mono ?_); rintro e' w3 ⟨rfl, b3⟩; have T3 : Hid (Below w.heap.size w w3) := Lib.hid (T2.out.trans (b3.mono T2.out.size)); clear b3))
        go_ret
        exact ⟨rfl, T3.out⟩
    · have HMB := Lib.hid hm
      rw [hz] at HM
      clear hz hm
      by_cases hx : x = (sumF l : Int)
      · subst hx
        have HK : Hid (checkF l = 0) := Lib.hid (by unfold checkF; rw [if_neg (by rw [HE.out, HMB.out]; simp), if_neg (by rw [HE.out]; simp)])
        rw [HK.out]
        go_enter Tryd.func27, Tryd.ntmps27
        go_wp2_with (first
          | (rw [HW.out])
          | ((with_reducible refine (rnumber_walk W _ _ HS.out).mono ?_); unfold RNumPost; rw [HE.out]; rintro e' w2 ⟨rfl, b2⟩; have T2 : Hid (Below w.heap.size w w2) := Lib.hid (HB.out.trans (b2.mono HB.out.size)); have c1 := run_toString (HM.out.below b2 (Nat.le_refl _)); have H2 : Hid (w2.heap[w.heap.size]? = some (.cells (bl l).toArray 39 (0, 0))) := Lib.hid ((b2.block _ HLT.out).trans HX.out); clear b2)
          | (refine wpList_load_row rfl 39 _ rfl w.heap.size rfl 39 (bl l).toArray (0, 0) _ H2.out Tryd.underlying39 rfl HI0.out ?_)
          | ((with_reducible refine (rsum_walk w2 l HL.out).mono ?_); rintro e' w3 ⟨rfl, b3⟩; have T3 : Hid (Below w.heap.size w w3) := Lib.hid (T2.out.trans (b3.mono T2.out.size)); clear b3))
        go_ret
        exact ⟨rfl, T3.out⟩
      · have HK : Hid (checkF l = 21) := Lib.hid (by unfold checkF; rw [if_neg (by rw [HE.out, HMB.out]; simp), if_pos (by rw [HE.out]; exact hx)])
        have t1 : (x == (sumF l : Int)) = false := by rw [beq_eq_false_iff_ne]; exact hx
        have t2 : (x != (sumF l : Int)) = true := by rw [bne_iff_ne]; exact hx
        rw [HK.out]
        clear hx
        go_enter Tryd.func27, Tryd.ntmps27
        go_wp2_with (first
          | (rw [HW.out])
          | ((with_reducible refine (rnumber_walk W _ _ HS.out).mono ?_); unfold RNumPost; rw [HE.out]; rintro e' w2 ⟨rfl, b2⟩; have T2 : Hid (Below w.heap.size w w2) := Lib.hid (HB.out.trans (b2.mono HB.out.size)); have c1 := run_toString (HM.out.below b2 (Nat.le_refl _)); have H2 : Hid (w2.heap[w.heap.size]? = some (.cells (bl l).toArray 39 (0, 0))) := Lib.hid ((b2.block _ HLT.out).trans HX.out); clear b2)
          | (refine wpList_load_row rfl 39 _ rfl w.heap.size rfl 39 (bl l).toArray (0, 0) _ H2.out Tryd.underlying39 rfl HI0.out ?_)
          | ((with_reducible refine (rsum_walk w2 l HL.out).mono ?_); rintro e' w3 ⟨rfl, b3⟩; have T3 : Hid (Below w.heap.size w w3) := Lib.hid (T2.out.trans (b3.mono T2.out.size)); clear b3))
        go_ret
        exact ⟨rfl, T3.out⟩
    · have HK : Hid (checkF l = 5) := Lib.hid (if_pos (.inr hm))
      rw [HK.out]
      generalize fpart l 257 6 = Z at *
      have t1 : ((⟨Z.toArray⟩ : ByteArray).toList == (⟨#[117, 115, 116, 97, 114, 0]⟩ : ByteArray).toList) = false := beq_no (fun h => hz1 (by have := congrArg (fun b : ByteArray => b.data.toList) h; simpa using this))
      have t2 : ((⟨Z.toArray⟩ : ByteArray).toList == (⟨#[117, 115, 116, 97, 114, 32]⟩ : ByteArray).toList) = false := beq_no (fun h => hz2 (by have := congrArg (fun b : ByteArray => b.data.toList) h; simpa using this))
      have t3 : (Z == [117, 115, 116, 97, 114, 0]) = false := by rw [beq_eq_false_iff_ne]; exact hz1
      have t4 : (Z == [117, 115, 116, 97, 114, 32]) = false := by rw [beq_eq_false_iff_ne]; exact hz2
      clear hz1 hz2 hm
      go_enter Tryd.func27, Tryd.ntmps27
      go_wp2_with (first
        | (rw [HW.out])
        | ((with_reducible refine (rnumber_walk W _ _ HS.out).mono ?_); unfold RNumPost; rw [HE.out]; rintro e' w2 ⟨rfl, b2⟩; have T2 : Hid (Below w.heap.size w w2) := Lib.hid (HB.out.trans (b2.mono HB.out.size)); have c1 := run_toString (HM.out.below b2 (Nat.le_refl _)); have H2 : Hid (w2.heap[w.heap.size]? = some (.cells (bl l).toArray 39 (0, 0))) := Lib.hid ((b2.block _ HLT.out).trans HX.out); clear b2)
        | (refine wpList_load_row rfl 39 _ rfl w.heap.size rfl 39 (bl l).toArray (0, 0) _ H2.out Tryd.underlying39 rfl HI0.out ?_)
        | ((with_reducible refine (rsum_walk w2 l HL.out).mono ?_); rintro e' w3 ⟨rfl, b3⟩; have T3 : Hid (Below w.heap.size w w3) := Lib.hid (T2.out.trans (b3.mono T2.out.size)); clear b3))
      go_ret
      exact ⟨rfl, T2.out⟩
  · have HK : Hid (checkF l = 5) := Lib.hid (if_pos (.inl (by rw [HE.out]; exact h1)))
    rw [HK.out]
    have t1 : (e != 0) = true := by rw [bne_iff_ne]; exact h1
    have t2 : (e == 0) = false := by rw [beq_eq_false_iff_ne]; exact h1
    clear h1 hmor
    go_enter Tryd.func27, Tryd.ntmps27
    go_wp2_with (first
      | (rw [HW.out])
      | ((with_reducible refine (rnumber_walk W _ _ HS.out).mono ?_); unfold RNumPost; rw [HE.out]; rintro e' w2 ⟨rfl, b2⟩; have T2 : Hid (Below w.heap.size w w2) := Lib.hid (HB.out.trans (b2.mono HB.out.size)); have c1 := run_toString (HM.out.below b2 (Nat.le_refl _)); have H2 : Hid (w2.heap[w.heap.size]? = some (.cells (bl l).toArray 39 (0, 0))) := Lib.hid ((b2.block _ HLT.out).trans HX.out); clear b2)
      | (refine wpList_load_row rfl 39 _ rfl w.heap.size rfl 39 (bl l).toArray (0, 0) _ H2.out Tryd.underlying39 rfl HI0.out ?_)
      | ((with_reducible refine (rsum_walk w2 l HL.out).mono ?_); rintro e' w3 ⟨rfl, b3⟩; have T3 : Hid (Below w.heap.size w w3) := Lib.hid (T2.out.trans (b3.mono T2.out.size)); clear b3))
    go_ret
    exact ⟨rfl, T2.out⟩
end Go.Proofs.YtkkelmlkpehcpaaDoor
