/-
  The law of what is known: PaxKnown.
-/
import Derived.Test.YtfbbccpbedahhaaDoorPyd
namespace Go.Proofs.YtfbbccpbedahhaaDoor
open Go.RowKit Go.Maps

theorem row_str (W : World) (L : List (List UInt8)) (C : Array Value) (hC : C = (L.map (fun l => Value.string ⟨l.toArray⟩)).toArray) (t : TypeId) (j : Nat) (l : List UInt8) (h : L[j]? = some l) : (W.alloc (.cells C t)).cell? ⟨W.heap.size, j, none⟩ = some (.string ⟨l.toArray⟩) := by
  subst hC
  exact (cell_of_row _ _ _ _ _ _ (heap_alloc_new _ _)).trans (by simp [h])
set_option maxRecDepth 100000 in
set_option maxHeartbeats 16000000 in
theorem known_walk (w : World) (hP : PxAt w) : Calls Tryd.prog 9 #[] w (TellsPost w) := by
  unfold TellsPost
  have HQ : Hid (∀ w1, Below w.heap.size w w1 → PxAt w1) := Lib.hid (fun w1 hb => hP.below hb (Nat.le_refl _))
  clear hP
  have kc := conv_const
  obtain ⟨Z, hZ⟩ : ∃ Z, (⟨(List.replicate 256 (0 : UInt8)).toArray⟩ : ByteArray) = Z := ⟨_, rfl⟩
  obtain ⟨C1, hm1, hv1⟩ : ∃ C1 : Array Value, (∀ w : World, (Instr.makeSlice 26 (.int .i64 256) (.int .i64 256)).run Tryd.prog w = .ok (.slice (some ⟨w.heap.size, 0, none⟩) 256 256) (w.alloc (.cells C1 5))) ∧ (∀ w : World, (convert 26 9 (.slice (some ⟨w.heap.size, 0, none⟩) 256 256)).run Tryd.prog (w.alloc (.cells C1 5)) = .ok (.string Z) (w.alloc (.cells C1 5))) :=
    ⟨_, fun w => made_bytes 256 (by decide) w, fun w => by rw [← hZ]; exact made_str 256 w⟩
  obtain ⟨Y, C2, Y2, hyl, hY, hm2, hv2⟩ : ∃ (Y : ByteArray) (C2 : Array Value) (Y2 : List UInt8), Y2.length = 16777216 ∧ (⟨Y2.toArray⟩ : ByteArray) = Y ∧ (∀ w : World, (Instr.makeSlice 26 (.int .i64 16777216) (.int .i64 16777216)).run Tryd.prog w = .ok (.slice (some ⟨w.heap.size, 0, none⟩) 16777216 16777216) (w.alloc (.cells C2 5))) ∧ (∀ w : World, (convert 26 9 (.slice (some ⟨w.heap.size, 0, none⟩) 16777216 16777216)).run Tryd.prog (w.alloc (.cells C2 5)) = .ok (.string Y) (w.alloc (.cells C2 5))) :=
    ⟨_, _, _, List.length_replicate, rfl, fun w => made_bytes 16777216 (by decide) w, fun w => made_str 16777216 w⟩
  have HR1 : Hid (∀ (W : World) (j : Nat) (l : List UInt8), keysL[j]? = some l → (W.alloc (.cells #[.string ⟨#[]⟩, .string ⟨#[97, 61, 98]⟩, .string ⟨#[97, 10]⟩, .string ⟨#[0]⟩, .string Z] 9)).cell? ⟨W.heap.size, j, none⟩ = some (.string ⟨l.toArray⟩)) := Lib.hid (fun W j l h => row_str W keysL _ (by rw [← hZ]; rfl) 9 j l h)
  have HR2 : Hid (∀ (W : World) (j : Nat) (l : List UInt8), formsL[j]? = some l → (W.alloc (.cells #[.string ⟨#[120]⟩, .string ⟨#[48, 32]⟩, .string ⟨#[53, 32, 107, 10]⟩, .string ⟨#[54, 32, 107, 61, 10, 32]⟩, .string ⟨#[52, 32, 107, 61]⟩, .string ⟨#[53, 32, 107, 61, 120]⟩, .string ⟨#[55, 32, 61, 97, 98, 10]⟩, .string ⟨#[57, 32, 107, 61, 97, 98, 99, 100, 101]⟩, .string ⟨#[57, 57, 57, 57, 57, 57, 57, 57, 57, 57, 57, 32]⟩, .string ⟨#[55, 32, 107, 10, 97, 98, 10]⟩, .string ⟨#[54, 32, 107, 61, 118, 10, 120]⟩, .string ⟨#[49, 54, 55, 55, 55, 50, 49, 55, 32]⟩, .string ⟨#[54, 32, 107, 61, 118, 118]⟩, .string ⟨#[49, 48, 32, 112, 97, 116, 104, 61, 97]⟩, .string ⟨#[49, 48, 48, 32]⟩, .string ⟨#[49, 48, 48, 48, 48, 48, 48, 48]⟩] 9)).cell? ⟨W.heap.size, j, none⟩ = some (.string ⟨l.toArray⟩)) := Lib.hid (fun W j l h => row_str W formsL _ rfl 9 j l h)
  have HR3 : Hid (∀ (W : World) (j : Nat) (l : List UInt8), shortsL[j]? = some l → (W.alloc (.cells #[.string ⟨#[49]⟩, .string ⟨#[49, 48]⟩, .string ⟨#[49, 48, 48, 48, 48, 48, 48]⟩, .string ⟨#[54]⟩, .string ⟨#[54, 32]⟩, .string ⟨#[54, 32, 107]⟩, .string ⟨#[54, 32, 107, 61]⟩, .string ⟨#[54, 32, 107, 61, 118]⟩, .string ⟨#[54, 32, 107, 61, 118, 10, 55, 32]⟩, .string ⟨#[49, 50, 32, 107, 61, 97, 61, 98]⟩] 9)).cell? ⟨W.heap.size, j, none⟩ = some (.string ⟨l.toArray⟩)) := Lib.hid (fun W j l h => row_str W shortsL _ rfl 9 j l h)
  clear hZ
  have HBig : Hid (∀ w1, PxAt w1 → Calls Tryd.prog 11 #[.slice (some ⟨w1.heap.size + 1, 0, none⟩) 1 1] ((w1.alloc (.cells C2 5)).alloc (.cells #[.string ⟨#[107]⟩, .string Y] 37)) fun e w' => e = .returned (.tuple #[.slice none 0 0, .int .i64 3]) ∧ Below w1.heap.size w1 w') := Lib.hid (fun w1 hp => by
    have hA : Below w1.heap.size w1 (w1.alloc (.cells C2 5)) := (Below.refl _ _).alloc (Nat.le_refl _) _
    have h := put_big Y2 hyl Y hY (w1.alloc (.cells C2 5)) (hp.below hA (Nat.le_refl _))
    simp only [World.size_alloc] at h
    exact h.mono fun _ _ ⟨h1, h2⟩ => ⟨h1, hA.trans (h2.mono (by omega))⟩)
  clear hyl hY
  have HGA : Hid (∀ w1, PxAt w1 → Calls Tryd.prog 18 #[.slice (some ⟨w1.heap.size, 0, none⟩) 23 23] (w1.alloc (.cells #[.int .u8 54, .int .u8 32, .int .u8 107, .int .u8 61, .int .u8 118, .int .u8 10, .int .u8 49, .int .u8 50, .int .u8 32, .int .u8 107, .int .u8 61, .int .u8 97, .int .u8 61, .int .u8 98, .int .u8 10, .int .u8 0, .int .u8 99, .int .u8 10, .int .u8 53, .int .u8 32, .int .u8 106, .int .u8 61, .int .u8 10] 5 (23, 24))) fun e w' => (∃ u, e = .returned (.tuple #[u, .int .i64 0]) ∧ SlR w' u recsA) ∧ Below w1.heap.size w1 w') := Lib.hid (fun w1 hp => getA w1 hp)
  have HGB : Hid (∀ w1, PxAt w1 → Calls Tryd.prog 18 #[.slice (some ⟨w1.heap.size, 0, none⟩) 18 18] (w1.alloc (.cells #[.int .u8 54, .int .u8 32, .int .u8 107, .int .u8 61, .int .u8 118, .int .u8 10, .int .u8 49, .int .u8 50, .int .u8 32, .int .u8 107, .int .u8 61, .int .u8 97, .int .u8 61, .int .u8 98, .int .u8 10, .int .u8 0, .int .u8 99, .int .u8 10] 5 (18, 19))) fun e w' => (∃ u, e = .returned (.tuple #[u, .int .i64 0]) ∧ SlR w' u recsB) ∧ Below w1.heap.size w1 w') := Lib.hid (fun w1 hp => getB w1 hp)
  have HGN : Hid (∀ w1, PxAt w1 → Calls Tryd.prog 18 #[.slice none 0 0] w1 fun e w' => (∃ u, e = .returned (.tuple #[u, .int .i64 0]) ∧ SlR w' u []) ∧ Below w1.heap.size w1 w') := Lib.hid (fun w1 hp => get_nil w1 hp)
  have HL3 : Hid (∀ w1, PxAt w1 → Calls Tryd.prog 13 #[.slice (some ⟨w1.heap.size, 0, none⟩) 3 3, .string ⟨#[107]⟩] (w1.alloc (.cells #[.string ⟨#[107]⟩, .string ⟨#[49]⟩, .string ⟨#[106]⟩, .string ⟨#[]⟩, .string ⟨#[107]⟩, .string ⟨#[50]⟩] 37)) fun e w' => e = .returned (.tuple #[.string ⟨#[50]⟩, .bool true]) ∧ Below w1.heap.size w1 w') := Lib.hid (fun w1 hp => last3 w1)
  have HL0 : Hid (∀ w1, PxAt w1 → Calls Tryd.prog 13 #[.slice none 0 0, .string ⟨#[107]⟩] w1 fun e w' => e = .returned (.tuple #[.string ⟨#[]⟩, .bool false]) ∧ Below w1.heap.size w1 w') := Lib.hid (fun w1 hp => last0 w1)
  have HS1 : Hid (∀ w1, PxAt w1 → Calls Tryd.prog 15 #[.agg #[.string ⟨#[107]⟩, .string ⟨#[49, 50, 51, 52, 53]⟩]] w1 fun e w' => e = .returned (.int .i64 11) ∧ Below w1.heap.size w1 w') := Lib.hid (fun w1 hp => size_lit ([107], [49, 50, 51, 52, 53]) 11 (by kernel_rfl) (by decide) w1 hp)
  have HS2 : Hid (∀ w1, PxAt w1 → Calls Tryd.prog 15 #[.agg #[.string ⟨#[107]⟩, .string ⟨#[49, 50, 51, 52]⟩]] w1 fun e w' => e = .returned (.int .i64 9) ∧ Below w1.heap.size w1 w') := Lib.hid (fun w1 hp => size_lit ([107], [49, 50, 51, 52]) 9 (by kernel_rfl) (by decide) w1 hp)
  have HTx : Hid (∀ w1, PxAt w1 → Calls Tryd.prog 23 #[.int .i64 (-9223372036854775808)] w1 fun e w' => e = .returned (.string ⟨#[45, 57, 50, 50, 51, 51, 55, 50, 48, 51, 54, 56, 53, 52, 55, 55, 53, 56, 48, 56]⟩) ∧ Below w1.heap.size w1 w') := Lib.hid (fun w1 hp => (by have h := text_walk w1 (-9223372036854775808) (by omega) (by omega) hp; rw [show Lib.itoa (-9223372036854775808) = [45, 57, 50, 50, 51, 51, 55, 50, 48, 51, 54, 56, 53, 52, 55, 55, 53, 56, 48, 56] by kernel_rfl] at h; exact h))
  have HTe : Hid (∀ w1, PxAt w1 → Calls Tryd.prog 17 #[] w1 fun e w' => e = .returned (.bool true) ∧ Below w1.heap.size w1 w') := Lib.hid (fun w1 hp => tells_walk w1 hp)
  go_enter Tryd.func9, Tryd.ntmps9
  go_wp2_with fail
  have hrow := HR1.out (w.alloc (.cells C1 5))
  have hB0 : Below w.heap.size w ((w.alloc (.cells C1 5)).alloc (.cells #[.string ⟨#[]⟩, .string ⟨#[97, 61, 98]⟩, .string ⟨#[97, 10]⟩, .string ⟨#[0]⟩, .string Z] 9)) := ((Below.refl _ _).alloc (Nat.le_refl _) _).alloc (by simp) _
  obtain ⟨bb, hbb⟩ : ∃ bb, (w.alloc (.cells C1 5)).heap.size = bb := ⟨_, rfl⟩
  have hblt : bb < ((w.alloc (.cells C1 5)).alloc (.cells #[.string ⟨#[]⟩, .string ⟨#[97, 61, 98]⟩, .string ⟨#[97, 10]⟩, .string ⟨#[0]⟩, .string Z] 9)).heap.size := by rw [← hbb]; simp
  rw [hbb] at hrow
  simp only [World.size_alloc] at hbb
  try rw [hbb]
  generalize (w.alloc (.cells C1 5)).alloc (.cells #[.string ⟨#[]⟩, .string ⟨#[97, 61, 98]⟩, .string ⟨#[97, 10]⟩, .string ⟨#[0]⟩, .string Z] 9) = W0 at *
  have HB0 := Lib.hid hB0
  have HROW := Lib.hid hrow
  have HLT := Lib.hid hblt
  clear hB0 hrow hblt hbb
  go_loopw [29] (fun v wr => ∃ j : Nat, j ≤ 5 ∧ v = .int .i64 (j : Int) ∧ Below W0.heap.size W0 wr) (fun v _ => 5 - (intOf v).toNat)
  case atStart => exact ⟨0, Nat.zero_le _, rfl, Below.refl _ _⟩
  case round =>
    obtain ⟨j, hj, rfl, hbw⟩ := hrel
    have HBW := Lib.hid hbw
    have HB : Hid (Below w.heap.size w wr) := Lib.hid (HB0.out.trans (hbw.mono HB0.out.size))
    clear hbw
    by_cases hjn : j < 5
    · obtain ⟨l, hl⟩ : ∃ l, keysL[j]? = some l := ⟨_, List.getElem?_eq_getElem hjn⟩
      have hcl := (HBW.out.cell (p := ⟨bb, j, none⟩) HLT.out).trans (HROW.out j l hl)
      have hbad := keys_bad l (List.mem_of_getElem? hl)
      obtain ⟨x, hx⟩ : ∃ x, (⟨l.toArray⟩ : ByteArray) = x := ⟨_, rfl⟩
      rw [hx] at hcl
      have hjI : (j : Int) < 5 := by omega
      have HPut : Hid (∀ w1, PxAt w1 → Calls Tryd.prog 11 #[.slice (some ⟨w1.heap.size, 0, none⟩) 2 2] (w1.alloc (.cells #[.string ⟨#[111, 107]⟩, .string ⟨#[]⟩, .string x, .string ⟨#[]⟩] 37)) fun e w' => e = .returned (.tuple #[.slice none 0 0, .int .i64 1]) ∧ Below w1.heap.size w1 w') := Lib.hid (fun w1 hp => put_keys l hbad x hx w1 hp)
      have HSz : Hid (∀ w1, PxAt w1 → Calls Tryd.prog 15 #[.agg #[.string x, .string ⟨#[]⟩]] w1 fun e w' => e = .returned (.int .i64 0) ∧ Below w1.heap.size w1 w') := Lib.hid (fun w1 hp => by have h := size_lit (l, []) 0 hbad (by simp) w1 hp; rw [show (⟨(l, ([] : List UInt8)).1.toArray⟩ : ByteArray) = x from hx] at h; exact h)
      clear hl hbad hx hjn
      go_wp2_with (first
        | ((with_reducible refine (HPut.out _ (HQ.out _ HB.out)).mono ?_); rintro e w1 ⟨rfl, hb⟩; replace HBW := Lib.hid (HBW.out.trans (hb.mono HBW.out.size)); replace HB := Lib.hid (HB.out.trans (hb.mono HB.out.size)); clear hb)
        | ((with_reducible refine (HSz.out _ (HQ.out _ HB.out)).mono ?_); rintro e w1 ⟨rfl, hb⟩; replace HBW := Lib.hid (HBW.out.trans (hb.mono HBW.out.size)); replace HB := Lib.hid (HB.out.trans (hb.mono HB.out.size)); clear hb))
      go_roundw
      case rel => exact ⟨j + 1, by omega, by go_num, HBW.out⟩
      case measure => simp [intOf] <;> omega
    · rw [show (j : Int) = 5 by omega]
      clear hj hjn
      clear HBW HROW HLT HB0
      go_wp2_with fail
      have hrow := HR2.out (wr)
      have hB0 : Below w.heap.size w ((wr).alloc (.cells #[.string ⟨#[120]⟩, .string ⟨#[48, 32]⟩, .string ⟨#[53, 32, 107, 10]⟩, .string ⟨#[54, 32, 107, 61, 10, 32]⟩, .string ⟨#[52, 32, 107, 61]⟩, .string ⟨#[53, 32, 107, 61, 120]⟩, .string ⟨#[55, 32, 61, 97, 98, 10]⟩, .string ⟨#[57, 32, 107, 61, 97, 98, 99, 100, 101]⟩, .string ⟨#[57, 57, 57, 57, 57, 57, 57, 57, 57, 57, 57, 32]⟩, .string ⟨#[55, 32, 107, 10, 97, 98, 10]⟩, .string ⟨#[54, 32, 107, 61, 118, 10, 120]⟩, .string ⟨#[49, 54, 55, 55, 55, 50, 49, 55, 32]⟩, .string ⟨#[54, 32, 107, 61, 118, 118]⟩, .string ⟨#[49, 48, 32, 112, 97, 116, 104, 61, 97]⟩, .string ⟨#[49, 48, 48, 32]⟩, .string ⟨#[49, 48, 48, 48, 48, 48, 48, 48]⟩] 9)) := HB.out.alloc HB.out.size _
      obtain ⟨bb, hbb⟩ : ∃ bb, (wr).heap.size = bb := ⟨_, rfl⟩
      have hblt : bb < ((wr).alloc (.cells #[.string ⟨#[120]⟩, .string ⟨#[48, 32]⟩, .string ⟨#[53, 32, 107, 10]⟩, .string ⟨#[54, 32, 107, 61, 10, 32]⟩, .string ⟨#[52, 32, 107, 61]⟩, .string ⟨#[53, 32, 107, 61, 120]⟩, .string ⟨#[55, 32, 61, 97, 98, 10]⟩, .string ⟨#[57, 32, 107, 61, 97, 98, 99, 100, 101]⟩, .string ⟨#[57, 57, 57, 57, 57, 57, 57, 57, 57, 57, 57, 32]⟩, .string ⟨#[55, 32, 107, 10, 97, 98, 10]⟩, .string ⟨#[54, 32, 107, 61, 118, 10, 120]⟩, .string ⟨#[49, 54, 55, 55, 55, 50, 49, 55, 32]⟩, .string ⟨#[54, 32, 107, 61, 118, 118]⟩, .string ⟨#[49, 48, 32, 112, 97, 116, 104, 61, 97]⟩, .string ⟨#[49, 48, 48, 32]⟩, .string ⟨#[49, 48, 48, 48, 48, 48, 48, 48]⟩] 9)).heap.size := by rw [← hbb]; simp
      rw [hbb] at hrow
      try rw [hbb]
      generalize (wr).alloc (.cells #[.string ⟨#[120]⟩, .string ⟨#[48, 32]⟩, .string ⟨#[53, 32, 107, 10]⟩, .string ⟨#[54, 32, 107, 61, 10, 32]⟩, .string ⟨#[52, 32, 107, 61]⟩, .string ⟨#[53, 32, 107, 61, 120]⟩, .string ⟨#[55, 32, 61, 97, 98, 10]⟩, .string ⟨#[57, 32, 107, 61, 97, 98, 99, 100, 101]⟩, .string ⟨#[57, 57, 57, 57, 57, 57, 57, 57, 57, 57, 57, 32]⟩, .string ⟨#[55, 32, 107, 10, 97, 98, 10]⟩, .string ⟨#[54, 32, 107, 61, 118, 10, 120]⟩, .string ⟨#[49, 54, 55, 55, 55, 50, 49, 55, 32]⟩, .string ⟨#[54, 32, 107, 61, 118, 118]⟩, .string ⟨#[49, 48, 32, 112, 97, 116, 104, 61, 97]⟩, .string ⟨#[49, 48, 48, 32]⟩, .string ⟨#[49, 48, 48, 48, 48, 48, 48, 48]⟩] 9) = W0 at *
      have HB0 := Lib.hid hB0
      have HROW := Lib.hid hrow
      have HLT := Lib.hid hblt
      clear hB0 hrow hblt hbb
      go_loopw [52] (fun v wr => ∃ j : Nat, j ≤ 16 ∧ v = .int .i64 (j : Int) ∧ Below W0.heap.size W0 wr) (fun v _ => 16 - (intOf v).toNat)
      case atStart => exact ⟨0, Nat.zero_le _, rfl, Below.refl _ _⟩
      case round =>
        obtain ⟨j, hj, rfl, hbw⟩ := hrel
        have HBW := Lib.hid hbw
        have HB : Hid (Below w.heap.size w wr) := Lib.hid (HB0.out.trans (hbw.mono HB0.out.size))
        clear hbw
        by_cases hjn : j < 16
        · obtain ⟨l, hl⟩ : ∃ l, formsL[j]? = some l := ⟨_, List.getElem?_eq_getElem hjn⟩
          have hcl := (HBW.out.cell (p := ⟨bb, j, none⟩) HLT.out).trans (HROW.out j l hl)
          have hbad := forms_bad l (List.mem_of_getElem? hl)
          obtain ⟨x, hx⟩ : ∃ x, (⟨l.toArray⟩ : ByteArray) = x := ⟨_, rfl⟩
          rw [hx] at hcl
          have hjI : (j : Int) < 16 := by omega
          obtain ⟨cp, hcp⟩ : ∃ c, grownCap wr x.size 0 5 = c := ⟨_, rfl⟩
          have HG := Lib.hid (get_str l 5 hbad wr (HQ.out _ HB.out) x hx cp hcp)
          have ks : (convert 9 26 (.string x)).run Tryd.prog wr = .ok (.slice (some ⟨wr.heap.size, 0, none⟩) x.size cp) (Lib.bytesWorld wr 5 x) := by rw [← hcp]; exact conv_str x wr
          have hcple : (x.size : Int) ≤ (cp : Int) := by rw [← hcp]; have := grownCap_ge wr x.size 0 5; omega
          clear hl hbad hx hjn hcp
          go_wp2_with ((with_reducible refine HG.out.mono ?_); rintro e w1 ⟨rfl, hb⟩; replace HBW := Lib.hid (HBW.out.trans (hb.mono HBW.out.size)); replace HB := Lib.hid (HB.out.trans (hb.mono HB.out.size)); clear hb)
          go_roundw
          case rel => exact ⟨j + 1, by omega, by go_num, HBW.out⟩
          case measure => simp [intOf] <;> omega
        · rw [show (j : Int) = 16 by omega]
          clear hj hjn
          clear HBW HROW HLT HB0
          go_wp2_with fail
          have hrow := HR3.out (wr)
          have hB0 : Below w.heap.size w ((wr).alloc (.cells #[.string ⟨#[49]⟩, .string ⟨#[49, 48]⟩, .string ⟨#[49, 48, 48, 48, 48, 48, 48]⟩, .string ⟨#[54]⟩, .string ⟨#[54, 32]⟩, .string ⟨#[54, 32, 107]⟩, .string ⟨#[54, 32, 107, 61]⟩, .string ⟨#[54, 32, 107, 61, 118]⟩, .string ⟨#[54, 32, 107, 61, 118, 10, 55, 32]⟩, .string ⟨#[49, 50, 32, 107, 61, 97, 61, 98]⟩] 9)) := HB.out.alloc HB.out.size _
          obtain ⟨bb, hbb⟩ : ∃ bb, (wr).heap.size = bb := ⟨_, rfl⟩
          have hblt : bb < ((wr).alloc (.cells #[.string ⟨#[49]⟩, .string ⟨#[49, 48]⟩, .string ⟨#[49, 48, 48, 48, 48, 48, 48]⟩, .string ⟨#[54]⟩, .string ⟨#[54, 32]⟩, .string ⟨#[54, 32, 107]⟩, .string ⟨#[54, 32, 107, 61]⟩, .string ⟨#[54, 32, 107, 61, 118]⟩, .string ⟨#[54, 32, 107, 61, 118, 10, 55, 32]⟩, .string ⟨#[49, 50, 32, 107, 61, 97, 61, 98]⟩] 9)).heap.size := by rw [← hbb]; simp
          rw [hbb] at hrow
          try rw [hbb]
          generalize (wr).alloc (.cells #[.string ⟨#[49]⟩, .string ⟨#[49, 48]⟩, .string ⟨#[49, 48, 48, 48, 48, 48, 48]⟩, .string ⟨#[54]⟩, .string ⟨#[54, 32]⟩, .string ⟨#[54, 32, 107]⟩, .string ⟨#[54, 32, 107, 61]⟩, .string ⟨#[54, 32, 107, 61, 118]⟩, .string ⟨#[54, 32, 107, 61, 118, 10, 55, 32]⟩, .string ⟨#[49, 50, 32, 107, 61, 97, 61, 98]⟩] 9) = W0 at *
          have HB0 := Lib.hid hB0
          have HROW := Lib.hid hrow
          have HLT := Lib.hid hblt
          clear hB0 hrow hblt hbb
          go_loopw [67] (fun v wr => ∃ j : Nat, j ≤ 10 ∧ v = .int .i64 (j : Int) ∧ Below W0.heap.size W0 wr) (fun v _ => 10 - (intOf v).toNat)
          case atStart => exact ⟨0, Nat.zero_le _, rfl, Below.refl _ _⟩
          case round =>
            obtain ⟨j, hj, rfl, hbw⟩ := hrel
            have HBW := Lib.hid hbw
            have HB : Hid (Below w.heap.size w wr) := Lib.hid (HB0.out.trans (hbw.mono HB0.out.size))
            clear hbw
            by_cases hjn : j < 10
            · obtain ⟨l, hl⟩ : ∃ l, shortsL[j]? = some l := ⟨_, List.getElem?_eq_getElem hjn⟩
              have hcl := (HBW.out.cell (p := ⟨bb, j, none⟩) HLT.out).trans (HROW.out j l hl)
              have hbad := shorts_bad l (List.mem_of_getElem? hl)
              obtain ⟨x, hx⟩ : ∃ x, (⟨l.toArray⟩ : ByteArray) = x := ⟨_, rfl⟩
              rw [hx] at hcl
              have hjI : (j : Int) < 10 := by omega
              obtain ⟨cp, hcp⟩ : ∃ c, grownCap wr x.size 0 5 = c := ⟨_, rfl⟩
              have HG := Lib.hid (get_str l 4 hbad wr (HQ.out _ HB.out) x hx cp hcp)
              have ks : (convert 9 26 (.string x)).run Tryd.prog wr = .ok (.slice (some ⟨wr.heap.size, 0, none⟩) x.size cp) (Lib.bytesWorld wr 5 x) := by rw [← hcp]; exact conv_str x wr
              have hcple : (x.size : Int) ≤ (cp : Int) := by rw [← hcp]; have := grownCap_ge wr x.size 0 5; omega
              clear hl hbad hx hjn hcp
              go_wp2_with ((with_reducible refine HG.out.mono ?_); rintro e w1 ⟨rfl, hb⟩; replace HBW := Lib.hid (HBW.out.trans (hb.mono HBW.out.size)); replace HB := Lib.hid (HB.out.trans (hb.mono HB.out.size)); clear hb)
              go_roundw
              case rel => exact ⟨j + 1, by omega, by go_num, HBW.out⟩
              case measure => simp [intOf] <;> omega
            · rw [show (j : Int) = 10 by omega]
              clear hj hjn
              go_wp2_with fail
              (with_reducible refine (HGA.out _ (HQ.out _ HB.out)).mono ?_)
              rintro e w1 ⟨⟨u, rfl, hs⟩, hb⟩
              obtain ⟨pu, cu, hu⟩ := hs.shape
              rw [show recsA.length = 3 from rfl] at hu
              subst hu
              obtain ⟨g, o, hpp, hcap, hcell⟩ := hs.at (by decide)
              subst hpp
              have hc1 := (hcell 1 _ rfl).2
              have HC : Hid (w1.cell? ⟨g, o + 2 + 1, none⟩ = some (.string ⟨#[97, 61, 98, 10, 0, 99]⟩)) := Lib.hid hc1
              have hcu : (3 : Int) ≤ (cu : Int) := by omega
              replace HB := Lib.hid (HB.out.trans (hb.mono HB.out.size))
              clear hb hs hcell hc1 hcap
              go_wp2_with (first
                | ((with_reducible refine (HGB.out _ (HQ.out _ HB.out)).mono ?_); rintro e w1 ⟨⟨u2, rfl, hs2⟩, hb⟩; replace HB := Lib.hid (HB.out.trans (hb.mono HB.out.size)); replace HC := Lib.hid ((hb.cell (block_lt_of_cell HC.out)).trans HC.out); clear hb hs2)
                | ((with_reducible refine (HL3.out _ (HQ.out _ HB.out)).mono ?_); rintro e w1 ⟨rfl, hb⟩; replace HB := Lib.hid (HB.out.trans (hb.mono HB.out.size)); replace HC := Lib.hid ((hb.cell (block_lt_of_cell HC.out)).trans HC.out); clear hb)
                | ((with_reducible refine (HL0.out _ (HQ.out _ HB.out)).mono ?_); rintro e w1 ⟨rfl, hb⟩; replace HB := Lib.hid (HB.out.trans (hb.mono HB.out.size)); replace HC := Lib.hid ((hb.cell (block_lt_of_cell HC.out)).trans HC.out); clear hb)
                | ((with_reducible refine (HGN.out _ (HQ.out _ HB.out)).mono ?_); rintro e w1 ⟨⟨u3, rfl, hs3⟩, hb⟩; obtain ⟨pu3, cu3, hu3⟩ := hs3.shape; rw [show ([] : List Px.Rec).length = 0 from rfl] at hu3; subst hu3; replace HB := Lib.hid (HB.out.trans (hb.mono HB.out.size)); replace HC := Lib.hid ((hb.cell (block_lt_of_cell HC.out)).trans HC.out); clear hb hs3)
                | ((with_reducible refine (HBig.out _ (HQ.out _ HB.out)).mono ?_); rintro e w1 ⟨rfl, hb⟩; replace HB := Lib.hid (HB.out.trans (hb.mono HB.out.size)); replace HC := Lib.hid ((hb.cell (block_lt_of_cell HC.out)).trans HC.out); have hc9 := HC.out; clear hb)
                | ((with_reducible refine (HS1.out _ (HQ.out _ HB.out)).mono ?_); rintro e w1 ⟨rfl, hb⟩; replace HB := Lib.hid (HB.out.trans (hb.mono HB.out.size)); clear hb)
                | ((with_reducible refine (HS2.out _ (HQ.out _ HB.out)).mono ?_); rintro e w1 ⟨rfl, hb⟩; replace HB := Lib.hid (HB.out.trans (hb.mono HB.out.size)); clear hb)
                | ((with_reducible refine (HTx.out _ (HQ.out _ HB.out)).mono ?_); rintro e w1 ⟨rfl, hb⟩; replace HB := Lib.hid (HB.out.trans (hb.mono HB.out.size)); clear hb)
                | ((with_reducible refine (HTe.out _ (HQ.out _ HB.out)).mono ?_); rintro e w1 ⟨rfl, hb⟩; replace HB := Lib.hid (HB.out.trans (hb.mono HB.out.size)); clear hb))
              go_ret
              exact ⟨rfl, HB.out⟩
end Go.Proofs.YtfbbccpbedahhaaDoor
