/-
  strings.ContainsAny of a slash and a byte 0, over any bytes (turned from pax's XPk).
-/
import Derived.Test.YtgdnemjlmhmhhaaDoorHi
import Derived.Test.YtgdnemjlmhmhhaaDoorHm
namespace Go.Proofs.YtgdnemjlmhmhhaaDoor
open Go.RowKit Go.Maps

theorem idxrune_ascii (w : World) (s : ByteArray) (x : Nat) (h1 : x < 128) : Calls Tryd.prog 70 #[.string s, .int .i32 (x : Int)] w fun e w' => e = .returned (.int .i64 (Lib.indexByte s.data.toList ((x : Int)).toNat.toUInt8)) ∧ w' = w :=
  Any.strings_IndexRune_ascii (P := Tryd.prog) { Tryd.laysIa with } s (x : Int) w (by omega) (by omega)
theorem usescii (w : World) (n : Int) : Calls Tryd.prog 71 #[.int .i64 n] w fun e w' => e = .returned (.bool (decide (8 < n))) ∧ w' = w := Any.strings_shouldUseASCIISet (P := Tryd.prog) { Tryd.laysIa with } n w
set_option maxHeartbeats 4000000 in
set_option maxRecDepth 1000000 in
theorem idxany_short (s : ByteArray) (w : World) (h8 : s.size ≤ 8) : Calls Tryd.prog 53 #[.string s, .string bad2] w fun e w' => e = .returned (.int .i64 (Lib.indexAny s.data.toList [47, 0])) ∧ Below w.heap.size w w' := by
  have h8z : decide ((8 : Int) < (s.size : Int)) = false := decide_eq_false (by omega)
  have hb3 : bad2.size = 2 := by kernel_rfl
  have hemp : (bad2.toList == []) = false := by rw [Lib.toList_data]; rfl
  have HU := Lib.hid (usescii w (s.size : Int))
  rw [h8z] at HU
  have H8 := Lib.hid h8
  clear h8 h8z
  go_enter Tryd.func53, Tryd.ntmps53
  go_wp2_with ((with_reducible refine HU.out.mono ?_); rintro e w' ⟨rfl, hw⟩; rw [hw]; clear hw)
  go_loopg [9, 10] s.size (fun g _ _ wx => ∃ i : Nat, s.size ≤ i + g ∧ IterAt w s i wx)
  case atStart => exact ⟨0, by omega, Nat.zero_le _, heap_alloc_new w _, (Below.refl _ _).alloc (Nat.le_refl _) _, Lib.NoAny.zero _ _⟩
  case round =>
    obtain ⟨i, hig, hI⟩ := hrel
    have HI := Lib.hid hI
    clear hI
    by_cases hi : i < s.size
    · obtain ⟨g, rfl⟩ : ∃ g, gk = g + 1 := ⟨gk - 1, by omega⟩
      obtain ⟨x, hx⟩ : ∃ x : UInt8, s[i]'hi = x := ⟨_, rfl⟩
      have hxl : s.data.toList[i]? = some x := by rw [← hx]; exact Lib.data_getElem? s i hi
      have HX : Hid (s.data.toList[i]? = some x) := Lib.hid hxl
      by_cases hx128 : x.toNat < 128
      · have hnx : ∀ ty, (Instr.next (.pointer (some ⟨w.heap.size, 0, none⟩)) true ty).run Tryd.prog wr = .ok (.tuple #[.bool true, .int .i64 i, .int .i32 (x.toNat : Int)]) (wr.iterAt w.heap.size s (i + 1)) := fun ty => by
          have := Lib.run_next_ascii_at (P := Tryd.prog) wr w.heap.size s i ty HI.out.at' hi (by rw [hx]; exact hx128)
          rw [hx] at this
          exact this
        have HR : Hid (∀ w, _) := Lib.hid (fun w => idxrune_ascii w bad2 x.toNat hx128)
        rw [show ((x.toNat : Int)).toNat.toUInt8 = x by simp, show bad2.data.toList = [47, 0] from rfl] at HR
        have hcon := Lib.contains_iff_indexByte [47, 0] x
        obtain ⟨R, hR⟩ : ∃ R, Lib.indexByte [47, 0] x = R := ⟨_, rfl⟩
        rw [hR] at HR hcon
        clear hR hxl hx
        cases hin : ([47, 0] : List UInt8).contains x
        · rw [hin] at hcon
          have hlt : decide ((0 : Int) ≤ R) = false := hcon.symm
          have HN : Hid (IterAt w s (i + 1) (wr.iterAt w.heap.size s (i + 1))) := Lib.hid (HI.out.next (by omega) (HI.out.no.succ HX.out hin))
          clear hcon hin hx128
          go_wp2_with ((with_reducible refine (HR.out _).mono ?_); rintro e w1 ⟨rfl, hw⟩; rw [hw]; clear hw)
          go_roundg g
          case measure => omega
          case rel => exact ⟨i + 1, by omega, HN.out⟩
        · rw [hin] at hcon
          have hlt : decide ((0 : Int) ≤ R) = true := hcon.symm
          have HN : Hid (Below w.heap.size w (wr.iterAt w.heap.size s (i + 1))) := Lib.hid (by
            have := HI.out.next (j := i) HI.out.le HI.out.no
            exact HI.out.below.trans ⟨rfl, rfl, rfl, by show _ ≤ (Array.setIfInBounds _ _ _).size; simp, fun k hk => by
              show (Array.setIfInBounds _ _ _)[k]? = _
              rw [Array.getElem?_setIfInBounds, if_neg (by omega)]⟩)
          have HE : Hid (Lib.indexAny s.data.toList [47, 0] = (i : Int)) := Lib.hid (Lib.indexAny_hit HI.out.no HX.out hin)
          clear hcon hin hx128
          go_wp2_with ((with_reducible refine (HR.out _).mono ?_); rintro e w1 ⟨rfl, hw⟩; rw [hw]; clear hw)
          go_ret
          exact ⟨by rw [HE.out]; rfl, HN.out⟩
      · have hd := decode_high s i hi (by rw [hx]; omega)
        have hdl := decode_le s i
        have hsp := decode_span s i hi (by rw [hx]; omega)
        have hnx : ∀ ty, (Instr.next (.pointer (some ⟨w.heap.size, 0, none⟩)) true ty).run Tryd.prog wr = .ok (.tuple #[.bool true, .int .i64 i, .int .i32 ((Utf8.decode s i).1 : Int)]) (wr.iterAt w.heap.size s (i + (Utf8.decode s i).2)) := fun ty => Lib.run_next_any_at (P := Tryd.prog) wr w.heap.size s i ty HI.out.at' hi
        generalize (Utf8.decode s i).1 = r at *
        generalize (Utf8.decode s i).2 = m at *
        have HR : Hid (∀ w, _) := Lib.hid (fun w => idxrune_any w (r : Int) (by omega) (by omega))
        have HN : Hid (IterAt w s (i + m) (wr.iterAt w.heap.size s (i + m))) := Lib.hid (HI.out.next hsp.1 (fun j b hj hb => by
          by_cases hji : j < i
          · exact HI.out.no j b hji hb
          · have h1 := hsp.2 j (by omega) hj
            have hjs : j < s.size := by omega
            rw [get_le s j hjs] at h1
            have h2 := Lib.data_getElem? s j hjs
            rw [hb] at h2
            obtain rfl : b = s[j]'hjs := Option.some.inj h2
            simp only [List.contains_cons, List.contains_nil, Bool.or_false, Bool.or_eq_false_iff, beq_eq_false_iff_ne]
            refine ⟨?_, ?_⟩ <;> (intro e; rw [e] at h1; exact absurd h1 (by decide))))
        have hm1 : i + 1 ≤ i + m := by omega
        clear hxl hx hx128 hsp
        go_wp2_with ((with_reducible refine (HR.out _).mono ?_); rintro e w1 ⟨rfl, hb⟩; have HW : Hid (IterAt w s (i + m) w1) := Lib.hid (HN.out.later hb); clear hb)
        go_roundg g
        case measure => omega
        case rel => exact ⟨i + m, by omega, HW.out⟩
    · obtain rfl : i = s.size := by have := HI.out.le; omega
      have hnx := fun ty => Lib.run_next_end_at (P := Tryd.prog) wr w.heap.size s s.size ty HI.out.at' hi
      clear hi
      go_wp2_with fail
      go_ret
      exact ⟨by rw [Lib.indexAny_none (by have := HI.out.no; rw [← Lib.size_eq]; exact this)]; rfl, HI.out.below⟩
theorem bad2_ascii : ∀ (j : Nat) (b : UInt8), bad2.data.toList[j]? = some b → b.toNat < 128 := fun j b h => by
  have h2 : b ∈ ([47, 0] : List UInt8) := List.mem_of_getElem? h
  simp only [List.mem_cons, List.not_mem_nil, or_false] at h2
  rcases h2 with rfl | rfl <;> decide
theorem idxany_walk (s : ByteArray) (w : World) (h8 : s.size ≤ 100000000) : Calls Tryd.prog 53 #[.string s, .string bad2] w fun e w' => e = .returned (.int .i64 (Lib.indexAny s.data.toList [47, 0])) ∧ Below w.heap.size w w' := by
  by_cases h : s.size ≤ 8
  · exact idxany_short s w h
  · have h116 : (Tryd.prog.info? 80).map (fun i => (i.zero, i.size)) = some (some (.agg (Array.replicate 256 (.bool false))), 256) := by kernel_rfl
    refine (Any.strings_IndexAny_long Tryd.laysIa (zero_of_info h116).1 (zero_of_info h116).2 s bad2 w (by decide) (by omega) (by omega) (by decide) bad2_ascii).mono fun e w' ⟨h1, h2⟩ => ⟨h1, ?_⟩
    rw [h2]
    exact ((Below.refl _ _).alloc (Nat.le_refl _) _).alloc (by simp) _
theorem any_ok (l : List UInt8) : decide (0 ≤ Lib.indexAny l [47, 0]) = !(l.all Pt.okB) := by
  induction l with
  | nil => rfl
  | cons x t ih =>
    have hge := Lib.indexAny_ge [47, 0] t
    rw [Lib.indexAny, List.all_cons]
    have hc : ([47, 0] : List UInt8).contains x = !Pt.okB x := by
      unfold Pt.okB
      simp only [List.contains_cons, List.contains_nil, Bool.or_false, Bool.not_not]
    rw [hc]
    cases hk : Pt.okB x
    · simp
    · simp only [Bool.not_true, Bool.false_eq_true, if_false, Bool.true_and]
      rw [← ih]
      by_cases h1 : Lib.indexAny t [47, 0] = -1
      · rw [h1]; rfl
      · rw [if_neg (by simpa using h1), decide_eq_true (by omega), decide_eq_true (by omega)]
set_option maxHeartbeats 1000000 in
theorem cany_walk (s : ByteArray) (w : World) (h8 : s.size ≤ 100000000) : Calls Tryd.prog 36 #[.string s, .string bad2] w fun e w' => e = .returned (.bool (!(s.data.toList.all Pt.okB))) ∧ Below w.heap.size w w' := by
  have HC := Lib.hid (idxany_walk s w h8)
  have HE := Lib.hid (any_ok s.data.toList)
  obtain ⟨R, hR⟩ : ∃ R, Lib.indexAny s.data.toList [47, 0] = R := ⟨_, rfl⟩
  rw [hR] at HC HE
  clear hR h8
  go_enter Tryd.func36, Tryd.ntmps36
  go_wp2_with ((with_reducible refine HC.out.mono ?_); rintro e w1 ⟨rfl, hb⟩; have HB := Lib.hid hb; clear hb)
  go_ret
  exact ⟨by rw [← HE.out]; rfl, HB.out⟩
end Go.Proofs.YtgdnemjlmhmhhaaDoor
