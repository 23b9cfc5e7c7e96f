/-
  What a key's bytes may be: strings.ContainsAny of a byte 0, = and a newline, over any bytes; isKey.
-/
import Derived.Test.YtjgphicmkmdeiaaDoorPka
namespace Go.Proofs.YtjgphicmkmdeiaaDoor
open Go.RowKit Go.Maps

theorem idxrune_ascii (w : World) (s : ByteArray) (x : Nat) (h1 : x < 128) : Calls Tryd.prog 56 #[.string s, .int .i32 (x : Int)] w fun e w' => e = .returned (.int .i64 (Lib.indexByte s.data.toList ((x : Int)).toNat.toUInt8)) ∧ w' = w :=
  Any.strings_IndexRune_ascii (P := Tryd.prog) { Tryd.laysIa with } s (x : Int) w (by omega) (by omega)
theorem usescii (w : World) (n : Int) : Calls Tryd.prog 57 #[.int .i64 n] w fun e w' => e = .returned (.bool (decide (8 < n))) ∧ w' = w := Any.strings_shouldUseASCIISet (P := Tryd.prog) { Tryd.laysIa with } n w
set_option maxHeartbeats 4000000 in
set_option maxRecDepth 1000000 in
theorem idxany_short (s : ByteArray) (w : World) (h8 : s.size ≤ 8) : Calls Tryd.prog 45 #[.string s, .string bad3] w fun e w' => e = .returned (.int .i64 (Lib.indexAny s.data.toList [0, 61, 10])) ∧ Below w.heap.size w w' := by
  have h8z : decide ((8 : Int) < (s.size : Int)) = false := decide_eq_false (by omega)
  have hb3 : bad3.size = 3 := by kernel_rfl
  have hemp : (bad3.toList == []) = false := by rw [Lib.toList_data]; rfl
  have HU := Lib.hid (usescii w (s.size : Int))
  rw [h8z] at HU
  have H8 := Lib.hid h8
  clear h8 h8z
  go_enter Tryd.func45, Tryd.ntmps45
  go_wp2_with ((with_reducible refine HU.out.mono ?_); rintro e w' ⟨rfl, hw⟩; rw [hw]; clear hw)
  go_loopg [9, 10] s.size (fun g _ _ wx => ∃ i : Nat, s.size ≤ i + g ∧ IterAt w s i wx)
  case atStart => exact ⟨0, by omega, Nat.zero_le _, heap_alloc_new w _, (Below.refl _ _).alloc (Nat.le_refl _) _, Lib.NoAny.zero _ _⟩
  case round =>
    obtain ⟨i, hig, hI⟩ := hrel
    have HI := Lib.hid hI
    clear hI
    by_cases hi : i < s.size
    · obtain ⟨g, rfl⟩ : ∃ g, gk = g + 1 := ⟨gk - 1, by omega⟩
      obtain ⟨x, hx⟩ : ∃ x : UInt8, s[i]'hi = x := ⟨_, rfl⟩
      have hxl : s.data.toList[i]? = some x := by rw [← hx]; exact Lib.data_getElem? s i hi
      have HX : Hid (s.data.toList[i]? = some x) := Lib.hid hxl
      by_cases hx128 : x.toNat < 128
      · have hnx : ∀ ty, (Instr.next (.pointer (some ⟨w.heap.size, 0, none⟩)) true ty).run Tryd.prog wr = .ok (.tuple #[.bool true, .int .i64 i, .int .i32 (x.toNat : Int)]) (wr.iterAt w.heap.size s (i + 1)) := fun ty => by
          have := Lib.run_next_ascii_at (P := Tryd.prog) wr w.heap.size s i ty HI.out.at' hi (by rw [hx]; exact hx128)
          rw [hx] at this
          exact this
        have HR : Hid (∀ w, _) := Lib.hid (fun w => idxrune_ascii w bad3 x.toNat hx128)
        rw [show ((x.toNat : Int)).toNat.toUInt8 = x by simp, show bad3.data.toList = [0, 61, 10] from rfl] at HR
        have hcon := Lib.contains_iff_indexByte [0, 61, 10] x
        obtain ⟨R, hR⟩ : ∃ R, Lib.indexByte [0, 61, 10] x = R := ⟨_, rfl⟩
        rw [hR] at HR hcon
        clear hR hxl hx
        cases hin : ([0, 61, 10] : List UInt8).contains x
        · rw [hin] at hcon
          have hlt : decide ((0 : Int) ≤ R) = false := hcon.symm
          have HN : Hid (IterAt w s (i + 1) (wr.iterAt w.heap.size s (i + 1))) := Lib.hid (HI.out.next (by omega) (HI.out.no.succ HX.out hin))
          clear hcon hin hx128
          go_wp2_with ((with_reducible refine (HR.out _).mono ?_); rintro e w1 ⟨rfl, hw⟩; rw [hw]; clear hw)
          go_roundg g
          case measure => omega
          case rel => exact ⟨i + 1, by omega, HN.out⟩
        · rw [hin] at hcon
          have hlt : decide ((0 : Int) ≤ R) = true := hcon.symm
          have HN : Hid (Below w.heap.size w (wr.iterAt w.heap.size s (i + 1))) := Lib.hid (by
            have := HI.out.next (j := i) HI.out.le HI.out.no
            exact HI.out.below.trans ⟨rfl, rfl, rfl, by show _ ≤ (Array.setIfInBounds _ _ _).size; simp, fun k hk => by
              show (Array.setIfInBounds _ _ _)[k]? = _
              rw [Array.getElem?_setIfInBounds, if_neg (by omega)]⟩)
          have HE : Hid (Lib.indexAny s.data.toList [0, 61, 10] = (i : Int)) := Lib.hid (Lib.indexAny_hit HI.out.no HX.out hin)
          clear hcon hin hx128
          go_wp2_with ((with_reducible refine (HR.out _).mono ?_); rintro e w1 ⟨rfl, hw⟩; rw [hw]; clear hw)
          go_ret
          exact ⟨by rw [HE.out]; rfl, HN.out⟩
      · have hd := decode_high s i hi (by rw [hx]; omega)
        have hdl := decode_le s i
        have hsp := decode_span s i hi (by rw [hx]; omega)
        have hnx : ∀ ty, (Instr.next (.pointer (some ⟨w.heap.size, 0, none⟩)) true ty).run Tryd.prog wr = .ok (.tuple #[.bool true, .int .i64 i, .int .i32 ((Utf8.decode s i).1 : Int)]) (wr.iterAt w.heap.size s (i + (Utf8.decode s i).2)) := fun ty => Lib.run_next_any_at (P := Tryd.prog) wr w.heap.size s i ty HI.out.at' hi
        generalize (Utf8.decode s i).1 = r at *
        generalize (Utf8.decode s i).2 = m at *
        have HR : Hid (∀ w, _) := Lib.hid (fun w => idxrune_any w (r : Int) (by omega) (by omega))
        have HN : Hid (IterAt w s (i + m) (wr.iterAt w.heap.size s (i + m))) := Lib.hid (HI.out.next hsp.1 (fun j b hj hb => by
          by_cases hji : j < i
          · exact HI.out.no j b hji hb
          · have h1 := hsp.2 j (by omega) hj
            have hjs : j < s.size := by omega
            rw [get_le s j hjs] at h1
            have h2 := Lib.data_getElem? s j hjs
            rw [hb] at h2
            obtain rfl : b = s[j]'hjs := Option.some.inj h2
            simp only [List.contains_cons, List.contains_nil, Bool.or_false, Bool.or_eq_false_iff, beq_eq_false_iff_ne]
            refine ⟨?_, ?_, ?_⟩ <;> (intro e; rw [e] at h1; exact absurd h1 (by decide))))
        have hm1 : i + 1 ≤ i + m := by omega
        clear hxl hx hx128 hsp
        go_wp2_with ((with_reducible refine (HR.out _).mono ?_); rintro e w1 ⟨rfl, hb⟩; have HW : Hid (IterAt w s (i + m) w1) := Lib.hid (HN.out.later hb); clear hb)
        go_roundg g
        case measure => omega
        case rel => exact ⟨i + m, by omega, HW.out⟩
    · obtain rfl : i = s.size := by have := HI.out.le; omega
      have hnx := fun ty => Lib.run_next_end_at (P := Tryd.prog) wr w.heap.size s s.size ty HI.out.at' hi
      clear hi
      go_wp2_with fail
      go_ret
      exact ⟨by rw [Lib.indexAny_none (by have := HI.out.no; rw [← Lib.size_eq]; exact this)]; rfl, HI.out.below⟩
theorem bad3_ascii : ∀ (j : Nat) (b : UInt8), bad3.data.toList[j]? = some b → b.toNat < 128 := fun j b h => by
  have h2 : b ∈ ([0, 61, 10] : List UInt8) := List.mem_of_getElem? h
  simp only [List.mem_cons, List.not_mem_nil, or_false] at h2
  rcases h2 with rfl | rfl | rfl <;> decide
theorem idxany_walk (s : ByteArray) (w : World) (h8 : s.size ≤ 100000000) : Calls Tryd.prog 45 #[.string s, .string bad3] w fun e w' => e = .returned (.int .i64 (Lib.indexAny s.data.toList [0, 61, 10])) ∧ Below w.heap.size w w' := by
  by_cases h : s.size ≤ 8
  · exact idxany_short s w h
  · have h116 : (Tryd.prog.info? 97).map (fun i => (i.zero, i.size)) = some (some (.agg (Array.replicate 256 (.bool false))), 256) := by kernel_rfl
    refine (Any.strings_IndexAny_long Tryd.laysIa (zero_of_info h116).1 (zero_of_info h116).2 s bad3 w (by decide) (by omega) (by omega) (by decide) bad3_ascii).mono fun e w' ⟨h1, h2⟩ => ⟨h1, ?_⟩
    rw [h2]
    exact ((Below.refl _ _).alloc (Nat.le_refl _) _).alloc (by simp) _
theorem any_ok (l : List UInt8) : decide (0 ≤ Lib.indexAny l [0, 61, 10]) = !(l.all Px.okB) := by
  induction l with
  | nil => rfl
  | cons x t ih =>
    have hge := Lib.indexAny_ge [0, 61, 10] t
    rw [Lib.indexAny, List.all_cons]
    have hc : ([0, 61, 10] : List UInt8).contains x = !Px.okB x := by
      unfold Px.okB
      simp only [List.contains_cons, List.contains_nil, Bool.or_false, Bool.not_not]
    rw [hc]
    cases hk : Px.okB x
    · simp
    · simp only [Bool.not_true, Bool.false_eq_true, if_false, Bool.true_and]
      rw [← ih]
      by_cases h1 : Lib.indexAny t [0, 61, 10] = -1
      · rw [h1]; rfl
      · rw [if_neg (by simpa using h1), decide_eq_true (by omega), decide_eq_true (by omega)]
set_option maxHeartbeats 1000000 in
theorem cany_walk (s : ByteArray) (w : World) (h8 : s.size ≤ 100000000) : Calls Tryd.prog 37 #[.string s, .string bad3] w fun e w' => e = .returned (.bool (!(s.data.toList.all Px.okB))) ∧ Below w.heap.size w w' := by
  have HC := Lib.hid (idxany_walk s w h8)
  have HE := Lib.hid (any_ok s.data.toList)
  obtain ⟨R, hR⟩ : ∃ R, Lib.indexAny s.data.toList [0, 61, 10] = R := ⟨_, rfl⟩
  rw [hR] at HC HE
  clear hR h8
  go_enter Tryd.func37, Tryd.ntmps37
  go_wp2_with ((with_reducible refine HC.out.mono ?_); rintro e w1 ⟨rfl, hb⟩; have HB := Lib.hid hb; clear hb)
  go_ret
  exact ⟨by rw [← HE.out]; rfl, HB.out⟩
set_option maxHeartbeats 1000000 in
theorem isKey_walk (k : List UInt8) (s : ByteArray) (hk : s.data.toList = k) (w : World) : Calls Tryd.prog 28 #[.string s] w fun e w' => e = .returned (.bool (Px.okK k)) ∧ Below w.heap.size w w' := by
  have hsz : s.size = k.length := by rw [← hk]; exact Lib.size_eq s
  have hE : Px.okK k = (!k.isEmpty && (decide (k.length ≤ 255) && k.all Px.okB)) := rfl
  rw [hE]
  by_cases h0 : k = []
  · subst h0
    have hne : (s.toList == []) = true := by rw [Lib.toList_data, hk]; rfl
    clear hE
    go_enter Tryd.func28, Tryd.ntmps28
    go_wp2_with fail
    go_ret
    exact ⟨rfl, Below.refl _ _⟩
  · have hne : (s.toList == []) = false := by rw [Lib.toList_data, hk]; simpa using h0
    have hemp : k.isEmpty = false := by simpa using h0
    rw [hemp]
    by_cases h1 : k.length ≤ 255
    · have hd : decide ((s.size : Int) ≤ 255) = true := decide_eq_true (by omega)
      rw [decide_eq_true h1]
      have HC : Hid (Calls Tryd.prog 37 #[.string s, .string ⟨#[0, 61, 10]⟩] w fun e w' => e = .returned (.bool (!(k.all Px.okB))) ∧ Below w.heap.size w w') := Lib.hid (by have := cany_walk s w (by omega); rw [hk] at this; exact this)
      obtain ⟨A, hA⟩ : ∃ A, k.all Px.okB = A := ⟨_, rfl⟩
      rw [hA] at HC ⊢
      clear hA hE h0 hemp hk hsz h1
      go_enter Tryd.func28, Tryd.ntmps28
      go_wp2_with ((with_reducible refine HC.out.mono ?_); rintro e w1 ⟨rfl, hb⟩; have HB := Lib.hid hb; clear hb)
      go_ret
      exact ⟨by cases A <;> rfl, HB.out⟩
    · have hd : decide ((s.size : Int) ≤ 255) = false := decide_eq_false (by omega)
      rw [decide_eq_false h1]
      clear hE h0 hemp hk hsz h1
      go_enter Tryd.func28, Tryd.ntmps28
      go_wp2_with fail
      go_ret
      exact ⟨rfl, Below.refl _ _⟩
end Go.Proofs.YtjgphicmkmdeiaaDoor
