/-
  strings.Cut at one byte.
-/
import Derived.Test.YtjgphicmkmdeiaaDoorPk
import Derived.Lib.Bytealg
import Derived.Lib.IndexLaws
namespace Go.Proofs.YtjgphicmkmdeiaaDoor
open Go.RowKit Go.Maps

theorem ib_cons (x : UInt8) (t : List UInt8) (c : UInt8) : Lib.indexByte (x :: t) c = if x = c then 0 else if Lib.indexByte t c = -1 then -1 else Lib.indexByte t c + 1 := by
  rw [Lib.indexByte]
  by_cases h : x = c
  · simp [h]
  · simp [h]
theorem cut_idx (l : List UInt8) (c : UInt8) : (Lib.indexByte l c = -1 ∧ Px.cut c l = (l, [], false)) ∨ ∃ k : Nat, Lib.indexByte l c = (k : Int) ∧ k < l.length ∧ Px.cut c l = (l.take k, l.drop (k + 1), true) := by
  induction l with
  | nil => exact .inl ⟨rfl, rfl⟩
  | cons x t ih =>
    rw [ib_cons, Px.cut]
    by_cases h : x = c
    · exact .inr ⟨0, by rw [if_pos h]; rfl, by simp, by rw [if_pos h]; rfl⟩
    · rw [if_neg h, if_neg h]
      rcases ih with ⟨h1, h2⟩ | ⟨k, h1, h2, h3⟩
      · exact .inl ⟨by rw [if_pos h1], by rw [h2]⟩
      · exact .inr ⟨k + 1, by rw [if_neg (by omega), h1]; omega, by simp; omega, by rw [h3]; rfl⟩
set_option maxRecDepth 100000 in
set_option maxHeartbeats 1000000 in
theorem slib_walk (s : ByteArray) (c : UInt8) (w : World) : Calls Tryd.prog 75 #[.string s, .int .u8 (bi c)] w fun e w' => e = .returned (.int .i64 (Lib.indexByte s.data.toList c)) ∧ w' = w := by
  have e1 : ((bi c)).toNat.toUInt8 = c := by simp [bi]
  go_enter Tryd.func75, Tryd.ntmps75
  go_wp2
  rw [run_callFunc_extern Tryd.func80 (by kernel_rfl) (by kernel_rfl) (by kernel_rfl) (e := Extern.BytealgIndexByte.indexByte) (by kernel_rfl), Lib.run_indexByteString, e1]
  simp only [Result.andThen]
  rw [Oper.upon_value]
  go_wp2
  go_ret
  exact ⟨rfl, rfl⟩
set_option maxRecDepth 100000 in
set_option maxHeartbeats 1000000 in
theorem slidx_walk (s : ByteArray) (c : UInt8) (w : World) : Calls Tryd.prog 60 #[.string s, .string ⟨#[c]⟩] w fun e w' => e = .returned (.int .i64 (Lib.indexByte s.data.toList c)) ∧ w' = w := by
  obtain ⟨sp, hsp⟩ : ∃ sp, (⟨#[c]⟩ : ByteArray) = sp := ⟨_, rfl⟩
  have hs1 : (sp.size : Int) = 1 := by rw [← hsp]; rfl
  have hix : ∀ w, (Instr.index 9 (.string sp) (.int .i64 0)).run Tryd.prog w = .ok (.int .u8 (bi c)) w := fun w => by
    rw [run_index_string (P := Tryd.prog) (w := w) 9 sp .i64 0 Tryd.underlying9, dif_pos (by omega)]
    subst hsp; rfl
  have heq : (sp.toList == s.toList) = true → Lib.indexByte s.data.toList c = 0 := fun h => by
    have h1 := beq_iff_eq.1 h
    rw [Lib.toList_data, Lib.toList_data, ← hsp] at h1
    rw [← h1]
    show Lib.indexByte [c] c = 0
    rw [ib_cons, if_pos rfl]
  rw [hsp]
  have HC := Lib.hid (slib_walk s c w)
  have HE := Lib.hid heq
  clear hsp heq
  obtain ⟨R, hR⟩ : ∃ R, Lib.indexByte s.data.toList c = R := ⟨_, rfl⟩
  rw [hR] at HC HE ⊢
  clear hR
  cases hq : (sp.toList == s.toList)
  · go_enter Tryd.func60, Tryd.ntmps60
    go_wp2_with ((with_reducible refine HC.out.mono ?_); rintro e w' ⟨rfl, rfl⟩)
    go_ret
    exact ⟨rfl, rfl⟩
  · have h0 := HE.out hq
    rw [h0]
    go_enter Tryd.func60, Tryd.ntmps60
    go_wp2_with ((with_reducible refine HC.out.mono ?_); rintro e w' ⟨rfl, rfl⟩)
    go_ret
    exact ⟨rfl, rfl⟩
theorem ext_take (s : ByteArray) (l : List UInt8) (hl : s.data.toList = l) (k : Nat) : s.extract 0 k = ⟨(l.take k).toArray⟩ := by
  apply ByteArray.ext
  rw [ByteArray.data_extract]
  apply Array.ext'
  rw [Array.toList_extract, hl]
  simp [List.extract_eq_take_drop]
theorem ext_drop (s : ByteArray) (l : List UInt8) (hl : s.data.toList = l) (k : Nat) : s.extract k s.size = ⟨(l.drop k).toArray⟩ := by
  have hsz : s.size = l.length := by rw [← hl]; exact Lib.size_eq s
  apply ByteArray.ext
  rw [ByteArray.data_extract]
  apply Array.ext'
  rw [Array.toList_extract, hl]
  simp only [List.extract_eq_take_drop]
  rw [hsz, List.take_of_length_le (by simp)]
set_option maxRecDepth 100000 in
set_option maxHeartbeats 1000000 in
theorem slcut_walk (s : ByteArray) (l : List UInt8) (hl : s.data.toList = l) (hm : l.length ≤ 1099511627776) (c : UInt8) (w : World) : Calls Tryd.prog 46 #[.string s, .string ⟨#[c]⟩] w fun e w' =>
    e = .returned (.tuple #[.string ⟨(Px.cut c l).1.toArray⟩, .string ⟨(Px.cut c l).2.1.toArray⟩, .bool (Px.cut c l).2.2]) ∧ Below w.heap.size w w' := by
  have hsz : s.size = l.length := by rw [← hl]; exact Lib.size_eq s
  have HC := Lib.hid (slidx_walk s c w)
  rw [hl] at HC
  obtain ⟨sp, hsp⟩ : ∃ sp, (⟨#[c]⟩ : ByteArray) = sp := ⟨_, rfl⟩
  have hs1 : (sp.size : Int) = 1 := by rw [← hsp]; rfl
  rw [hsp] at HC ⊢
  rcases cut_idx l c with ⟨h1, h2⟩ | ⟨k, h1, h2, h3⟩
  · rw [h2]
    rw [h1] at HC
    have hs : (⟨l.toArray⟩ : ByteArray) = s := by rw [← hl]
    rw [hs]
    clear h1 h2 hs hl hsz hsp hm
    go_enter Tryd.func46, Tryd.ntmps46
    go_wp2_with ((with_reducible refine HC.out.mono ?_); rintro e w' ⟨rfl, rfl⟩)
    go_ret3
    exact ⟨rfl, Below.refl _ _⟩
  · rw [h3]
    rw [h1] at HC
    have e1 := ext_take s l hl k
    have e2 := ext_drop s l hl (k + 1)
    simp only
    rw [← e1, ← e2]
    have hk1 : (k : Int) + 1 ≤ (s.size : Int) := by omega
    have hk2 : (k : Int) ≤ (s.size : Int) := by omega
    have hk3 : (k : Int) + 1 ≤ 1099511627777 := by omega
    have hw : IntKind.i64.wrap ((k : Int) + 1) = (k : Int) + 1 := IntWalk.i64_in _ (by omega)
    have hk4 : (0 : Int) ≤ (k : Int) + 1 := by omega
    have hk5 : ((k : Int) + 1).toNat = k + 1 := by omega
    clear h1 h2 h3 e1 e2 hl hsz hsp hm
    go_enter Tryd.func46, Tryd.ntmps46
    go_wp2_with ((with_reducible refine HC.out.mono ?_); rintro e w' ⟨rfl, rfl⟩)
    go_quiet (fail)
    go_wp2_with fail
    go_ret3
    exact ⟨rfl, rfl, rfl, rfl, Nat.le_refl _, fun _ _ => rfl⟩
set_option maxHeartbeats 1000000 in
theorem scut_walk (s : ByteArray) (l : List UInt8) (hl : s.data.toList = l) (hm : l.length ≤ 1099511627776) (c : UInt8) (w : World) : Calls Tryd.prog 39 #[.string s, .string ⟨#[c]⟩] w fun e w' =>
    e = .returned (.tuple #[.string ⟨(Px.cut c l).1.toArray⟩, .string ⟨(Px.cut c l).2.1.toArray⟩, .bool (Px.cut c l).2.2]) ∧ Below w.heap.size w w' := by
  have HC := Lib.hid (slcut_walk s l hl hm c w)
  generalize Px.cut c l = R at *
  clear hl hm
  go_enter Tryd.func39, Tryd.ntmps39
  go_wp2_with ((with_reducible refine HC.out.mono ?_); rintro e w1 ⟨rfl, hb⟩; have HB := Lib.hid hb; clear hb)
  go_ret3
  exact ⟨rfl, HB.out⟩
end Go.Proofs.YtjgphicmkmdeiaaDoor
