/-
  The library's calls over texts' bytes; MayName.
-/
import Derived.Test.YtgdnemjlmhmhhaaDoorHc
import Derived.Lib.LastIndexByte
namespace Go.Proofs.YtgdnemjlmhmhhaaDoor
open Go.RowKit Go.Maps

theorem hp_walk (s p : ByteArray) (w : World) : Calls Tryd.prog 35 #[.string s, .string p] w fun e w' => e = .returned (.bool (p.data.toList.isPrefixOf s.data.toList)) ∧ w' = w := Any.strings_HasPrefix Tryd.laysHp s p w
theorem ts_walk (s p : ByteArray) (w : World) (hs : s.size ≤ 100000) : Calls Tryd.prog 42 #[.string s, .string p] w fun e w' => e = .returned (.string (sb (Lib.trimSuffix s.data.toList p.data.toList))) ∧ w' = w := Any.strings_TrimSuffix Tryd.laysTs s p w (by omega)
theorem cp_walk (s p : ByteArray) (w : World) : Calls Tryd.prog 50 #[.string s, .string p] w fun e w' => e = .returned (.tuple #[.string (sb (Lib.trimPrefix s.data.toList p.data.toList)), .bool (p.data.toList.isPrefixOf s.data.toList)]) ∧ w' = w := Any.strings_CutPrefix Tryd.laysCp s p w
theorem co_walk (s : ByteArray) (c : UInt8) (w : World) : Calls Tryd.prog 38 #[.string s, .string ⟨#[c]⟩] w fun e w' => e = .returned (.bool (decide (0 ≤ Lib.indexByte s.data.toList c))) ∧ w' = w := Any.strings_Contains_one Tryd.laysCo s c w
theorem ib_has (l : List UInt8) (c : UInt8) : decide (0 ≤ Lib.indexByte l c) = l.contains c := (Lib.contains_iff_indexByte l c).symm
theorem cut_ge (l : List UInt8) : -1 ≤ Pt.cut l := by
  induction l with
  | nil => exact Int.le_refl _
  | cons x t ih => unfold Pt.cut; split <;> (try split) <;> omega
theorem cut_lt (l : List UInt8) : Pt.cut l < l.length := by
  induction l with
  | nil => decide
  | cons x t ih => unfold Pt.cut; simp only [List.length_cons]; split <;> (try split) <;> omega
theorem cut_none (l : List UInt8) (h : 47 ∉ l) : Pt.cut l = -1 := by
  induction l with
  | nil => rfl
  | cons x t ih =>
    rw [List.mem_cons, not_or] at h
    unfold Pt.cut
    rw [ih h.2, if_neg (by omega), if_neg (fun e => h.1 e.symm)]
theorem cut_at (a b : List UInt8) (h : 47 ∉ b) : Pt.cut (a ++ 47 :: b) = a.length := by
  induction a with
  | nil => show Pt.cut (47 :: b) = 0; unfold Pt.cut; rw [cut_none b h]; rfl
  | cons x t ih =>
    show Pt.cut (x :: (t ++ 47 :: b)) = _
    unfold Pt.cut
    rw [ih, if_pos (by omega)]
    simp
theorem cut_spec (l : List UInt8) : (47 ∉ l ∧ Pt.cut l = -1) ∨ ∃ a b, l = a ++ 47 :: b ∧ 47 ∉ b ∧ Pt.cut l = a.length := by
  induction l with
  | nil => exact .inl ⟨by simp, rfl⟩
  | cons x t ih =>
    rcases ih with ⟨h1, h2⟩ | ⟨a, b, rfl, h2, h3⟩
    · by_cases hx : x = 47
      · subst hx
        exact .inr ⟨[], t, rfl, h1, cut_at [] t h1⟩
      · have h : 47 ∉ x :: t := by rw [List.mem_cons, not_or]; exact ⟨fun e => hx e.symm, h1⟩
        exact .inl ⟨h, cut_none _ h⟩
    · exact .inr ⟨x :: a, b, rfl, h2, cut_at (x :: a) b h2⟩
theorem bang_at (s : ByteArray) (j : Nat) (h : j < s.size) : s.data.toList[j]? = some (s.data[j]!) := by
  have h2 : j < s.data.size := h
  rw [getElem!_pos s.data j h2, Array.getElem?_toList, Array.getElem?_eq_getElem h2]
theorem li_cut (s : ByteArray) : Lib.lastIndexByte s 47 = Pt.cut s.data.toList := by
  have hsz := Lib.size_eq s
  have hv : ∀ j : Nat, ((s.data[j]!).toNat : Int) = 47 ↔ s.data[j]! = 47 := fun j => by
    constructor
    · intro h
      refine UInt8.toNat_inj.1 ?_
      show (s.data[j]!).toNat = 47
      omega
    · intro h
      rw [h]; rfl
  rcases cut_spec s.data.toList with ⟨h1, h2⟩ | ⟨a, b, h1, h2, h3⟩
  · rw [h2]
    rcases Lib.lastIndexByte_spec s 47 with ⟨e, _⟩ | ⟨i, hi, e, hc, _⟩
    · exact e
    · have := bang_at s i hi
      rw [(hv i).1 hc] at this
      exact absurd (List.mem_of_getElem? this) h1
  · rw [h3]
    have hlen : a.length < s.size := by rw [hsz, h1]; simp
    have hat : s.data[a.length]! = 47 := by
      have := bang_at s a.length hlen
      rw [h1] at this
      simpa using this.symm
    rcases Lib.lastIndexByte_spec s 47 with ⟨e, hn⟩ | ⟨i, hi, e, hc, hn⟩
    · exact absurd ((hv _).2 hat) (hn _ hlen)
    · rw [e]
      rcases Nat.lt_trichotomy i a.length with h | h | h
      · exact absurd ((hv _).2 hat) (hn _ h hlen)
      · rw [h]
      · have := bang_at s i hi
        rw [(hv i).1 hc, h1, List.getElem?_append_right (by omega)] at this
        obtain ⟨k, hk⟩ : ∃ k, i - a.length = k + 1 := ⟨i - a.length - 1, by omega⟩
        rw [hk, List.getElem?_cons_succ] at this
        exact absurd (List.mem_of_getElem? this) h2
theorem li_walk (s : ByteArray) (w : World) (hs : s.size ≤ 100000) : Calls Tryd.prog 48 #[.string s, .string ⟨#[47]⟩] w fun e w' => e = .returned (.int .i64 (Pt.cut s.data.toList)) ∧ w' = w := by
  have := Any.strings_LastIndex_one Tryd.laysLi s ⟨#[47]⟩ rfl (by omega) w
  rw [show (((⟨#[47]⟩ : ByteArray)[0]'(by decide)).toNat : Int) = 47 from rfl, li_cut s] at this
  exact this
set_option maxHeartbeats 1000000 in
theorem parent_walk (p : List UInt8) (hp : p.length ≤ 100000) (w : World) : Calls Tryd.prog 21 #[.string (sb p)] w fun e w' => e = .returned (.string (sb (Pt.parent p))) ∧ w' = w := by
  have HL := Lib.hid (li_walk (sb p) w (by rw [sb_size]; exact hp))
  have h1 := cut_ge p
  have h2 := cut_lt p
  have hres : (sb p).extract 0 (max 0 (Pt.cut p)).toNat = sb (Pt.parent p) := by
    rw [sb_extract]
    unfold Pt.parent
    have : (max 0 (Pt.cut p)).toNat = (Pt.cut p).toNat := by omega
    rw [this, List.drop_zero, Nat.sub_zero]
  rw [sb_data] at HL
  have hsz : ((sb p).size : Int) = (p.length : Int) := by rw [sb_size]
  obtain ⟨C, hC⟩ : ∃ C, Pt.cut p = C := ⟨_, rfl⟩
  rw [hC] at HL h1 h2 hres
  have HR := Lib.hid hres
  obtain ⟨b, hb⟩ : ∃ b, sb p = b := ⟨_, rfl⟩
  rw [hb] at HL HR hsz ⊢
  have hb2 : (b.size : Int) ≤ 100000 := by omega
  clear hres hb hC
  go_enter Tryd.func21, Tryd.ntmps21
  go_wp2_with ((with_reducible refine HL.out.mono ?_); rintro e w' ⟨rfl, hw⟩; rw [hw]; clear hw)
  go_ret
  exact ⟨by rw [HR.out]; rfl, rfl⟩
set_option maxHeartbeats 1000000 in
theorem base_walk (p : List UInt8) (hp : p.length ≤ 100000) (w : World) : Calls Tryd.prog 23 #[.string (sb p)] w fun e w' => e = .returned (.string (sb (Pt.base p))) ∧ w' = w := by
  have HL := Lib.hid (li_walk (sb p) w (by rw [sb_size]; exact hp))
  have h1 := cut_ge p
  have h2 := cut_lt p
  have hres : (sb p).extract (Pt.cut p + 1).toNat (sb p).size = sb (Pt.base p) := by
    rw [sb_extract, sb_size]
    unfold Pt.base
    rw [List.take_of_length_le (by simp)]
  rw [sb_data] at HL
  have hsz : ((sb p).size : Int) = (p.length : Int) := by rw [sb_size]
  obtain ⟨C, hC⟩ : ∃ C, Pt.cut p = C := ⟨_, rfl⟩
  rw [hC] at HL h1 h2 hres
  have HR := Lib.hid hres
  obtain ⟨b, hb⟩ : ∃ b, sb p = b := ⟨_, rfl⟩
  rw [hb] at HL HR hsz ⊢
  have hb2 : (b.size : Int) ≤ 100000 := by omega
  have hc2 : C + 1 ≤ (b.size : Int) := by omega
  clear hres hb hC
  go_enter Tryd.func23, Tryd.ntmps23
  go_wp2_with ((with_reducible refine HL.out.mono ?_); rintro e w' ⟨rfl, hw⟩; rw [hw]; clear hw)
  go_ret
  exact ⟨by rw [HR.out]; rfl, rfl⟩
/-- ContainsAny, of a name. -/
theorem ca_walk (s : List UInt8) (hs : s.length ≤ 100000) (w : World) : Calls Tryd.prog 36 #[.string (sb s), .string bad2] w fun e w' => e = .returned (.bool (!(s.all Pt.okB))) ∧ Below w.heap.size w w' := cany_walk (sb s) w (by rw [sb_size]; omega)
def MayPost (s : List UInt8) (w : World) (e : Ending) (w' : World) : Prop := e = .returned (.bool (Pt.mayName s)) ∧ Below w.heap.size w w'
set_option maxHeartbeats 1000000 in
theorem mayName_walk (s : List UInt8) (hs : s.length ≤ 100000) (w : World) : Calls Tryd.prog 12 #[.string (sb s)] w (MayPost s w) := by
  have HC := Lib.hid (ca_walk s hs w)
  have HP : Hid (∀ w, _) := Lib.hid (fun w => hp_walk (sb s) ⟨#[46, 119, 104, 46]⟩ w)
  rw [sb_data, show (⟨#[46, 119, 104, 46]⟩ : ByteArray).data.toList = Pt.wh from rfl] at HP
  have hE : Pt.mayName s = (s != [] && s != [46] && s != [46, 46] && decide (s.length ≤ 251) && s.all Pt.okB && !Pt.wh.isPrefixOf s) := rfl
  have h1 : ((sb s).toList == []) = (s == []) := by rw [sb_list]
  have h2 : ((sb s).toList == [46]) = (s == [46]) := by rw [sb_list]
  have h3 : ((sb s).toList == [46, 46]) = (s == [46, 46]) := by rw [sb_list]
  have hsz : ((sb s).size : Int) = (s.length : Int) := by rw [sb_size]
  unfold MayPost
  rw [hE]
  clear hE
  obtain ⟨b, hb⟩ : ∃ b, sb s = b := ⟨_, rfl⟩
  rw [hb] at HC HP h1 h2 h3 hsz ⊢
  clear hb
  simp only [bne]
  have hcc : ((⟨#[47, 0]⟩ : ByteArray)) = bad2 := rfl
  by_cases c1 : (s == []) = true
  · rw [c1] at h1 ⊢
    clear hsz HC HP
    go_enter Tryd.func12, Tryd.ntmps12
    go_wp2_with (fail)
    go_ret
    exact ⟨by simp, Below.refl _ _⟩
  replace c1 : (s == []) = false := Bool.eq_false_iff.2 c1
  rw [c1] at h1 ⊢
  by_cases c2 : (s == [46]) = true
  · rw [c2] at h2 ⊢
    clear hsz HC HP
    go_enter Tryd.func12, Tryd.ntmps12
    go_wp2_with (fail)
    go_ret
    exact ⟨by simp, Below.refl _ _⟩
  replace c2 : (s == [46]) = false := Bool.eq_false_iff.2 c2
  rw [c2] at h2 ⊢
  by_cases c3 : (s == [46, 46]) = true
  · rw [c3] at h3 ⊢
    clear hsz HC HP
    go_enter Tryd.func12, Tryd.ntmps12
    go_wp2_with (fail)
    go_ret
    exact ⟨by simp, Below.refl _ _⟩
  replace c3 : (s == [46, 46]) = false := Bool.eq_false_iff.2 c3
  rw [c3] at h3 ⊢
  by_cases c4 : s.length ≤ 251
  · have d4 : decide ((b.size : Int) ≤ 251) = true := decide_eq_true (by omega)
    rw [decide_eq_true c4]
    obtain ⟨A, hA⟩ : ∃ A, s.all Pt.okB = A := ⟨_, rfl⟩
    obtain ⟨B, hB⟩ : ∃ B, Pt.wh.isPrefixOf s = B := ⟨_, rfl⟩
    rw [hA] at HC ⊢
    rw [hB] at HP ⊢
    clear hA hB c1 c2 c3 c4 hsz
    cases A
    · go_enter Tryd.func12, Tryd.ntmps12
      go_wp2_with (first | ((with_reducible refine HC.out.mono ?_); rintro e w1 ⟨rfl, hb1⟩; have HB := Lib.hid hb1; clear hb1) | ((with_reducible refine (HP.out _).mono ?_); rintro e w2 ⟨rfl, hw⟩; rw [hw]; clear hw))
      go_ret
      exact ⟨by simp, HB.out⟩
    · go_enter Tryd.func12, Tryd.ntmps12
      go_wp2_with (first | ((with_reducible refine HC.out.mono ?_); rintro e w1 ⟨rfl, hb1⟩; have HB := Lib.hid hb1; clear hb1) | ((with_reducible refine (HP.out _).mono ?_); rintro e w2 ⟨rfl, hw⟩; rw [hw]; clear hw))
      go_ret
      exact ⟨by cases B <;> rfl, HB.out⟩
  · have d4 : decide ((b.size : Int) ≤ 251) = false := decide_eq_false (by omega)
    rw [decide_eq_false c4]
    clear hsz HC HP c4
    go_enter Tryd.func12, Tryd.ntmps12
    go_wp2_with (fail)
    go_ret
    exact ⟨by simp, Below.refl _ _⟩
end Go.Proofs.YtgdnemjlmhmhhaaDoor
