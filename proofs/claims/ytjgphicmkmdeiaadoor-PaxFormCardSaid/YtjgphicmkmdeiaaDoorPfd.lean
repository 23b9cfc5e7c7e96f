/-
  The document's own Last.
-/
import Derived.Test.YtjgphicmkmdeiaaDoorPgb
import Derived.Test.YtjgphicmkmdeiaaDoorPyc
namespace Go.Proofs.YtjgphicmkmdeiaaDoor
open Go.RowKit Go.Maps

theorem lastK_step (l : List Px.Rec) (j : Nat) (r : Px.Rec) (h : l[j]? = some r) (key : List UInt8) : lastK (l.take (j + 1)) key = if r.1 == key then (r.2, true) else lastK (l.take j) key := by
  unfold lastK
  rw [List.take_add_one, h, Option.toList_some, List.reverse_append, List.reverse_singleton, List.singleton_append, List.find?_cons]
  cases r.1 == key <;> rfl
set_option maxRecDepth 100000 in
set_option maxHeartbeats 2000000 in
theorem rlast_walk (w : World) (v : Value) (l : List Px.Rec) (key : List UInt8) (hv : SlR w v l) (hl : l.length ≤ 1000000) : Calls Tryd.prog 14 #[v, .string ⟨key.toArray⟩] w fun e w' =>
    e = .returned (.tuple #[.string ⟨(lastK l key).1.toArray⟩, .bool (lastK l key).2]) ∧ w' = w := by
  obtain ⟨p, cap, rfl⟩ := hv.shape
  have HV := Lib.hid hv
  have hcap := hv.le
  obtain ⟨n, hn⟩ : ∃ n, l.length = n := ⟨_, rfl⟩
  rw [hn] at hcap hl ⊢
  have hnI : (n : Int) ≤ 1000000 := by omega
  have HN := Lib.hid hn
  obtain ⟨bk, hbk⟩ : ∃ x, (⟨key.toArray⟩ : ByteArray) = x := ⟨_, rfl⟩
  have HBK := Lib.hid hbk
  rw [hbk]
  clear hv hn hl hbk
  go_enter Tryd.func14, Tryd.ntmps14
  go_wp2_with fail
  go_loopw [6, 7, 8] (fun a b i wr => ∃ j : Nat, j ≤ n ∧ i = .int .i64 (j : Int) ∧ a = .string ⟨(lastK (l.take j) key).1.toArray⟩ ∧ b = .bool (lastK (l.take j) key).2 ∧ wr = w) (fun _ _ i _ => n - (intOf i).toNat)
  case atStart => exact ⟨0, Nat.zero_le _, rfl, rfl, rfl, rfl⟩
  case round =>
    obtain ⟨j, hj, rfl, rfl, rfl, rfl⟩ := hrel
    obtain ⟨A, hA⟩ : ∃ A, lastK (l.take j) key = A := ⟨_, rfl⟩
    have HA := Lib.hid hA
    rw [hA]
    clear hA
    obtain ⟨a1, a2⟩ := A
    simp only
    by_cases hjn : j < n
    · have hjl : j < l.length := by rw [HN.out]; exact hjn
      obtain ⟨r, hr⟩ : ∃ r, l[j]? = some r := ⟨_, List.getElem?_eq_getElem hjl⟩
      have HV2 := HV
      rw [HN.out] at HV2
      obtain ⟨g, o, rfl, hcap2, hcell⟩ := HV2.out.at (by omega)
      obtain ⟨e0, e1⟩ := hcell j r hr
      have HST := Lib.hid (lastK_step l j r hr key)
      have HJ := Lib.hid hjn
      obtain ⟨k1, k2⟩ := r
      simp only at e0 e1
      have hcmp : ((⟨k1.toArray⟩ : ByteArray).toList == bk.toList) = (k1 == key) := by
        rw [← HBK.out, Lib.toList_data, Lib.toList_data]
      obtain ⟨b1, hb1⟩ : ∃ x, (⟨k1.toArray⟩ : ByteArray) = x := ⟨_, rfl⟩
      obtain ⟨b2, hb2⟩ : ∃ x, (⟨k2.toArray⟩ : ByteArray) = x := ⟨_, rfl⟩
      rw [hb1] at e0 hcmp
      rw [hb2] at e1
      have HB2 := Lib.hid hb2
      have hjI : (j : Int) < (n : Int) := by omega
      clear hr hcell HV2 hb1 hb2 hjl
      cases hk : k1 == key with
      | true =>
        rw [hk] at hcmp
        have HS2 : Hid (lastK (l.take (j + 1)) key = (k2, true)) := Lib.hid (by rw [HST.out]; simp only [hk, if_true])
        clear hk hjn hj
        go_wp2_with fail
        refine ⟨⟨j + 1, HJ.out, by go_num, ?_, ?_, trivial⟩, by have := HJ.out; simp only [intOf]; omega⟩
        · rw [HS2.out, HB2.out]
        · rw [HS2.out]
      | false =>
        rw [hk] at hcmp
        have HS2 : Hid (lastK (l.take (j + 1)) key = (a1, a2)) := Lib.hid (by rw [HST.out]; simp only [hk, Bool.false_eq_true, if_false]; exact HA.out)
        clear hk hjn hj
        go_wp2_with fail
        refine ⟨⟨j + 1, HJ.out, by go_num, ?_, ?_, trivial⟩, by have := HJ.out; simp only [intOf]; omega⟩
        · rw [HS2.out]
        · rw [HS2.out]
    · have hj2 : j = n := by omega
      have hjI : decide ((j : Int) < (n : Int)) = false := decide_eq_false (by omega)
      have hjI2 : decide (j < n) = false := decide_eq_false hjn
      have HE : Hid (lastK l key = (a1, a2)) := Lib.hid (by
        have := HA.out
        rwa [List.take_of_length_le (by rw [HN.out]; omega)] at this)
      clear hjn hj2
      go_wp2_with fail
      go_ret2
      exact ⟨by rw [HE.out]; rfl, rfl⟩
end Go.Proofs.YtjgphicmkmdeiaaDoor
