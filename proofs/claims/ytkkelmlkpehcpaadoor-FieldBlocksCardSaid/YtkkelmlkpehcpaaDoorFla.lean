/-
  The document's own Place.
-/
import Derived.BigQuiet
import Derived.Test.YtkkelmlkpehcpaaDoorFj
namespace Go.Proofs.YtkkelmlkpehcpaaDoor
open Go.RowKit

theorem beq_no {a b : ByteArray} (h : a ≠ b) : (a.toList == b.toList) = false := by
  rw [beq_eq_false_iff_ne]
  rw [Go.ByteArray.toList_eq, Go.ByteArray.toList_eq]
  exact fun he => h (ByteArray.ext (Array.toList_inj.1 he))
theorem find_none (t : Tab) (s : List UInt8) (h : ∀ x ∈ t, x.1 ≠ s) : Tab.find t s = none := by
  induction t with
  | nil => rfl
  | cons x r ih =>
    unfold Tab.find
    rw [if_neg (h x List.mem_cons_self)]
    exact ih fun y hy => h y (List.mem_cons_of_mem _ hy)
theorem place_none (s : ByteArray) (h : ∀ j, j < 16 → nameA j ≠ s) : place s.data.toList = none := by
  refine find_none _ _ fun x hx => ?_
  intro hxs
  have hx := List.mem_reverse.1 hx
  obtain ⟨j, hj, he⟩ := List.getElem_of_mem hx
  have hj16 : j < 16 := hj
  refine h j hj16 ?_
  unfold nameA
  have : (fields.map fun x : List UInt8 × Nat × Nat => x.1).getD j [] = x.1 := by
    rw [List.getD_eq_getElem?_getD, List.getElem?_map, List.getElem?_eq_getElem hj, he]; rfl
  rw [this, hxs]
def RPlaceLoop (s : ByteArray) (a i : Value) : Prop := ∃ k : Nat, k ≤ 16 ∧ i = .int .i64 k ∧ a = .int .i64 (pA k : Nat) ∧ ∀ j, j < k → nameA j ≠ s
def RPlacePost (s : ByteArray) (w : World) (e : Ending) (w' : World) : Prop := ∃ p n : Nat, e = .returned (.tuple #[.int .i64 (p : Int), .int .i64 (n : Int)]) ∧ (place s.data.toList = some (p, n) ∨ place s.data.toList = none ∧ p = 0 ∧ n = 0) ∧ Below w.heap.size w w'
def lensV : Array Value := ((List.range 16).map fun k => Value.int .i64 (nA k : Nat)).toArray
theorem lensV_eq : lensV = #[.int .i64 100, .int .i64 8, .int .i64 8, .int .i64 8, .int .i64 12, .int .i64 12, .int .i64 8, .int .i64 1, .int .i64 100, .int .i64 6, .int .i64 2, .int .i64 32, .int .i64 32, .int .i64 8, .int .i64 8, .int .i64 155] := by kernel_rfl
set_option maxRecDepth 100000 in
set_option maxHeartbeats 2000000 in
theorem rplace_walk (w : World) (s : ByteArray) (hs : s.size ≤ maxLen) :
    Calls Tryd.prog 22 #[.string s] w (RPlacePost s w) := by
  go_enter Tryd.func22, Tryd.ntmps22
  go_wp2_with fail
  rw [← namesV_eq, ← lensV_eq]
  have HC1 : Hid (∀ k, k < 16 → ((w.alloc (.cells namesV 9)).alloc (.cells lensV 3)).cell? ⟨w.heap.size, 0 + k, none⟩ = some (.string (nameA k))) := Lib.hid fun k hk => by
    rw [Nat.zero_add, cell_of_row _ _ _ _ _ _ (heap_alloc2_old w (.cells namesV 9) (.cells lensV 3))]
    simp [namesV, hk]
  have HC2 : Hid (∀ k, k < 16 → ((w.alloc (.cells namesV 9)).alloc (.cells lensV 3)).cell? ⟨w.heap.size + 1, 0 + k, none⟩ = some (.int .i64 (nA k : Nat))) := Lib.hid fun k hk => by
    rw [Nat.zero_add, cell_of_row _ _ _ _ _ _ (heap_alloc2_new w (.cells namesV 9) (.cells lensV 3))]
    simp [lensV, hk]
  have HB : Hid (Below w.heap.size w ((w.alloc (.cells namesV 9)).alloc (.cells lensV 3))) := Lib.hid (((Below.refl _ _).alloc (Nat.le_refl _) _).alloc (by simp) _)
  generalize (w.alloc (.cells namesV 9)).alloc (.cells lensV 3) = W at *
  go_loop [6, 7] (fun a i => RPlaceLoop s a i) (fun _ i => 16 - (intOf i).toNat)
  case atStart => exact ⟨0, by omega, rfl, rfl, fun j hj => by omega⟩
  case round =>
    obtain ⟨k, hk, rfl, rfl, hne⟩ := hrel
    have HNE := Lib.hid hne
    clear hne
    by_cases hlt : k < 16
    · have hltI : (k : Int) < 16 := by omega
      have hc1 := HC1.out k hlt
      have hc2 := HC2.out k hlt
      rw [Nat.zero_add] at hc1 hc2
      obtain ⟨f1, f2, f3, f4, f5⟩ := place_at k hlt
      have HF1 := Lib.hid f1
      have HF2 := Lib.hid f2
      have hp5 : (pA k : Int) ≤ 500 := by omega
      have hn5 : (nA k : Int) ≤ 500 := by omega
      have HK := Lib.hid hlt
      generalize pA k = p at *
      generalize nA k = n at *
      clear f1 f2 f3 f4 f5 hk hlt
      by_cases he : nameA k = s
      · have HP : Hid (place s.data.toList = some (p, n)) := Lib.hid (by rw [← he]; exact HF1.out)
        generalize nameA k = z at *
        subst he
        go_wp2_with fail
        go_quiet (fail)
        go_wp2_with fail
        go_ret2
        exact ⟨p, n, rfl, .inl HP.out, below_drewN HB.out _⟩
      · have hb : ((nameA k).toList == s.toList) = false := beq_no he
        have HNN : Hid (nameA k ≠ s) := Lib.hid he
        have HNJ : Hid (∀ j, j < k + 1 → nameA j ≠ s) := Lib.hid fun j hj => by
          rcases Nat.lt_or_ge j k with h | h
          · exact HNE.out j h
          · obtain rfl : j = k := by omega
            exact HNN.out
        generalize nameA k = z at *
        go_wp2_with fail
        exact ⟨⟨k + 1, by have := HK.out; omega, by go_num, by rw [HF2.out]; go_num, HNJ.out⟩, by have := HK.out; simp [intOf]; omega⟩
    · obtain rfl : k = 16 := by omega
      have HP : Hid (place s.data.toList = none) := Lib.hid (place_none s HNE.out)
      clear hlt hk
      go_wp2_with fail
      go_ret2
      exact ⟨0, 0, rfl, .inr ⟨HP.out, rfl, rfl⟩, HB.out⟩
end Go.Proofs.YtkkelmlkpehcpaaDoor
