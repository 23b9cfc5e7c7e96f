/-
  The contract of brought.
-/
import Derived.Test.YtoifppfhnedahaaRowKit
import Derived.Test.YtoifppfhnedahaaFullKit
import Derived.Test.YtoifppfhnedahaaSymF
namespace Go.Proofs.Ytoifppfhnedahaa
open Go.RowKit Hf

/-- The counts that the law counts with. -/
def bro (ls : List Nat) : List Int := (ls.take 40).map fun (z : Nat) => (z : Int) % 1000001
theorem bro_length (ls : List Nat) : (bro ls).length = min ls.length 40 := by simp [bro, Nat.min_comm]
theorem bro_bound (ls : List Nat) (i : Nat) : 0 ≤ (bro ls).getD i 0 ∧ (bro ls).getD i 0 ≤ 1000000 := by
  rcases Nat.lt_or_ge i (bro ls).length with h | h
  · rw [List.getD_eq_getElem?_getD, List.getElem?_eq_getElem h]
    simp only [bro, List.getElem_map, Option.getD_some]
    omega
  · rw [List.getD_eq_getElem?_getD, List.getElem?_eq_none h]; simp
theorem bro_step (ls : List Nat) (k : Nat) (hk : k < ls.length) (h6 : k < 40) : (bro ls).take (k + 1) = (bro ls).take k ++ [((ls.getD k 0 : Nat) : Int) % 1000001] := by
  have hl : k < (bro ls).length := by rw [bro_length]; omega
  rw [List.take_add_one, List.getElem?_eq_getElem hl]
  simp [bro, hk]
theorem bro_ok (ls : List Nat) : okC (bro ls) = true := by
  rw [okC_of _ (fun i _ => by have := bro_bound ls i; omega), decide_eq_true_iff, bro_length]; omega
theorem exits40 {k l : Nat} (h : ¬ (k < l ∧ k < 40)) : ((k : Int) < (l : Int) ∧ (40 : Int) ≤ (k : Int)) ∨ (l : Int) ≤ (k : Int) := by omega
set_option maxRecDepth 100000 in
set_option maxHeartbeats 1000000 in
theorem brought_walk (w : World) (v : Value) (ls : List Nat) (hv : SlV w v (nu ls)) (hb : ∀ z ∈ ls, z < 4294967296) :
    Calls Try.prog 26 #[v] w fun e w' => ∃ u, e = .returned u ∧ w'.ownsRow w.heap.size 3 1 u (bro ls).length (ni (bro ls)) ∧ Below w.heap.size w w' := by
  obtain ⟨i0, hi, hz0, hz1, hz2⟩ := info_parts info3
  have HI0 := Lib.hid (And.intro hi (And.intro hz0 (And.intro hz1 hz2)))
  clear hi hz0 hz1 hz2
  obtain ⟨p, cap, rfl⟩ := hv.shape
  rw [nu_length] at *
  obtain ⟨l, hl0⟩ : ∃ l, l = ls.length := ⟨_, rfl⟩
  rw [← hl0] at hv
  rw [← hl0]
  have HN := Lib.hid hl0
  have HV := Lib.hid hv
  have HBY := Lib.hid hb
  clear hl0 hv hb
  go_enter Try.func26, Try.ntmps26
  go_wp2_with fail
  go_loopw [3, 4] (fun v3 v wr => ∃ k : Nat, k ≤ l ∧ k ≤ 40 ∧ v = .int .i64 k ∧ wr.ownsRow w.heap.size 3 1 v3 k (ni ((bro ls).take k)) ∧ Below w.heap.size w wr) (fun _ v _ => 40 - (intOf v).toNat)
  case atStart => exact ⟨0, Nat.zero_le _, Nat.zero_le _, rfl, World.ownsRow_nil _ _ _ _, Below.refl _ _⟩
  case round =>
    obtain ⟨k, hk, hk6, rfl, hO, hB⟩ := hrel
    obtain ⟨p5, cap5, rfl⟩ := own_shape hO
    have HO := Lib.hid hO
    have HB := Lib.hid hB
    have hsz : w.heap.size ≤ wr.heap.size := hB.size
    clear hO hB
    by_cases hlt : k < l ∧ k < 40
    · obtain ⟨hlt, hl6⟩ := hlt
      have h1 : (k : Int) < (l : Int) := by omega
      have h2 : (k : Int) < 40 := by omega
      obtain ⟨g, o, rfl, hrow⟩ := (HV.out.below HB.out (Nat.le_refl _)).some (by omega)
      have hcap := HV.out.le
      have hkb : k < ls.length := by rw [← HN.out]; exact hlt
      have hc := hrow.nu k hkb
      have hzb := HBY.out (ls.getD k 0) (by rw [List.getD_eq_getElem?_getD, List.getElem?_eq_getElem hkb]; exact List.getElem_mem hkb)
      have HP := Lib.hid (bro_step ls k hkb hl6)
      clear hrow hkb
      generalize ls.getD k 0 = z at hc hzb HP
      have hz0 : (0 : Int) ≤ (z : Int) := by omega
      have hz1 : (z : Int) < 4294967296 := by omega
      generalize (z : Int) = y at hc hz0 hz1 HP
      go_wp2_with (refine wpList_appK 22 3 i0 (.int .i64 0) 1 8 Try.underlying22 HI0.out.1 HI0.out.2.1 HI0.out.2.2.1 HI0.out.2.2.2 rfl (by decide) (by decide) rfl _ _ rfl w.heap.size (.slice p5 k cap5) (.slice (some ⟨wr.heap.size, 0, none⟩) 1 1) k 1 _ [.int .i64 (y % 1000001)] rfl rfl (one_int _) (HO.out.alloc _) (SlK_new wr _) (by simp; omega) (by omega) ?_; intro v' w9 hown hgrow _; obtain ⟨p9, cap9, hv'⟩ := own_shape hown; have HOW := Lib.hid hown; have HGR := Lib.hid hgrow; clear hown hgrow; subst hv')
      refine ⟨⟨k + 1, by omega, by omega, by go_num, ?_, ((HB.out.alloc HB.out.size _).grown HGR.out (by simp; omega) (fun k e => (HO.out.lt k e).1))⟩, by simp [intOf]; omega⟩
      rw [HP.out, ni_append]
      exact HOW.out
    · have hkz : k = (bro ls).length := by rw [bro_length, ← HN.out]; omega
      have HF : Hid (wr.ownsRow w.heap.size 3 1 (.slice p5 k cap5) (bro ls).length (ni (bro ls))) := Lib.hid (by
        have := HO.out
        have e : (bro ls).take k = bro ls := by rw [hkz, List.take_length]
        rw [e] at this; rw [← hkz]; exact this)
      clear hkz HO
      rcases exits40 hlt with ⟨h1, h2⟩ | h1 <;> clear hlt
      · go_wp2_with fail
        go_ret
        exact ⟨_, rfl, HF.out, HB.out⟩
      · go_wp2_with fail
        go_ret
        exact ⟨_, rfl, HF.out, HB.out⟩
end Go.Proofs.Ytoifppfhnedahaa
