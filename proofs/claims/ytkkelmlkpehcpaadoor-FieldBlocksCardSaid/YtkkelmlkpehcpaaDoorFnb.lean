/-
  The document's own Number: the octal way.
-/
import Derived.Test.YtkkelmlkpehcpaaDoorFt
namespace Go.Proofs.YtkkelmlkpehcpaaDoor
open Go.RowKit

theorem lt60 (x : Int) (k : Nat) (hk : k ≤ 20) (h : x < (8 : Int) ^ k) : x < 1152921504606846976 := by
  have : (8 : Nat) ^ k ≤ 8 ^ 20 := Nat.pow_le_pow_right (by omega) (by omega)
  have h9 : ((8 ^ k : Nat) : Int) ≤ ((8 ^ 20 : Nat) : Int) := Int.ofNat_le.2 this
  rw [Int.natCast_pow, Int.natCast_pow] at h9
  have e : ((8 : Nat) : Int) ^ 20 = 1152921504606846976 := by decide
  rw [e] at h9
  exact Int.lt_of_lt_of_le h h9
theorem dropGet (l : List UInt8) (k : Nat) (h : k < l.length) : l.drop k = l.getD k 0 :: l.drop (k + 1) := by
  rw [List.drop_eq_getElem_cons h]
  congr 1
  simp [h]
def RSkip (l : List UInt8) (i : Value) : Prop := ∃ k : Nat, k ≤ l.length ∧ i = .int .i64 k ∧ Fx.skip l = Fx.skip (l.drop k)
def ROct2 (l : List UInt8) (i n : Value) : Prop := ∃ (k : Nat) (x : Int), k ≤ l.length ∧ i = .int .i64 k ∧ n = .int .i64 x ∧ 0 ≤ x ∧ x < 8 ^ k ∧ Fx.rdO 0 (Fx.skip l) = Fx.rdO x (l.drop k)
theorem pow_pos8 (k : Nat) : (0 : Int) < 8 ^ k := Int.pow_pos (by omega)
set_option maxRecDepth 100000 in
set_option maxHeartbeats 2000000 in
theorem rnum_oct (w : World) (g o m cap : Nat) (l : List UInt8) (hrow : RowAt w g o (bl l)) (hm : l.length = m) (h1 : 1 ≤ m) (h2 : m ≤ 20) (hb : bi (l.getD 0 0) < 128) :
    Calls Tryd.prog 15 #[.slice (some ⟨g, o, none⟩) m cap] w (NumPost (octR l) w) := by
  have hc : w.cell? ⟨g, o, none⟩ = some (.int .u8 (bi (l.getD 0 0))) := hrow.bl 0 (by omega)
  have HROW := Lib.hid hrow
  have HM := Lib.hid hm
  obtain ⟨R, hR⟩ : ∃ R, octR l = R := ⟨_, rfl⟩
  have HB : Hid (R = match Fx.rdO 0 (Fx.skip l) with | some n => (n, 0) | none => (0, 5)) := Lib.hid (by rw [← hR]; rfl)
  rw [hR]
  have hi : (0 : Int) < (m : Int) := by omega
  have hi2 : (m : Int) ≤ 20 := by omega
  have hd1 : decide ((m : Int) < 1) = false := decide_eq_false (by omega)
  have hd2 : decide (20 < (m : Int)) = false := decide_eq_false (by omega)
  generalize l.getD 0 0 = a0 at *
  have ha0 := bi_lt a0
  clear hrow hm hR h1 h2
  go_enter Tryd.func15, Tryd.ntmps15
  go_wp2_with fail
  clear hc hb ha0
  go_loop [4] (fun i => RSkip l i) (fun i => l.length - (intOf i).toNat)
  case atStart => exact ⟨0, by omega, rfl, rfl⟩
  case round =>
    obtain ⟨k, hk, rfl, hs⟩ := hrel
    have HK := Lib.hid hs
    clear hs
    have HPK := Lib.hid (pow_pos8 k)
    by_cases hlt : k < m
    · have hltI : (k : Int) < (m : Int) := by omega
      have hck := HROW.out.bl k (by rw [HM.out]; exact hlt)
      have HD : Hid (l.drop k = l.getD k 0 :: l.drop (k + 1)) := Lib.hid (dropGet l k (by rw [HM.out]; exact hlt))
      generalize l.getD k 0 = a at *
      have ha := bi_lt a
      by_cases h32 : a = 32
      · have HS : Hid (Fx.skip l = Fx.skip (l.drop (k + 1))) := Lib.hid (by rw [HK.out, HD.out, h32]; rfl)
        subst h32
        have hb : bi 32 = 32 := rfl
        rw [hb] at hck
        clear ha hk HPK
        go_wp2_with fail
        exact ⟨⟨k + 1, by have := HM.out; omega, by go_num, HS.out⟩, by have := HM.out; simp [intOf]; omega⟩
      · have HS : Hid (Fx.rdO 0 (Fx.skip l) = Fx.rdO 0 (l.drop k)) := Lib.hid (by rw [HK.out, HD.out, Fx.skip, if_neg h32])
        have t1 : (bi a == 32) = false := by rw [beq_eq_false_iff_ne]; exact fun h => h32 (bi_inj.1 (h.trans rfl))
        clear h32
        go_wp2_with fail
        clear hck t1 ha hltI hlt HK HD
        go_loop [4, 5] (fun i n => ROct2 l i n) (fun i _ => l.length - (intOf i).toNat)
        case atStart => exact ⟨k, 0, hk, rfl, rfl, by omega, HPK.out, HS.out⟩
        case round =>
          clear hk HS
          obtain ⟨k, x, hk, rfl, rfl, h1, h2, hr⟩ := hrel
          have HR := Lib.hid hr
          have HP := Lib.hid h2
          have h60 : x < 1152921504606846976 := lt60 x k (by have := HM.out; omega) h2
          clear hr h2
          by_cases hlt : k < m
          · have hltI : (k : Int) < (m : Int) := by omega
            have hck := HROW.out.bl k (by rw [HM.out]; exact hlt)
            have HD : Hid (l.drop k = l.getD k 0 :: l.drop (k + 1)) := Lib.hid (dropGet l k (by rw [HM.out]; exact hlt))
            generalize l.getD k 0 = a at *
            have ha := bi_lt a
            by_cases hlo : bi a < 48
            · have d1 : decide (48 ≤ bi a) = false := decide_eq_false (by omega)
              by_cases hend : a = 32 ∨ a = 0
              · have HE : Hid (R = (x, 0)) := Lib.hid (by rw [HB.out, HR.out, HD.out, rdO_end x a _ hend])
                rcases hend with rfl | rfl
                · have hb : bi 32 = 32 := rfl
                  rw [hb] at hck d1
                  clear hlo ha
                  go_wp2_with fail
                  go_ret2
                  rw [HE.out]
                  exact ⟨rfl, rfl⟩
                · have hb : bi 0 = 0 := rfl
                  rw [hb] at hck d1
                  clear hlo ha
                  go_wp2_with fail
                  go_ret2
                  rw [HE.out]
                  exact ⟨rfl, rfl⟩
              · have HE : Hid (R = (0, 5)) := Lib.hid (by rw [HB.out, HR.out, HD.out, rdO_bad x a _ hend (.inl (by unfold bi at hlo; omega))])
                have t1 : (bi a != 32) = true := by rw [bne_iff_ne]; exact fun h => hend (.inl (bi_inj.1 (h.trans rfl)))
                have t2 : (bi a != 0) = true := by rw [bne_iff_ne]; exact fun h => hend (.inr (bi_inj.1 (h.trans rfl)))
                have t3 : (bi a == 32) = false := by rw [beq_eq_false_iff_ne]; exact fun h => hend (.inl (bi_inj.1 (h.trans rfl)))
                have t4 : (bi a == 0) = false := by rw [beq_eq_false_iff_ne]; exact fun h => hend (.inr (bi_inj.1 (h.trans rfl)))
                clear hend hlo
                go_wp2_with fail
                go_ret2
                rw [HE.out]
                exact ⟨rfl, rfl⟩
            · have g1 : 48 ≤ bi a := by omega
              clear hlo
              by_cases hhi : 55 < bi a
              · have d2 : decide (bi a ≤ 55) = false := decide_eq_false (by omega)
                have hend : ¬ (a = 32 ∨ a = 0) := by rintro (rfl | rfl) <;> exact absurd g1 (by decide)
                have HE : Hid (R = (0, 5)) := Lib.hid (by rw [HB.out, HR.out, HD.out, rdO_bad x a _ hend (.inr (by unfold bi at hhi; omega))])
                have t1 : (bi a != 32) = true := by rw [bne_iff_ne]; exact fun h => hend (.inl (bi_inj.1 (h.trans rfl)))
                have t2 : (bi a != 0) = true := by rw [bne_iff_ne]; exact fun h => hend (.inr (bi_inj.1 (h.trans rfl)))
                have t3 : (bi a == 32) = false := by rw [beq_eq_false_iff_ne]; exact fun h => hend (.inl (bi_inj.1 (h.trans rfl)))
                have t4 : (bi a == 0) = false := by rw [beq_eq_false_iff_ne]; exact fun h => hend (.inr (bi_inj.1 (h.trans rfl)))
                clear hend hhi
                go_wp2_with fail
                go_ret2
                rw [HE.out]
                exact ⟨rfl, rfl⟩
              · have g2 : bi a ≤ 55 := by omega
                have hend : ¬ (a = 32 ∨ a = 0) := by rintro (rfl | rfl) <;> exact absurd g1 (by decide)
                have HON : Hid (Fx.rdO x (a :: l.drop (k + 1)) = Fx.rdO (x * 8 + (bi a - 48)) (l.drop (k + 1))) := Lib.hid (rdO_on x a _ hend (by unfold bi at g1 g2; omega))
                have HG := Lib.hid (And.intro g1 g2)
                clear hhi hend
                go_wp2_with fail
                refine ⟨⟨k + 1, x * 8 + (bi a - 48), by have := HM.out; omega, by go_num, by congr 1; omega, by omega, ?_, ?_⟩, by have := HM.out; simp [intOf]; omega⟩
                · have := HP.out
                  have := HG.out
                  rw [Int.pow_succ]; omega
                · rw [HR.out, HD.out, HON.out]
          · obtain rfl : k = m := by have := HM.out; omega
            have HE : Hid (R = (x, 0)) := Lib.hid (by
              rw [HB.out, HR.out, List.drop_eq_nil_of_le (by have := HM.out; omega)]; rfl)
            clear hlt
            go_wp2_with fail
            go_ret2
            rw [HE.out]
            exact ⟨rfl, rfl⟩
    · obtain hkm : k = m := by have := HM.out; omega
      have HS : Hid (Fx.rdO 0 (Fx.skip l) = Fx.rdO 0 (l.drop k)) := Lib.hid (by rw [HK.out, List.drop_eq_nil_of_le (by have := HM.out; omega)]; rfl)
      have hlt : decide ((k : Int) < (m : Int)) = false := decide_eq_false (by omega)
      clear hkm
      go_wp2_with fail
      clear HK hlt
      go_loop [4, 5] (fun i n => ROct2 l i n) (fun i _ => l.length - (intOf i).toNat)
      case atStart => exact ⟨k, 0, hk, rfl, rfl, by omega, HPK.out, HS.out⟩
      case round =>
        clear hk HS
        obtain ⟨k, x, hk, rfl, rfl, h1, h2, hr⟩ := hrel
        have HR := Lib.hid hr
        have HP := Lib.hid h2
        have h60 : x < 1152921504606846976 := lt60 x k (by have := HM.out; omega) h2
        clear hr h2
        by_cases hlt : k < m
        · have hltI : (k : Int) < (m : Int) := by omega
          have hck := HROW.out.bl k (by rw [HM.out]; exact hlt)
          have HD : Hid (l.drop k = l.getD k 0 :: l.drop (k + 1)) := Lib.hid (dropGet l k (by rw [HM.out]; exact hlt))
          generalize l.getD k 0 = a at *
          have ha := bi_lt a
          by_cases hlo : bi a < 48
          · have d1 : decide (48 ≤ bi a) = false := decide_eq_false (by omega)
            by_cases hend : a = 32 ∨ a = 0
            · have HE : Hid (R = (x, 0)) := Lib.hid (by rw [HB.out, HR.out, HD.out, rdO_end x a _ hend])
              rcases hend with rfl | rfl
              · have hb : bi 32 = 32 := rfl
                rw [hb] at hck d1
                clear hlo ha
                go_wp2_with fail
                go_ret2
                rw [HE.out]
                exact ⟨rfl, rfl⟩
              · have hb : bi 0 = 0 := rfl
                rw [hb] at hck d1
                clear hlo ha
                go_wp2_with fail
                go_ret2
                rw [HE.out]
                exact ⟨rfl, rfl⟩
            · have HE : Hid (R = (0, 5)) := Lib.hid (by rw [HB.out, HR.out, HD.out, rdO_bad x a _ hend (.inl (by unfold bi at hlo; omega))])
              have t1 : (bi a != 32) = true := by rw [bne_iff_ne]; exact fun h => hend (.inl (bi_inj.1 (h.trans rfl)))
              have t2 : (bi a != 0) = true := by rw [bne_iff_ne]; exact fun h => hend (.inr (bi_inj.1 (h.trans rfl)))
              have t3 : (bi a == 32) = false := by rw [beq_eq_false_iff_ne]; exact fun h => hend (.inl (bi_inj.1 (h.trans rfl)))
              have t4 : (bi a == 0) = false := by rw [beq_eq_false_iff_ne]; exact fun h => hend (.inr (bi_inj.1 (h.trans rfl)))
              clear hend hlo
              go_wp2_with fail
              go_ret2
              rw [HE.out]
              exact ⟨rfl, rfl⟩
          · have g1 : 48 ≤ bi a := by omega
            clear hlo
            by_cases hhi : 55 < bi a
            · have d2 : decide (bi a ≤ 55) = false := decide_eq_false (by omega)
              have hend : ¬ (a = 32 ∨ a = 0) := by rintro (rfl | rfl) <;> exact absurd g1 (by decide)
              have HE : Hid (R = (0, 5)) := Lib.hid (by rw [HB.out, HR.out, HD.out, rdO_bad x a _ hend (.inr (by unfold bi at hhi; omega))])
              have t1 : (bi a != 32) = true := by rw [bne_iff_ne]; exact fun h => hend (.inl (bi_inj.1 (h.trans rfl)))
              have t2 : (bi a != 0) = true := by rw [bne_iff_ne]; exact fun h => hend (.inr (bi_inj.1 (h.trans rfl)))
              have t3 : (bi a == 32) = false := by rw [beq_eq_false_iff_ne]; exact fun h => hend (.inl (bi_inj.1 (h.trans rfl)))
              have t4 : (bi a == 0) = false := by rw [beq_eq_false_iff_ne]; exact fun h => hend (.inr (bi_inj.1 (h.trans rfl)))
              clear hend hhi
              go_wp2_with fail
              go_ret2
              rw [HE.out]
              exact ⟨rfl, rfl⟩
            · have g2 : bi a ≤ 55 := by omega
              have hend : ¬ (a = 32 ∨ a = 0) := by rintro (rfl | rfl) <;> exact absurd g1 (by decide)
              have HON : Hid (Fx.rdO x (a :: l.drop (k + 1)) = Fx.rdO (x * 8 + (bi a - 48)) (l.drop (k + 1))) := Lib.hid (rdO_on x a _ hend (by unfold bi at g1 g2; omega))
              have HG := Lib.hid (And.intro g1 g2)
              clear hhi hend
              go_wp2_with fail
              refine ⟨⟨k + 1, x * 8 + (bi a - 48), by have := HM.out; omega, by go_num, by congr 1; omega, by omega, ?_, ?_⟩, by have := HM.out; simp [intOf]; omega⟩
              · have := HP.out
                have := HG.out
                rw [Int.pow_succ]; omega
              · rw [HR.out, HD.out, HON.out]
        · obtain rfl : k = m := by have := HM.out; omega
          have HE : Hid (R = (x, 0)) := Lib.hid (by
            rw [HB.out, HR.out, List.drop_eq_nil_of_le (by have := HM.out; omega)]; rfl)
          clear hlt
          go_wp2_with fail
          go_ret2
          rw [HE.out]
          exact ⟨rfl, rfl⟩
end Go.Proofs.YtkkelmlkpehcpaaDoor
