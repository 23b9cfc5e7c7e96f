/-
  bytes.TrimLeft of blanks; reading octal; field.Number.
-/
import Derived.Test.YtkkelmlkpehcpaaDoorFn
namespace Go.Proofs.YtkkelmlkpehcpaaDoor
open Go.RowKit

def TrimPost (l : List UInt8) (w : World) (e : Ending) (w' : World) : Prop := ∃ v, e = .returned v ∧ SlV w v (bl (Fx.skip l)) ∧ w = w'
def TrimLoop (w : World) (l : List UInt8) (v : Value) : Prop := ∃ r, SlV w v (bl r) ∧ Fx.skip l = Fx.skip r ∧ r.length ≤ l.length
def lenOfV (v : Value) : Nat := match v with
  | .slice _ n _ => n
  | _ => 0
set_option maxRecDepth 100000 in
set_option maxHeartbeats 1000000 in
theorem trimb_walk (w : World) (v : Value) (l : List UInt8) (h : SlV w v (bl l)) (hl : l.length ≤ 1000) :
    Calls Tryd.prog 66 #[v, .int .u8 32] w (TrimPost l w) := by
  have H := Lib.hid h
  have HL := Lib.hid hl
  clear h hl
  go_enter Tryd.func66, Tryd.ntmps66
  go_wp2_with fail
  go_loop [0] (fun v => TrimLoop w l v) (fun v => lenOfV v)
  case atStart => exact ⟨l, H.out, rfl, Nat.le_refl _⟩
  case round =>
    obtain ⟨r, hr, he, hle⟩ := hrel
    obtain ⟨p, cap, rfl⟩ := hr.shape
    rw [bl_length] at hr ⊢
    have HE := Lib.hid he
    have HR := Lib.hid hr
    have hcap := hr.le
    have HLE := Lib.hid hle
    clear he hle
    cases r with
    | nil =>
      clear hr
      simp only [List.length_nil] at *
      go_wp2_with fail
      go_ret
      exact ⟨_, rfl, by rw [HE.out]; exact .inr ⟨none, rfl, rfl⟩, rfl⟩
    | cons a t =>
      obtain ⟨g, o, rfl, hrow⟩ := hr.some (by simp)
      have hc := hrow.bl 0 (by simp)
      rw [Nat.add_zero] at hc
      obtain ⟨p', c', hsl, hS⟩ := slice_fromB hr 1 (by simp)
      have hsl1 : ∀ w', (Instr.sliceAt 22 (.slice (some ⟨g, o, none⟩) (t.length + 1) cap) (some (.int .i64 1)) none none).run Tryd.prog w' = .ok (.slice p' t.length c') w' := hsl
      have HS : Hid (SlV w (.slice p' t.length c') (bl t)) := Lib.hid hS
      simp only [List.length_cons] at HR HLE hcap ⊢
      have hl9 : (t.length : Int) + 1 ≤ 1000 := by have := HL.out; have := HLE.out; omega
      have hc' : w.cell? ⟨g, o, none⟩ = some (.int .u8 (bi a)) := hc
      clear hr hrow hc hsl hS
      by_cases ha : a = 32
      · subst ha
        have hb : bi 32 = 32 := rfl
        rw [hb] at hc'
        go_wp2_with fail
        exact ⟨⟨t, HS.out, by rw [HE.out, Fx.skip, if_pos rfl], by have := HLE.out; omega⟩, by simp [lenOfV]⟩
      · have hb : bi a ≠ 32 := fun h => ha (bi_inj.1 (h.trans rfl))
        have t1 : (bi a == 32) = false := by rw [beq_eq_false_iff_ne]; exact hb
        have t3 : decide (bi a = 32) = false := decide_eq_false hb
        have HSK : Hid (Fx.skip (a :: t) = a :: t) := Lib.hid (by rw [Fx.skip, if_neg ha])
        clear hb ha
        go_wp2_with fail
        go_ret
        exact ⟨_, rfl, by rw [HE.out, HSK.out]; exact HR.out, rfl⟩
set_option maxRecDepth 100000 in
set_option maxHeartbeats 1000000 in
theorem triml_walk (w : World) (v : Value) (l : List UInt8) (h : SlV w v (bl l)) (hl : l.length ≤ 1000) :
    Calls Tryd.prog 51 #[v, .string ⟨#[32]⟩] w (TrimPost l w) := by
  have HC := Lib.hid (trimb_walk w v l h hl)
  obtain ⟨p, cap, rfl⟩ := h.shape
  rw [bl_length] at *
  have hcap := h.le
  clear h
  have hix : ∀ w, (Instr.index 9 (.string ⟨#[32]⟩) (.int .i64 0)).run Tryd.prog w = .ok (.int .u8 32) w := fun w => by kernel_rfl
  cases l with
  | nil =>
    clear hl
    simp only [List.length_nil] at *
    go_enter Tryd.func51, Tryd.ntmps51
    go_wp2_with fail
    go_ret
    exact ⟨_, rfl, .inr ⟨none, rfl, rfl⟩, rfl⟩
  | cons a t =>
    obtain ⟨m, hm⟩ : ∃ m, (a :: t).length = m := ⟨_, rfl⟩
    have h0 : (0 : Int) < (m : Int) := by rw [← hm]; simp
    rw [hm] at HC hl hcap ⊢
    have h1 : (m : Int) ≤ 1000 := by omega
    clear hm hl
    have hne : decide ((m : Int) = 0) = false := decide_eq_false (by omega)
    have hne2 : ((m : Int) == 0) = false := by rw [beq_eq_false_iff_ne]; omega
    go_enter Tryd.func51, Tryd.ntmps51
    go_wp2_with ((with_reducible refine HC.out.mono ?_); rintro e w' ⟨v, rfl, hv, rfl⟩)
    go_ret
    exact ⟨_, rfl, hv, rfl⟩
def octR (l : List UInt8) : Int × Int := match Fx.rdO 0 (Fx.skip l) with
  | some n => (n, 0)
  | none => (0, 5)
def OctLoop (s : List UInt8) (n i : Value) : Prop := ∃ (k : Nat) (x : Int), k ≤ s.length ∧ i = .int .i64 k ∧ n = .int .i64 x ∧ 0 ≤ x ∧ x < 8 ^ k ∧ Fx.rdO 0 s = Fx.rdO x (s.drop k)
theorem skip_le (l : List UInt8) : (Fx.skip l).length ≤ l.length := by
  induction l with
  | nil => simp [Fx.skip]
  | cons a t ih =>
    rw [Fx.skip]
    split
    · simp; omega
    · simp
theorem rdO_end (x : Int) (a : UInt8) (t : List UInt8) (h : a = 32 ∨ a = 0) : Fx.rdO x (a :: t) = some x := by rw [Fx.rdO, if_pos h]
theorem rdO_bad (x : Int) (a : UInt8) (t : List UInt8) (h : ¬ (a = 32 ∨ a = 0)) (h2 : a.toNat < 48 ∨ 55 < a.toNat) : Fx.rdO x (a :: t) = none := by rw [Fx.rdO, if_neg h, if_pos h2]
theorem rdO_on (x : Int) (a : UInt8) (t : List UInt8) (h : ¬ (a = 32 ∨ a = 0)) (h2 : ¬ (a.toNat < 48 ∨ 55 < a.toNat)) : Fx.rdO x (a :: t) = Fx.rdO (x * 8 + ((a.toNat : Int) - 48)) t := by rw [Fx.rdO, if_neg h, if_neg h2]
set_option maxRecDepth 100000 in
set_option maxHeartbeats 1000000 in
theorem rdoct_walk (w : World) (v : Value) (l : List UInt8) (h : SlV w v (bl l)) (hl : l.length ≤ 20) :
    Calls Tryd.prog 36 #[v] w (NumPost (octR l) w) := by
  have HC := Lib.hid (triml_walk w v l h (by omega))
  have HSL : Hid ((Fx.skip l).length ≤ 20) := Lib.hid (by have := skip_le l; omega)
  obtain ⟨R, hR⟩ : ∃ R, octR l = R := ⟨_, rfl⟩
  have HB : Hid (R = match Fx.rdO 0 (Fx.skip l) with | some n => (n, 0) | none => (0, 5)) := Lib.hid (by rw [← hR]; rfl)
  rw [hR]
  unfold TrimPost at HC
  generalize Fx.skip l = s at *
  clear hR h hl
  go_enter Tryd.func36, Tryd.ntmps36
  go_wp2_with ((with_reducible refine HC.out.mono ?_); rintro e w' ⟨v, rfl, hv, rfl⟩; obtain ⟨p, cap, rfl⟩ := hv.shape; have hcap := hv.le; have HV := Lib.hid hv; clear hv; rw [bl_length] at HV hcap; have hs20 := HSL.out; have hs20i : (s.length : Int) ≤ 20 := by omega)
  go_loop [4, 10] (fun n i => OctLoop s n i) (fun _ i => s.length - (intOf i).toNat)
  case atStart => exact ⟨0, 0, by omega, rfl, rfl, by omega, by simp, rfl⟩
  case round =>
    obtain ⟨k, x, hk, rfl, rfl, h1, h2, hr⟩ := hrel
    have HR := Lib.hid hr
    have HP := Lib.hid h2
    have h60 : x < 1152921504606846976 := by
      have : (8 : Nat) ^ k ≤ 8 ^ 20 := Nat.pow_le_pow_right (by omega) (by omega)
      have h9 : ((8 ^ k : Nat) : Int) ≤ ((8 ^ 20 : Nat) : Int) := Int.ofNat_le.2 this
      rw [Int.natCast_pow, Int.natCast_pow] at h9
      have e : ((8 : Nat) : Int) ^ 20 = 1152921504606846976 := by decide
      rw [e] at h9
      exact Int.lt_of_lt_of_le h2 h9
    clear hr h2 HC
    by_cases hlt : k < s.length
    · have hltI : (k : Int) < (s.length : Int) := by omega
      obtain ⟨g', o', rfl, hrow⟩ := HV.out.some (by omega)
      have hck := hrow.bl k hlt
      have HD : Hid (s.drop k = s.getD k 0 :: s.drop (k + 1)) := Lib.hid (by
        rw [List.drop_eq_getElem_cons hlt]
        congr 1
        simp [hlt])
      generalize s.getD k 0 = a at *
      have ha := bi_lt a
      clear hrow
      by_cases hend : a = 32 ∨ a = 0
      · have HE : Hid (R = (x, 0)) := Lib.hid (by rw [HB.out, HR.out, HD.out, rdO_end x a _ hend])
        rcases hend with rfl | rfl
        · have hb : bi 32 = 32 := rfl
          rw [hb] at hck
          go_wp2_with fail
          go_ret2
          rw [HE.out]
          exact ⟨rfl, rfl⟩
        · have hb : bi 0 = 0 := rfl
          rw [hb] at hck
          go_wp2_with fail
          go_ret2
          rw [HE.out]
          exact ⟨rfl, rfl⟩
      · have hn32 : bi a ≠ 32 := fun h => hend (.inl (bi_inj.1 (h.trans rfl)))
        have hn0 : bi a ≠ 0 := fun h => hend (.inr (bi_inj.1 (h.trans rfl)))
        have t1 : (bi a == 32) = false := by rw [beq_eq_false_iff_ne]; exact hn32
        have t2 : (bi a == 0) = false := by rw [beq_eq_false_iff_ne]; exact hn0
        have HEND := Lib.hid hend
        clear hn32 hn0 hend
        by_cases hlo : bi a < 48
        · have HE : Hid (R = (0, 5)) := Lib.hid (by rw [HB.out, HR.out, HD.out, rdO_bad x a _ HEND.out (.inl (by unfold bi at hlo; omega))])
          go_wp2_with fail
          go_ret2
          rw [HE.out]
          exact ⟨rfl, rfl⟩
        · have d1 : decide (bi a < 48) = false := decide_eq_false hlo
          have g1 : 48 ≤ bi a := by omega
          clear hlo
          by_cases hhi : 55 < bi a
          · have HE : Hid (R = (0, 5)) := Lib.hid (by rw [HB.out, HR.out, HD.out, rdO_bad x a _ HEND.out (.inr (by unfold bi at hhi; omega))])
            go_wp2_with fail
            go_ret2
            rw [HE.out]
            exact ⟨rfl, rfl⟩
          · have d2 : decide (55 < bi a) = false := decide_eq_false hhi
            have g2 : bi a ≤ 55 := by omega
            have hor : bits .or .i64 (x * 8) (bi a - 48) = x * 8 + (bi a - 48) := by
              have := i64_or_low x 3 (a.toNat - 48) (by unfold bi at g1 g2; omega) (by omega) (by omega) (by omega)
              have e : (((a.toNat - 48 : Nat)) : Int) = bi a - 48 := by unfold bi at g1 ⊢; omega
              rw [e] at this
              exact this
            have HON : Hid (Fx.rdO x (a :: s.drop (k + 1)) = Fx.rdO (x * 8 + (bi a - 48)) (s.drop (k + 1))) := Lib.hid (rdO_on x a _ HEND.out (by unfold bi at g1 g2; omega))
            have HG := Lib.hid (And.intro g1 g2)
            clear hhi
            go_wp2_with fail
            refine ⟨⟨k + 1, x * 8 + (bi a - 48), by omega, by go_num, rfl, by omega, ?_, ?_⟩, by simp [intOf]; omega⟩
            · have := HP.out
              have := HG.out
              rw [Int.pow_succ]; omega
            · rw [HR.out, HD.out, HON.out]
    · obtain rfl : k = s.length := by omega
      have HE : Hid (R = (x, 0)) := Lib.hid (by
        rw [HB.out, HR.out, List.drop_eq_nil_of_le (Nat.le_refl _)]; rfl)
      clear hlt
      go_wp2_with fail
      go_ret2
      rw [HE.out]
      exact ⟨rfl, rfl⟩
set_option maxRecDepth 100000 in
set_option maxHeartbeats 1000000 in
theorem number_walk (w : World) (v : Value) (l : List UInt8) (h : SlV w v (bl l)) (hl : l.length ≤ 1099511627776) :
    Calls Tryd.prog 14 #[v] w (NumPost (Fx.num l) w) := by
  have H := h
  obtain ⟨p, cap, rfl⟩ := h.shape
  rw [bl_length] at *
  have hcap := h.le
  by_cases hlen : l.length = 0 ∨ 20 < l.length
  · have HE : Hid (Fx.num l = (0, 1)) := Lib.hid (if_pos hlen)
    rw [HE.out]
    obtain ⟨m, hm⟩ : ∃ m, l.length = m := ⟨_, rfl⟩
    rw [hm] at hlen hcap ⊢
    clear hm h H hl
    rcases hlen with rfl | hlen
    · go_enter Tryd.func14, Tryd.ntmps14
      go_wp2_with fail
      go_ret2
      exact ⟨rfl, rfl⟩
    · have hi : (20 : Int) < (m : Int) := by omega
      have hi0 : (0 : Int) < (m : Int) := by omega
      have hne2 : ((m : Int) == 0) = false := by rw [beq_eq_false_iff_ne]; omega
      clear hlen
      go_enter Tryd.func14, Tryd.ntmps14
      go_wp2_with fail
      go_ret2
      exact ⟨rfl, rfl⟩
  · cases l with
    | nil => exact absurd (.inl rfl) hlen
    | cons b t =>
      obtain ⟨g, o, rfl, hrow⟩ := h.some (by simp)
      have hc : w.cell? ⟨g, o, none⟩ = some (.int .u8 (bi b)) := hrow.bl 0 (by simp)
      have hlt : t.length ≤ 19 := by simp at hlen; omega
      have hb := bi_lt b
      have e1 : Fx.num (b :: t) = if 128 ≤ b.toNat then wideR (b :: t) else octR (b :: t) := by
        unfold Fx.num
        rw [if_neg hlen]
        rfl
      have HC2 := fun hb2 => Lib.hid (rdwide_walk w _ _ cap b t H hlt hb2)
      have HC3 := Lib.hid (rdoct_walk w _ (b :: t) H (by simp; omega))
      obtain ⟨m, hm⟩ : ∃ m, (b :: t).length = m := ⟨_, rfl⟩
      have hi : (0 : Int) < (m : Int) := by rw [← hm]; simp
      have hi2 : (m : Int) ≤ 20 := by rw [← hm]; simp; omega
      rw [hm] at HC2 HC3 hcap ⊢
      have hne2 : ((m : Int) == 0) = false := by rw [beq_eq_false_iff_ne]; omega
      have hd2 : decide (20 < (m : Int)) = false := decide_eq_false (by omega)
      rw [e1]
      clear e1 hm hlt hrow h H hl hlen
      by_cases h8 : 128 ≤ b.toNat
      · rw [if_pos h8]
        have HC := HC2 h8
        have hge : 128 ≤ bi b := by unfold bi; omega
        clear HC2 HC3 h8
        unfold NumPost at HC ⊢
        generalize wideR (b :: t) = r at *
        go_enter Tryd.func14, Tryd.ntmps14
        go_wp2_with ((with_reducible refine HC.out.mono ?_); rintro e w' ⟨rfl, rfl⟩)
        go_ret2
        exact ⟨rfl, rfl⟩
      · rw [if_neg h8]
        have hge : bi b < 128 := by unfold bi; omega
        clear HC2 h8
        unfold NumPost at HC3 ⊢
        generalize octR (b :: t) = r at *
        go_enter Tryd.func14, Tryd.ntmps14
        go_wp2_with ((with_reducible refine HC3.out.mono ?_); rintro e w' ⟨rfl, rfl⟩)
        go_ret2
        exact ⟨rfl, rfl⟩
end Go.Proofs.YtkkelmlkpehcpaaDoor
