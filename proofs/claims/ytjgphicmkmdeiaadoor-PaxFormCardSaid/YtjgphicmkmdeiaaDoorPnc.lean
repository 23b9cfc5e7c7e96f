/-
  The document's own Number.
-/
import Derived.Test.YtjgphicmkmdeiaaDoorPnb
namespace Go.Proofs.YtjgphicmkmdeiaaDoor
open Go.RowKit Go.Maps

theorem beq_dec (a b : List UInt8) : (a == b) = decide (a = b) := by
  by_cases h : a = b
  · subst h; simp
  · simp [h]
/-- Digits' number. -/
def vl (l : List UInt8) : Nat := l.foldl (fun a c => 10 * a + (c.toNat - 48)) 0
def isD (c : UInt8) : Prop := 48 ≤ c.toNat ∧ c.toNat ≤ 57
theorem vl_snoc (l : List UInt8) (c : UInt8) : vl (l ++ [c]) = 10 * vl l + (c.toNat - 48) := by
  unfold vl; rw [List.foldl_append]; rfl
theorem vl_dec (n : Nat) : vl (Lib.decDigits n) = n := by
  induction n using Nat.strongRecOn with
  | _ n ih =>
    by_cases h : n < 10
    · rw [Px.dec_small h]
      show 10 * 0 + ((UInt8.ofNat (48 + n)).toNat - 48) = n
      rw [Px.dig n h]; omega
    · rw [Px.dec_big h, vl_snoc, ih _ (by omega), Px.dig _ (by omega)]; omega
theorem take_snoc (l : List UInt8) (i : Nat) (h : i < l.length) : l.take (i + 1) = l.take i ++ [l[i]] := by
  rw [List.take_add_one, List.getElem?_eq_getElem h]; rfl
/-- What a number's text looks like. -/
theorem itoa_pos_facts (n : Nat) (h : n < 9223372036854775808) : 1 ≤ (Lib.decDigits n).length ∧ (Lib.decDigits n).length ≤ 19 ∧ (∀ c ∈ Lib.decDigits n, isD c) := by
  refine ⟨?_, ?_, fun c hc => Px.dec_digits n c hc⟩
  · rw [Px.dec_len]; exact Lib.nDigits_pos n
  · rw [Px.dec_len]; exact Px.dg_lt (k := 18) (by omega)
theorem itoa_neg_facts (n : Nat) (h : n ≤ 9223372036854775808) : 1 ≤ (Lib.decDigits n).length ∧ (Lib.decDigits n).length ≤ 19 ∧ (∀ c ∈ Lib.decDigits n, isD c) := by
  refine ⟨?_, ?_, fun c hc => Px.dec_digits n c hc⟩
  · rw [Px.dec_len]; exact Lib.nDigits_pos n
  · rw [Px.dec_len]; exact Px.dg_lt (k := 18) (by omega)
/-- A text that begins with no - : what makes it none's. -/
theorem num_pos {l : List UInt8} {v : Int} (h0 : ∀ t, l ≠ 45 :: t) (h : num l = some v) : ∃ n : Nat, v = (n : Int) ∧ n < 9223372036854775808 ∧ l = Lib.decDigits n := by
  obtain ⟨h1, h2, h3⟩ := (Px.num_iff l v).1 h
  by_cases hv : 0 ≤ v
  · obtain ⟨n, rfl⟩ : ∃ n : Nat, v = n := ⟨v.toNat, by omega⟩
    exact ⟨n, rfl, by omega, by rw [h1, Lib.itoa_nonneg]⟩
  · exfalso
    obtain ⟨n, rfl⟩ : ∃ n : Nat, v = -(n : Int) := ⟨v.natAbs, by omega⟩
    rw [Lib.itoa_neg n (by omega)] at h1
    exact h0 _ h1
theorem num_neg {t : List UInt8} {v : Int} (h : num (45 :: t) = some v) : ∃ n : Nat, v = -(n : Int) ∧ 1 ≤ n ∧ n ≤ 9223372036854775808 ∧ t = Lib.decDigits n := by
  obtain ⟨h1, h2, h3⟩ := (Px.num_iff _ v).1 h
  by_cases hv : 0 ≤ v
  · exfalso
    obtain ⟨n, rfl⟩ : ∃ n : Nat, v = n := ⟨v.toNat, by omega⟩
    rw [Lib.itoa_nonneg] at h1
    have := Px.dec_digits n 45 (by rw [← h1]; simp)
    exact absurd this.1 (by decide)
  · obtain ⟨n, rfl⟩ : ∃ n : Nat, v = -(n : Int) := ⟨v.natAbs, by omega⟩
    rw [Lib.itoa_neg n (by omega)] at h1
    exact ⟨n, rfl, by omega, by omega, by injection h1⟩
/-- What Number has under way. -/
def NumLoop (l : List UInt8) (f : Nat) (v5 v6 : Value) (w wr : World) : Prop := ∃ i n : Nat, f ≤ i ∧ i ≤ l.length ∧ v6 = .int .i64 (i : Int) ∧ v5 = .int .u64 (n : Int) ∧ n = vl ((l.drop f).take (i - f)) ∧ (∀ c ∈ (l.drop f).take (i - f), isD c) ∧ n < 10 ^ (i - f) ∧ wr = w
/-- The answer of Number. -/
def NumPost (l : List UInt8) (w : World) (e : Ending) (w' : World) : Prop := e = .returned (.tuple #[.int .i64 ((num l).getD 0), .bool (num l).isSome]) ∧ Below w.heap.size w w'
theorem numPost_no {l : List UInt8} {w w' : World} (h : num l = none) (hb : Below w.heap.size w w') : NumPost l w (.returned (.tuple #[.int .i64 0, .bool false])) w' := ⟨by rw [h]; rfl, hb⟩
theorem numPost_yes {l : List UInt8} {w w' : World} {v : Int} (h : num l = some v) (hb : Below w.heap.size w w') : NumPost l w (.returned (.tuple #[.int .i64 v, .bool true])) w' := ⟨by rw [h]; rfl, hb⟩
theorem str_ix (bs : ByteArray) (l : List UInt8) (hl : bs.data.toList = l) (i : Nat) (hi : i < l.length) : ∀ w, (Instr.index 9 (.string bs) (.int .i64 (i : Int))).run Tryd.prog w = .ok (.int .u8 (bi (l.getD i 0))) w := fun w => by
  have hsz : bs.size = l.length := by rw [← hl]; exact Lib.size_eq bs
  rw [run_index_string (P := Tryd.prog) (w := w) 9 bs .i64 (i : Int) Tryd.underlying9, dif_pos (by omega)]
  have e : bs[(i : Int).toNat]'(by omega) = l.getD i 0 := by
    have h9 := Lib.data_getElem? bs i (by omega)
    rw [hl] at h9
    rw [List.getD_eq_getElem?_getD, h9]
    rfl
  rw [e]; rfl
set_option maxRecDepth 100000 in
set_option maxHeartbeats 4000000 in
theorem rnum_pos (w : World) (l : List UInt8) (bs : ByteArray) (hl : bs.data.toList = l) (hm : l.length ≤ 1000) (h0 : ∀ t, l ≠ 45 :: t) : Calls Tryd.prog 22 #[.string bs] w (NumPost l w) := by
  have hsz : bs.size = l.length := by rw [← hl]; exact Lib.size_eq bs
  have HIX := Lib.hid (str_ix bs l hl)
  have HL := Lib.hid hl
  have HSZ := Lib.hid hsz
  have hbI : (bs.size : Int) ≤ 1000 := by omega
  have HFACT : Hid (∀ v, num l = some v → ∃ n : Nat, v = (n : Int) ∧ n < 9223372036854775808 ∧ l.drop 0 = Lib.decDigits n) := Lib.hid (fun v h => num_pos h0 h)
  have HNO : Hid (∀ n : Nat, vl (l.drop 0) = n → num l = none ∨ (num l = some (n : Int) ∧ n < 9223372036854775808 ∧ Lib.itoa (n : Int) = l)) := Lib.hid (fun n hn => by
    cases h : num l with
    | none => exact .inl rfl
    | some v =>
      obtain ⟨m, rfl, h1, h3⟩ := HFACT.out v h
      rw [h3, vl_dec] at hn
      subst hn
      exact .inr ⟨rfl, h1, ((Px.num_iff l _).1 h).1.symm⟩)
  have HLEN : Hid (l.length = 0 ∨ 19 < l.length → num l = none) := Lib.hid (fun h => by
    cases hn : num l with
    | none => rfl
    | some v =>
      obtain ⟨m, _, h2, h3⟩ := HFACT.out v hn
      have := itoa_pos_facts m h2
      rw [← h3, List.drop_zero] at this
      omega)
  have HDIG : Hid (∀ i, 0 ≤ i → i < l.length → ¬ isD (l.getD i 0) → num l = none) := Lib.hid (fun i h1 h2 h3 => by
    cases hn : num l with
    | none => rfl
    | some v =>
      obtain ⟨m, _, h5, h6⟩ := HFACT.out v hn
      exfalso
      apply h3
      refine (itoa_pos_facts m h5).2.2 _ ?_
      rw [← h6, List.drop_zero]
      have e : l.getD i 0 = l[i]'h2 := by
        rw [List.getD_eq_getElem?_getD, List.getElem?_eq_getElem h2]; rfl
      rw [e]
      exact List.getElem_mem _)
  by_cases he : l = []
  · have hs0 : (bs.size : Int) = 0 := by rw [hsz, he]; rfl
    have hn := HLEN.out (.inl (by rw [he]; rfl))
    have HQ : Hid (NumPost l w (.returned (.tuple #[.int .i64 0, .bool false])) w) := Lib.hid (numPost_no hn (Below.refl _ _))
    clear he hn hsz hm hl h0 hbI
    go_enter Tryd.func22, Tryd.ntmps22
    go_wp2_with fail
    go_ret2
    exact HQ.out
  obtain ⟨c0, hc0⟩ : ∃ c, l.getD 0 0 = c := ⟨_, rfl⟩
  have hlp : 0 < l.length := by cases l with | nil => exact absurd rfl he | cons _ _ => simp
  have hfix := str_ix bs l hl 0 hlp
  rw [hc0] at hfix
  have hfix2 : ∀ w, (Instr.index 9 (.string bs) (.int .i64 0)).run Tryd.prog w = .ok (.int .u8 (bi c0)) w := hfix
  have h45 : (bi c0 == 45) = false := by
    rw [beq_eq_false_iff_ne]; intro h
    have : c0 = 45 := bi_inj.1 (h.trans (by decide))
    rw [this] at hc0
    cases l with
    | nil => exact he rfl
    | cons a t => exact h0 t (by rw [show a = 45 from hc0])
  have hpos : (0 : Int) < (bs.size : Int) := by omega
  by_cases hlen : l.length = 0 ∨ 19 < l.length
  · have hn := HLEN.out hlen
    have HQ : Hid (NumPost l w (.returned (.tuple #[.int .i64 0, .bool false])) w) := Lib.hid (numPost_no hn (Below.refl _ _))
    rcases hlen with hlen | hlen
    · exact absurd (List.eq_nil_of_length_eq_zero hlen) he
    · have hz1 : ((bs.size : Int) == 0) = false := by rw [beq_eq_false_iff_ne]; omega
      have hz2 : decide (19 < (bs.size : Int)) = true := decide_eq_true (by omega)
      clear hlen hn hsz hm hl h0 he hc0 hlp hfix
      go_enter Tryd.func22, Tryd.ntmps22
      go_wp2_with fail
      go_ret2
      exact HQ.out
  have hz1 : ((bs.size : Int) == 0) = false := by rw [beq_eq_false_iff_ne]; omega
  have hz2 : decide (19 < (bs.size : Int)) = false := decide_eq_false (by omega)
  have HL19 : Hid (l.length - 0 ≤ 19) := Lib.hid (by omega)
  clear hlen hsz hm hl h0 he hc0 hlp hfix
  go_enter Tryd.func22, Tryd.ntmps22
  go_wp2_with fail
  go_loopw [5, 6] (fun v5 v6 wr => NumLoop l 0 v5 v6 w wr) (fun _ v6 _ => l.length - (intOf v6).toNat)
  case atStart => exact ⟨0, 0, Nat.le_refl _, by have := HSZ.out; omega, rfl, rfl, by simp [vl], by simp, by simp, rfl⟩
  case round =>
    obtain ⟨i, n, hi1, hi2, rfl, rfl, hv, hdg, hlt, rfl⟩ := hrel
    have HV := Lib.hid hv
    have HDG := Lib.hid hdg
    have HLT := Lib.hid hlt
    by_cases hil : i < l.length
    · have hix := HIX.out i hil
      obtain ⟨c, hc⟩ : ∃ c, l.getD i 0 = c := ⟨_, rfl⟩
      rw [hc] at hix
      have hiI : (i : Int) < (bs.size : Int) := by have := HSZ.out; omega
      have hcb := bi_lt c
      have HI1 := Lib.hid hi1
      have HI2 := Lib.hid hil
      by_cases hcd : isD c
      · have hc1 : decide (bi c < 48) = false := decide_eq_false (by unfold bi; have := hcd.1; omega)
        have hc2 : decide (57 < bi c) = false := decide_eq_false (by unfold bi; have := hcd.2; omega)
        obtain ⟨d, hd⟩ : ∃ d : Nat, bi c - 48 = (d : Int) := ⟨c.toNat - 48, by unfold bi; have := hcd.1; omega⟩
        have hdc : d = c.toNat - 48 := by unfold bi at hd; have := hcd.1; omega
        have hd9 : (d : Int) ≤ 9 := by have := hcd.2; omega
        have hn18 : n < 10 ^ 18 := Nat.lt_of_lt_of_le hlt (Nat.pow_le_pow_right (by omega) (by have := HL19.out; omega))
        have hnI : (n : Int) ≤ 999999999999999999 := by omega
        obtain ⟨n2, hn2⟩ : ∃ k : Nat, 10 * (n : Int) + (d : Int) = (k : Int) := ⟨10 * n + d, by omega⟩
        have HN2 : Hid (n2 = 10 * n + (c.toNat - 48)) := Lib.hid (by omega)
        have hn2I : (n2 : Int) ≤ 9999999999999999999 := by omega
        have HPW : Hid (n2 < 10 ^ (i + 1 - 0)) := Lib.hid (by
          have e : i + 1 - 0 = i - 0 + 1 := by omega
          rw [e, Nat.pow_succ]; omega)
        have HCD := Lib.hid hcd
        have HC := Lib.hid hc
        clear hv hdg hlt hcd hc hdc hn18 hi1 hi2 hil
        go_wp2_with fail
        refine ⟨⟨i + 1, n2, by have := HI1.out; omega, HI2.out, by go_num, rfl, ?_, ?_, HPW.out, rfl⟩, by have := HI2.out; simp only [intOf]; omega⟩
        · have e : (l.drop 0).take (i + 1 - 0) = (l.drop 0).take (i - 0) ++ [c] := by
            have h1 := HI1.out
            have h2 := HI2.out
            rw [show i + 1 - 0 = i - 0 + 1 by omega, take_snoc _ _ (by rw [List.length_drop]; omega)]
            congr 2
            rw [List.getElem_drop, ← HC.out, List.getD_eq_getElem?_getD, List.getElem?_eq_getElem h2]
            simp only [Option.getD_some]
            congr 1; omega
          rw [e, vl_snoc, ← HV.out]; exact HN2.out
        · have e : (l.drop 0).take (i + 1 - 0) = (l.drop 0).take (i - 0) ++ [c] := by
            have h1 := HI1.out
            have h2 := HI2.out
            rw [show i + 1 - 0 = i - 0 + 1 by omega, take_snoc _ _ (by rw [List.length_drop]; omega)]
            congr 2
            rw [List.getElem_drop, ← HC.out, List.getD_eq_getElem?_getD, List.getElem?_eq_getElem h2]
            simp only [Option.getD_some]
            congr 1; omega
          intro x hx
          rw [e] at hx
          rcases List.mem_append.1 hx with hx | hx
          · exact HDG.out x hx
          · rw [List.mem_singleton] at hx; subst hx; exact HCD.out
      · have HQ : Hid (NumPost l wr (.returned (.tuple #[.int .i64 0, .bool false])) wr) := Lib.hid (numPost_no (HDIG.out i hi1 hil (by rw [hc]; exact hcd)) (Below.refl _ _))
        by_cases hcl : c.toNat < 48
        · have hc1 : decide (bi c < 48) = true := decide_eq_true (by unfold bi; omega)
          clear hv hdg hlt hcd hc hi1 hi2 hil hcl
          go_wp2_with fail
          go_ret2
          exact HQ.out
        · have hc1 : decide (bi c < 48) = false := decide_eq_false (by unfold bi; omega)
          have hc2 : decide (57 < bi c) = true := decide_eq_true (by
            unfold bi
            rcases Nat.lt_or_ge 57 c.toNat with h | h
            · omega
            · exact absurd ⟨by omega, h⟩ hcd)
          clear hv hdg hlt hcd hc hi1 hi2 hil hcl
          go_wp2_with fail
          go_ret2
          exact HQ.out
    · obtain rfl : i = l.length := by omega
      have hall : (l.drop 0).take (l.length - 0) = l.drop 0 := List.take_of_length_le (by rw [List.length_drop]; exact Nat.le_refl _)
      rw [hall] at hv
      have hiI : decide ((l.length : Int) < (bs.size : Int)) = false := decide_eq_false (by have := HSZ.out; omega)
      have hiN : decide (l.length < bs.size) = false := decide_eq_false (by have := HSZ.out; omega)
      have hn19 : n < 10 ^ 19 := Nat.lt_of_lt_of_le hlt (Nat.pow_le_pow_right (by omega) HL19.out)
      have HNN := Lib.hid (HNO.out n hv.symm)
      have hnI : (n : Int) ≤ 9999999999999999999 := by omega
      by_cases hbig : 9223372036854775807 < n
      · have hb1 : decide (9223372036854775807 < (n : Int)) = true := decide_eq_true (by omega)
        have HQ : Hid (NumPost l wr (.returned (.tuple #[.int .i64 0, .bool false])) wr) := Lib.hid (numPost_no (by rcases HNN.out with h | ⟨_, h, _⟩; (exact h); (omega)) (Below.refl _ _))
        clear hbig hn19 hlt hv hdg hall hi1 hi2 hil
        go_wp2_with fail
        go_ret2
        exact HQ.out
      · have hb1 : decide (9223372036854775807 < (n : Int)) = false := decide_eq_false (by omega)
        have hb2 : decide (9223372036854775808 < (n : Int)) = false := decide_eq_false (by omega)
        have hnI2 : (n : Int) ≤ 9223372036854775807 := by omega
        have HC : Hid (Calls Tryd.prog 24 #[.int .i64 (n : Int)] wr _) := Lib.hid (rtext_walk wr (n : Int) (by omega) (by omega))
        obtain ⟨bt, hbt⟩ : ∃ b, (⟨(Lib.itoa (n : Int)).toArray⟩ : ByteArray) = b := ⟨_, rfl⟩
        rw [hbt] at HC
        have hcmp : (bt.toList == bs.toList) = decide (Lib.itoa (n : Int) = l) := by
          rw [Lib.toList_data, Lib.toList_data, HL.out, ← hbt]
          exact beq_dec _ _
        have HYES : Hid (Lib.itoa (n : Int) = l → num l = some (n : Int)) := Lib.hid (fun h => (Px.num_iff l _).2 ⟨h.symm, by omega, by omega⟩)
        have HNOT : Hid (Lib.itoa (n : Int) ≠ l → num l = none) := Lib.hid (fun h => by rcases HNN.out with h1 | ⟨_, _, h1⟩; (exact h1); (exact absurd h1 h))
        clear hbt hn19 hlt hv hdg hall hi1 hi2 hil hbig hnI
        by_cases heq : Lib.itoa (n : Int) = l
        · rw [decide_eq_true heq] at hcmp
          have HQ : Hid (∀ w', Below wr.heap.size wr w' → NumPost l wr (.returned (.tuple #[.int .i64 (n : Int), .bool true])) w') := Lib.hid (fun w' hb => numPost_yes (HYES.out heq) hb)
          clear heq
          go_wp2_with ((with_reducible refine HC.out.mono ?_); rintro e w1 ⟨rfl, hb⟩; have HB := Lib.hid hb; clear hb)
          go_ret2
          exact HQ.out _ HB.out
        · rw [decide_eq_false heq] at hcmp
          have HQ : Hid (∀ w', Below wr.heap.size wr w' → NumPost l wr (.returned (.tuple #[.int .i64 0, .bool false])) w') := Lib.hid (fun w' hb => numPost_no (HNOT.out heq) hb)
          clear heq
          go_wp2_with ((with_reducible refine HC.out.mono ?_); rintro e w1 ⟨rfl, hb⟩; have HB := Lib.hid hb; clear hb)
          go_ret2
          exact HQ.out _ HB.out
set_option maxRecDepth 100000 in
set_option maxHeartbeats 4000000 in
theorem rnum_neg (w : World) (l : List UInt8) (bs : ByteArray) (hl : bs.data.toList = l) (hm : l.length ≤ 1000) (t : List UInt8) (ht : l = 45 :: t) : Calls Tryd.prog 22 #[.string bs] w (NumPost l w) := by
  have hsz : bs.size = l.length := by rw [← hl]; exact Lib.size_eq bs
  have HIX := Lib.hid (str_ix bs l hl)
  have HL := Lib.hid hl
  have HSZ := Lib.hid hsz
  have hbI : (bs.size : Int) ≤ 1000 := by omega
  have hfix := str_ix bs l hl 0 (by rw [ht]; simp)
  have hfix2 : ∀ w, (Instr.index 9 (.string bs) (.int .i64 0)).run Tryd.prog w = .ok (.int .u8 45) w := by
    have e : l.getD 0 0 = 45 := by rw [ht]; rfl
    rw [e] at hfix
    exact hfix
  have hpos : (0 : Int) < (bs.size : Int) := by rw [hsz, ht]; simp
  have HFACT : Hid (∀ v, num l = some v → ∃ n : Nat, v = -(n : Int) ∧ 1 ≤ n ∧ n ≤ 9223372036854775808 ∧ l.drop 1 = Lib.decDigits n) := Lib.hid (fun v h => by rw [ht] at h; obtain ⟨n, a, b, c, d⟩ := num_neg h; exact ⟨n, a, b, c, by rw [ht]; exact d⟩)
  have HDR : Hid (l = 45 :: l.drop 1) := Lib.hid (by rw [ht]; rfl)
  have HNO : Hid (∀ n : Nat, vl (l.drop 1) = n → num l = none ∨ (num l = some (-(n : Int)) ∧ 1 ≤ n ∧ n ≤ 9223372036854775808 ∧ Lib.itoa (-(n : Int)) = l)) := Lib.hid (fun n hn => by
    cases h : num l with
    | none => exact .inl rfl
    | some v =>
      obtain ⟨m, rfl, h1, h2, h3⟩ := HFACT.out v h
      rw [h3, vl_dec] at hn
      subst hn
      exact .inr ⟨rfl, h1, h2, ((Px.num_iff l _).1 h).1.symm⟩)
  have HLEN : Hid (l.length - 1 = 0 ∨ 19 < l.length - 1 → num l = none) := Lib.hid (fun h => by
    cases hn : num l with
    | none => rfl
    | some v =>
      obtain ⟨m, _, h1, h2, h3⟩ := HFACT.out v hn
      have := itoa_neg_facts m h2
      rw [← h3, List.length_drop] at this
      omega)
  have HDIG : Hid (∀ i, 1 ≤ i → i < l.length → ¬ isD (l.getD i 0) → num l = none) := Lib.hid (fun i h1 h2 h3 => by
    cases hn : num l with
    | none => rfl
    | some v =>
      obtain ⟨m, _, _, h5, h6⟩ := HFACT.out v hn
      exfalso
      apply h3
      refine (itoa_neg_facts m h5).2.2 _ ?_
      rw [← h6]
      have e : l.getD i 0 = (l.drop 1)[i - 1]'(by rw [List.length_drop]; omega) := by
        rw [List.getElem_drop, List.getD_eq_getElem?_getD, List.getElem?_eq_getElem h2]
        simp only [Option.getD_some]
        congr 1; omega
      rw [e]
      exact List.getElem_mem _)
  by_cases hlen : l.length - 1 = 0 ∨ 19 < l.length - 1
  · have hn := HLEN.out hlen
    have HQ : Hid (NumPost l w (.returned (.tuple #[.int .i64 0, .bool false])) w) := Lib.hid (numPost_no hn (Below.refl _ _))
    rcases hlen with hlen | hlen
    · have hz1 : ((bs.size : Int) == 1) = true := by rw [beq_iff_eq, hsz]; have := congrArg List.length ht; simp only [List.length_cons] at this; omega
      clear hlen hn hsz hm hl ht hfix
      go_enter Tryd.func22, Tryd.ntmps22
      go_wp2_with fail
      go_ret2
      exact HQ.out
    · have hz1 : ((bs.size : Int) == 1) = false := by rw [beq_eq_false_iff_ne]; omega
      have hz2 : decide (19 < (bs.size : Int) - 1) = true := decide_eq_true (by omega)
      clear hlen hn hsz hm hl ht hfix
      go_enter Tryd.func22, Tryd.ntmps22
      go_wp2_with fail
      go_ret2
      exact HQ.out
  have hz1 : ((bs.size : Int) == 1) = false := by rw [beq_eq_false_iff_ne]; omega
  have hz2 : decide (19 < (bs.size : Int) - 1) = false := decide_eq_false (by omega)
  have HL19 : Hid (l.length - 1 ≤ 19) := Lib.hid (by omega)
  clear hlen hsz hm hl ht hfix
  go_enter Tryd.func22, Tryd.ntmps22
  go_wp2_with fail
  go_loopw [5, 6] (fun v5 v6 wr => NumLoop l 1 v5 v6 w wr) (fun _ v6 _ => l.length - (intOf v6).toNat)
  case atStart => exact ⟨1, 0, Nat.le_refl _, by have := HSZ.out; omega, rfl, rfl, by simp [vl], by simp, by simp, rfl⟩
  case round =>
    obtain ⟨i, n, hi1, hi2, rfl, rfl, hv, hdg, hlt, rfl⟩ := hrel
    have HV := Lib.hid hv
    have HDG := Lib.hid hdg
    have HLT := Lib.hid hlt
    by_cases hil : i < l.length
    · have hix := HIX.out i hil
      obtain ⟨c, hc⟩ : ∃ c, l.getD i 0 = c := ⟨_, rfl⟩
      rw [hc] at hix
      have hiI : (i : Int) < (bs.size : Int) := by have := HSZ.out; omega
      have hcb := bi_lt c
      have HI1 := Lib.hid hi1
      have HI2 := Lib.hid hil
      by_cases hcd : isD c
      · have hc1 : decide (bi c < 48) = false := decide_eq_false (by unfold bi; have := hcd.1; omega)
        have hc2 : decide (57 < bi c) = false := decide_eq_false (by unfold bi; have := hcd.2; omega)
        obtain ⟨d, hd⟩ : ∃ d : Nat, bi c - 48 = (d : Int) := ⟨c.toNat - 48, by unfold bi; have := hcd.1; omega⟩
        have hdc : d = c.toNat - 48 := by unfold bi at hd; have := hcd.1; omega
        have hd9 : (d : Int) ≤ 9 := by have := hcd.2; omega
        have hn18 : n < 10 ^ 18 := Nat.lt_of_lt_of_le hlt (Nat.pow_le_pow_right (by omega) (by have := HL19.out; omega))
        have hnI : (n : Int) ≤ 999999999999999999 := by omega
        obtain ⟨n2, hn2⟩ : ∃ k : Nat, 10 * (n : Int) + (d : Int) = (k : Int) := ⟨10 * n + d, by omega⟩
        have HN2 : Hid (n2 = 10 * n + (c.toNat - 48)) := Lib.hid (by omega)
        have hn2I : (n2 : Int) ≤ 9999999999999999999 := by omega
        have HPW : Hid (n2 < 10 ^ (i + 1 - 1)) := Lib.hid (by
          have e : i + 1 - 1 = i - 1 + 1 := by omega
          rw [e, Nat.pow_succ]; omega)
        have HCD := Lib.hid hcd
        have HC := Lib.hid hc
        clear hv hdg hlt hcd hc hdc hn18 hi1 hi2 hil
        go_wp2_with fail
        refine ⟨⟨i + 1, n2, by have := HI1.out; omega, HI2.out, by go_num, rfl, ?_, ?_, HPW.out, rfl⟩, by have := HI2.out; simp only [intOf]; omega⟩
        · have e : (l.drop 1).take (i + 1 - 1) = (l.drop 1).take (i - 1) ++ [c] := by
            have h1 := HI1.out
            have h2 := HI2.out
            rw [show i + 1 - 1 = i - 1 + 1 by omega, take_snoc _ _ (by rw [List.length_drop]; omega)]
            congr 2
            rw [List.getElem_drop, ← HC.out, List.getD_eq_getElem?_getD, List.getElem?_eq_getElem h2]
            simp only [Option.getD_some]
            congr 1; omega
          rw [e, vl_snoc, ← HV.out]; exact HN2.out
        · have e : (l.drop 1).take (i + 1 - 1) = (l.drop 1).take (i - 1) ++ [c] := by
            have h1 := HI1.out
            have h2 := HI2.out
            rw [show i + 1 - 1 = i - 1 + 1 by omega, take_snoc _ _ (by rw [List.length_drop]; omega)]
            congr 2
            rw [List.getElem_drop, ← HC.out, List.getD_eq_getElem?_getD, List.getElem?_eq_getElem h2]
            simp only [Option.getD_some]
            congr 1; omega
          intro x hx
          rw [e] at hx
          rcases List.mem_append.1 hx with hx | hx
          · exact HDG.out x hx
          · rw [List.mem_singleton] at hx; subst hx; exact HCD.out
      · have HQ : Hid (NumPost l wr (.returned (.tuple #[.int .i64 0, .bool false])) wr) := Lib.hid (numPost_no (HDIG.out i hi1 hil (by rw [hc]; exact hcd)) (Below.refl _ _))
        by_cases hcl : c.toNat < 48
        · have hc1 : decide (bi c < 48) = true := decide_eq_true (by unfold bi; omega)
          clear hv hdg hlt hcd hc hi1 hi2 hil hcl
          go_wp2_with fail
          go_ret2
          exact HQ.out
        · have hc1 : decide (bi c < 48) = false := decide_eq_false (by unfold bi; omega)
          have hc2 : decide (57 < bi c) = true := decide_eq_true (by
            unfold bi
            rcases Nat.lt_or_ge 57 c.toNat with h | h
            · omega
            · exact absurd ⟨by omega, h⟩ hcd)
          clear hv hdg hlt hcd hc hi1 hi2 hil hcl
          go_wp2_with fail
          go_ret2
          exact HQ.out
    · obtain rfl : i = l.length := by omega
      have hall : (l.drop 1).take (l.length - 1) = l.drop 1 := List.take_of_length_le (by rw [List.length_drop]; exact Nat.le_refl _)
      rw [hall] at hv
      have hiI : decide ((l.length : Int) < (bs.size : Int)) = false := decide_eq_false (by have := HSZ.out; omega)
      have hiN : decide (l.length < bs.size) = false := decide_eq_false (by have := HSZ.out; omega)
      have hn19 : n < 10 ^ 19 := Nat.lt_of_lt_of_le hlt (Nat.pow_le_pow_right (by omega) HL19.out)
      have HNN := Lib.hid (HNO.out n hv.symm)
      have hnI : (n : Int) ≤ 9999999999999999999 := by omega
      by_cases hbig : 9223372036854775808 < n
      · have hb1 : decide (9223372036854775808 < (n : Int)) = true := decide_eq_true (by omega)
        have HQ : Hid (NumPost l wr (.returned (.tuple #[.int .i64 0, .bool false])) wr) := Lib.hid (numPost_no (by rcases HNN.out with h | ⟨_, _, h, _⟩; (exact h); (omega)) (Below.refl _ _))
        clear hbig hn19 hlt hv hdg hall hi1 hi2 hil
        go_wp2_with fail
        go_ret2
        exact HQ.out
      · have hb1 : decide (9223372036854775808 < (n : Int)) = false := decide_eq_false (by omega)
        have hx0 : -9223372036854775808 ≤ -(n : Int) := by omega
        have HC : Hid (Calls Tryd.prog 24 #[.int .i64 (-(n : Int))] wr _) := Lib.hid (rtext_walk wr (-(n : Int)) hx0 (by omega))
        obtain ⟨bt, hbt⟩ : ∃ b, (⟨(Lib.itoa (-(n : Int))).toArray⟩ : ByteArray) = b := ⟨_, rfl⟩
        rw [hbt] at HC
        have hcmp : (bt.toList == bs.toList) = decide (Lib.itoa (-(n : Int)) = l) := by
          rw [Lib.toList_data, Lib.toList_data, HL.out, ← hbt]
          exact beq_dec _ _
        have HYES : Hid (Lib.itoa (-(n : Int)) = l → num l = some (-(n : Int))) := Lib.hid (fun h => (Px.num_iff l _).2 ⟨h.symm, hx0, by omega⟩)
        have HNOT : Hid (Lib.itoa (-(n : Int)) ≠ l → num l = none) := Lib.hid (fun h => by rcases HNN.out with h1 | ⟨_, _, _, h1⟩; (exact h1); (exact absurd h1 h))
        clear hbt hn19 hlt hv hdg hall hi1 hi2 hil
        by_cases hn0 : n = 0
        · subst hn0
          have HC0 : Hid (Calls Tryd.prog 24 #[.int .i64 0] wr _) := HC
          have HY0 : Hid (_ → num l = some 0) := HYES
          have hw1 : IntKind.u64.wrap (-1) = 18446744073709551615 := by decide
          have hw2 : wrap64 18446744073709551615 = -1 := by kernel_rfl
          clear hbig hnI hx0 hb1
          by_cases heq : Lib.itoa (-((0 : Nat) : Int)) = l
          · rw [decide_eq_true heq] at hcmp
            have HQ : Hid (∀ w', Below wr.heap.size wr w' → NumPost l wr (.returned (.tuple #[.int .i64 0, .bool true])) w') := Lib.hid (fun w' hb => numPost_yes (HY0.out heq) hb)
            clear heq
            go_wp2_with ((with_reducible refine HC0.out.mono ?_); rintro e w1 ⟨rfl, hb⟩; have HB := Lib.hid hb; clear hb)
            go_ret2
            exact HQ.out _ HB.out
          · rw [decide_eq_false heq] at hcmp
            have HQ : Hid (∀ w', Below wr.heap.size wr w' → NumPost l wr (.returned (.tuple #[.int .i64 0, .bool false])) w') := Lib.hid (fun w' hb => numPost_no (HNOT.out heq) hb)
            clear heq
            go_wp2_with ((with_reducible refine HC0.out.mono ?_); rintro e w1 ⟨rfl, hb⟩; have HB := Lib.hid hb; clear hb)
            go_ret2
            exact HQ.out _ HB.out
        · obtain ⟨p, hp⟩ : ∃ p : Nat, (n : Int) - 1 = (p : Int) := ⟨n - 1, by omega⟩
          have hpI : (p : Int) ≤ 9223372036854775807 := by omega
          obtain ⟨x, hx⟩ : ∃ x : Int, -(n : Int) = x := ⟨_, rfl⟩
          have hpx : -(p : Int) - 1 = x := by omega
          rw [hx] at HC hcmp HYES HNOT hx0
          have hx1 : x ≤ 0 := by omega
          clear hn0 hbig hx
          by_cases heq : Lib.itoa x = l
          · rw [decide_eq_true heq] at hcmp
            have HQ : Hid (∀ w', Below wr.heap.size wr w' → NumPost l wr (.returned (.tuple #[.int .i64 x, .bool true])) w') := Lib.hid (fun w' hb => numPost_yes (HYES.out heq) hb)
            clear heq
            go_wp2_with ((with_reducible refine HC.out.mono ?_); rintro e w1 ⟨rfl, hb⟩; have HB := Lib.hid hb; clear hb)
            go_ret2
            exact HQ.out _ HB.out
          · rw [decide_eq_false heq] at hcmp
            have HQ : Hid (∀ w', Below wr.heap.size wr w' → NumPost l wr (.returned (.tuple #[.int .i64 0, .bool false])) w') := Lib.hid (fun w' hb => numPost_no (HNOT.out heq) hb)
            clear heq
            go_wp2_with ((with_reducible refine HC.out.mono ?_); rintro e w1 ⟨rfl, hb⟩; have HB := Lib.hid hb; clear hb)
            go_ret2
            exact HQ.out _ HB.out
end Go.Proofs.YtjgphicmkmdeiaaDoor
