/-
  Merged, in the order in which they build: Wlm Wlq.
-/
import Derived.Test.YtphdcgioeokfbaaDoorMg49
/-
  Signs of any number.
-/
namespace Go.Proofs.YtphdcgioeokfbaaDoor
open Go.RowKit Hf

theorem tw_mono {α : Type} (p q : α → Bool) (h : ∀ x, p x = true → q x = true) : ∀ t : List α, (t.takeWhile p).length ≤ (t.takeWhile q).length
  | [] => Nat.le_refl _
  | x :: t => by
    have ih := tw_mono p q h t
    rw [List.takeWhile_cons, List.takeWhile_cons]
    split
    · rename_i hp
      rw [if_pos (h x hp), List.length_cons, List.length_cons]; omega
    · simp
theorem look_mono (t : List (Nat × Nat)) (n m : Nat) (h : n ≤ m) : Df.look t n ≤ Df.look t m := by
  unfold Df.look
  have := tw_mono (fun e : Nat × Nat => Nat.ble e.1 n) (fun e => Nat.ble e.1 m) (fun x hx => Nat.ble_eq_true_of_le (Nat.le_trans (Nat.le_of_ble_eq_true hx) h)) t
  omega
/-- What is told of any number: sign, bits, more. -/
def lT (n : Int) : Int × Int × Int := if 3 ≤ n ∧ n ≤ 258 then (((Df.lsg n.toNat).s : Int), ((Df.lsg n.toNat).m : Int), ((Df.lsg n.toNat).x : Int)) else (0, 0, 0)
def fT (n : Int) : Int × Int × Int := if 1 ≤ n ∧ n ≤ 32768 then (((Df.fsg n.toNat).s : Int), ((Df.fsg n.toNat).m : Int), ((Df.fsg n.toNat).x : Int)) else (0, 0, 0)
/-- What the law asks of two of them. -/
structure TwoOk (n m : Int) (x y : Int × Int × Int) : Prop where
  b0 : 0 ≤ x.2.1
  b13 : x.2.1 ≤ 13
  c0 : 0 ≤ x.2.2
  cs : x.2.2 < 2 ^ x.2.1.toNat
  inj : ¬ n = m → x = y → x.1 = 0 ∧ y.1 = 0
  mono : n < m → 0 < y.1 → x.1 ≤ y.1
theorem m_le {n : Nat} {g : Sg} (h : LSg n g) : g.m ≤ 5 := by
  rcases h with ⟨_, h⟩ | ⟨h1, h2, h3, _⟩
  · rw [h]; decide
  · omega
theorem x_lt {n : Nat} {g : Sg} (h : LSg n g) : g.x < 2 ^ g.m := by
  rcases h with ⟨_, h⟩ | ⟨_, _, _, h4, _⟩
  · rw [h]; decide
  · exact h4
theorem s_rng {n : Nat} {g : Sg} (h : LSg n g) : 257 ≤ g.s ∧ g.s ≤ 285 := by
  rcases h with ⟨_, h⟩ | ⟨h1, h2, _⟩
  · rw [h]; decide
  · omega
theorem pow_int {a b : Nat} (h : a < 2 ^ b) : (a : Int) < 2 ^ ((b : Int)).toNat := by
  rw [Int.toNat_natCast]
  have : ((2 ^ b : Nat) : Int) = (2 : Int) ^ b := by push_cast; rfl
  rw [← this]
  exact Int.ofNat_lt.2 h
theorem lT_ok (n m : Int) : TwoOk n m (lT n) (lT m) := by
  unfold lT
  by_cases hn : 3 ≤ n ∧ n ≤ 258
  · obtain ⟨a, rfl⟩ : ∃ a : Nat, n = (a : Int) := ⟨n.toNat, by omega⟩
    have hg := Df.lsg_ok a (by omega) (by omega)
    have h1 := m_le hg
    have h2 := x_lt hg
    have h3 := s_rng hg
    rw [if_pos hn, Int.toNat_natCast]
    refine ⟨by show (0 : Int) ≤ ((Df.lsg a).m : Int); omega, by show ((Df.lsg a).m : Int) ≤ 13; omega, by show (0 : Int) ≤ ((Df.lsg a).x : Int); omega, pow_int h2, fun hne he => ?_, fun hlt hy => ?_⟩
    · by_cases hm : 3 ≤ m ∧ m ≤ 258
      · obtain ⟨b, rfl⟩ : ∃ b : Nat, m = (b : Int) := ⟨m.toNat, by omega⟩
        rw [if_pos hm, Int.toNat_natCast] at he
        have e1 := congrArg Prod.fst he
        have e2 := congrArg (fun p => p.2.2) he
        simp only at e1 e2
        exfalso
        apply hne
        obtain ⟨_, ga, _⟩ := Df.look_at Df.longs a (show 3 ≤ a by omega) (by decide)
        obtain ⟨_, gb, _⟩ := Df.look_at Df.longs b (show 3 ≤ b by omega) (by decide)
        unfold Df.lsg at e1 e2
        simp only at e1 e2
        have hk : Df.look Df.longs a = Df.look Df.longs b := by omega
        rw [hk] at ga e2
        omega
      · rw [if_neg hm] at he
        have e1 := congrArg Prod.fst he
        simp only at e1
        omega
    · by_cases hm : 3 ≤ m ∧ m ≤ 258
      · obtain ⟨b, rfl⟩ : ∃ b : Nat, m = (b : Int) := ⟨m.toNat, by omega⟩
        rw [if_pos hm, Int.toNat_natCast]
        have := look_mono Df.longs a b (by omega)
        show ((257 + Df.look Df.longs a : Nat) : Int) ≤ ((257 + Df.look Df.longs b : Nat) : Int)
        omega
      · rw [if_neg hm] at hy
        exact absurd hy (by decide)
  · rw [if_neg hn]
    refine ⟨by decide, by decide, by decide, by decide, fun hne he => ⟨rfl, ?_⟩, fun hlt hy => ?_⟩
    · rw [← he]
    · exact Int.le_of_lt hy
theorem fT_ok (n m : Int) : TwoOk n m (fT n) (fT m) := by
  unfold fT
  by_cases hn : 1 ≤ n ∧ n ≤ 32768
  · obtain ⟨a, rfl⟩ : ∃ a : Nat, n = (a : Int) := ⟨n.toNat, by omega⟩
    have hg := Df.fsg_ok a (by omega) (by omega)
    have h1 : (Df.fsg a).m ≤ 13 := by have := hg.1; have := hg.2.1; omega
    have h2 := hg.2.2.1
    rw [if_pos hn, Int.toNat_natCast]
    refine ⟨by show (0 : Int) ≤ ((Df.fsg a).m : Int); omega, by show ((Df.fsg a).m : Int) ≤ 13; omega, by show (0 : Int) ≤ ((Df.fsg a).x : Int); omega, pow_int h2, fun hne he => ?_, fun hlt hy => ?_⟩
    · by_cases hm : 1 ≤ m ∧ m ≤ 32768
      · obtain ⟨b, rfl⟩ : ∃ b : Nat, m = (b : Int) := ⟨m.toNat, by omega⟩
        rw [if_pos hm, Int.toNat_natCast] at he
        have e1 := congrArg Prod.fst he
        have e2 := congrArg (fun p => p.2.2) he
        simp only at e1 e2
        exfalso
        apply hne
        obtain ⟨_, ga, _⟩ := Df.look_at Df.fars a (show 1 ≤ a by omega) (by decide)
        obtain ⟨_, gb, _⟩ := Df.look_at Df.fars b (show 1 ≤ b by omega) (by decide)
        unfold Df.fsg at e1 e2
        simp only at e1 e2
        have hk : Df.look Df.fars a = Df.look Df.fars b := by omega
        rw [hk] at ga e2
        omega
      · rw [if_neg hm] at he ⊢
        have e1 := congrArg Prod.fst he
        exact ⟨e1, rfl⟩
    · by_cases hm : 1 ≤ m ∧ m ≤ 32768
      · obtain ⟨b, rfl⟩ : ∃ b : Nat, m = (b : Int) := ⟨m.toNat, by omega⟩
        rw [if_pos hm, Int.toNat_natCast]
        have := look_mono Df.fars a b (by omega)
        show ((Df.look Df.fars a : Nat) : Int) ≤ ((Df.look Df.fars b : Nat) : Int)
        omega
      · rw [if_neg hm] at hy
        exact absurd hy (by decide)
  · rw [if_neg hn]
    refine ⟨by decide, by decide, by decide, by decide, fun hne he => ⟨rfl, ?_⟩, fun hlt hy => ?_⟩
    · rw [← he]
    · exact Int.le_of_lt hy
/-- What it asks at last. -/
theorem lT_is (n : Int) : (257 ≤ (lT n).1 ∧ (lT n).1 ≤ 285 ↔ 3 ≤ n ∧ n ≤ 258) ∧ (¬ (3 ≤ n ∧ n ≤ 258) → lT n = (0, 0, 0)) := by
  unfold lT
  by_cases hn : 3 ≤ n ∧ n ≤ 258
  · obtain ⟨a, rfl⟩ : ∃ a : Nat, n = (a : Int) := ⟨n.toNat, by omega⟩
    have h3 := s_rng (Df.lsg_ok a (by omega) (by omega))
    rw [if_pos hn, Int.toNat_natCast]
    exact ⟨⟨fun _ => hn, fun _ => ⟨by show (257 : Int) ≤ ((Df.lsg a).s : Int); omega, by show ((Df.lsg a).s : Int) ≤ 285; omega⟩⟩, fun h => absurd hn h⟩
  · rw [if_neg hn]
    exact ⟨⟨fun h => absurd h.1 (by decide), fun h => absurd h hn⟩, fun _ => rfl⟩
theorem fT_is (n : Int) : 0 ≤ (fT n).1 ∧ (fT n).1 ≤ 29 ∧ (¬ (1 ≤ n ∧ n ≤ 32768) → fT n = (0, 0, 0)) := by
  unfold fT
  by_cases hn : 1 ≤ n ∧ n ≤ 32768
  · obtain ⟨a, rfl⟩ : ∃ a : Nat, n = (a : Int) := ⟨n.toNat, by omega⟩
    have hg := (Df.fsg_ok a (by omega) (by omega)).1
    rw [if_pos hn, Int.toNat_natCast]
    exact ⟨by show (0 : Int) ≤ ((Df.fsg a).s : Int); omega, by show ((Df.fsg a).s : Int) ≤ 29; omega, fun h => absurd hn h⟩
  · rw [if_neg hn]
    exact ⟨by decide, by decide, fun _ => rfl⟩
/-- The two functions, of any number. -/
def trip (x : Int × Int × Int) : Value := .tuple #[.int .i64 x.1, .int .i64 x.2.1, .int .i64 x.2.2]
set_option maxRecDepth 100000 in
set_option maxHeartbeats 1000000 in
theorem Long_any (w : World) (n : Int) (ht : TabAt 0 Df.longs w) :
    Calls Tryd.prog 4 #[.int .i64 n] w fun e w' => e = .returned (trip (lT n)) ∧ OnlyS (fun _ => False) w w' := by
  unfold lT
  by_cases hn : 3 ≤ n ∧ n ≤ 258
  · obtain ⟨a, rfl⟩ : ∃ a : Nat, n = (a : Int) := ⟨n.toNat, by omega⟩
    rw [if_pos hn, Int.toNat_natCast]
    exact Long_walk w a ht (by omega) (by omega)
  · rw [if_neg hn]
    by_cases h3 : n < 3
    · have e1 : decide (n < 3) = true := decide_eq_true h3
      clear ht hn
      go_enter Tryd.func4, Tryd.ntmps4
      go_wp2_with fail
      refine bodyPost_ret (results_tmp3 rfl _ _ _) rfl ?_
      exact ⟨rfl, OnlyS.alloc _ _⟩
    · have e1 : decide (n < 3) = false := decide_eq_false h3
      have e2 : decide ((258 : Int) < n) = true := decide_eq_true (by omega)
      clear ht hn
      go_enter Tryd.func4, Tryd.ntmps4
      go_wp2_with fail
      refine bodyPost_ret (results_tmp3 rfl _ _ _) rfl ?_
      exact ⟨rfl, OnlyS.alloc _ _⟩
set_option maxRecDepth 100000 in
set_option maxHeartbeats 1000000 in
theorem Far_any (w : World) (n : Int) (ht : TabAt 1 Df.fars w) :
    Calls Tryd.prog 5 #[.int .i64 n] w fun e w' => e = .returned (trip (fT n)) ∧ OnlyS (fun _ => False) w w' := by
  unfold fT
  by_cases hn : 1 ≤ n ∧ n ≤ 32768
  · obtain ⟨a, rfl⟩ : ∃ a : Nat, n = (a : Int) := ⟨n.toNat, by omega⟩
    rw [if_pos hn, Int.toNat_natCast]
    exact Far_walk w a ht (by omega) (by omega)
  · rw [if_neg hn]
    by_cases h3 : n < 1
    · have e1 : decide (n < 1) = true := decide_eq_true h3
      clear ht hn
      go_enter Tryd.func5, Tryd.ntmps5
      go_wp2_with fail
      refine bodyPost_ret (results_tmp3 rfl _ _ _) rfl ?_
      exact ⟨rfl, OnlyS.alloc _ _⟩
    · have e1 : decide (n < 1) = false := decide_eq_false h3
      have e2 : decide ((32768 : Int) < n) = true := decide_eq_true (by omega)
      clear ht hn
      go_enter Tryd.func5, Tryd.ntmps5
      go_wp2_with fail
      refine bodyPost_ret (results_tmp3 rfl _ _ _) rfl ?_
      exact ⟨rfl, OnlyS.alloc _ _⟩
end Go.Proofs.YtphdcgioeokfbaaDoor
/-
  Two threes, alike or not.
-/
namespace Go.Proofs.YtphdcgioeokfbaaDoor
open Go.RowKit Hf
theorem eq3 (a b c d e f : Int) (w : World) : (Op.equalIn 10000 25 (.agg #[.int .i64 a, .int .i64 b, .int .i64 c]) (.agg #[.int .i64 d, .int .i64 e, .int .i64 f])).run Tryd.prog w = .ok (a == d && (b == e && c == f)) w := by
  have u3 := Tryd.underlying3
  have a3 := Tryd.isAgg3
  have z3 := Tryd.sizeOf3
  rw [show (10000 : Nat) = 9999 + 1 from rfl, Op.equalIn]
  simp only [Sem.run_bind, run_underlying Tryd.underlying25, Result.andThen_ok]
  simp only [Std.Legacy.Range.forIn_eq_forIn_range', Std.Legacy.Range.size, Nat.sub_zero, Nat.add_sub_cancel, Nat.div_one, List.range'_succ, List.range'_zero, List.forIn_cons, List.forIn_nil]
  go_simp
  by_cases h1 : a = d <;> by_cases h2 : b = e <;> by_cases h3 : c = f <;> simp [h1, h2, h3]
end Go.Proofs.YtphdcgioeokfbaaDoor
