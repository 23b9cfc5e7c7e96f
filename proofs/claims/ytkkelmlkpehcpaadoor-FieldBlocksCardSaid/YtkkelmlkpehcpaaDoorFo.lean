/-
  field.Octal.
-/
import Derived.Test.YtkkelmlkpehcpaaDoorFi
import Derived.Test.YtkkelmlkpehcpaaDoorFl
namespace Go.Proofs.YtkkelmlkpehcpaaDoor
open Go.RowKit

theorem OwnM.mono {base B : Nat} {w : World} {v : Value} {l : List UInt8} (h : OwnM base w v l) (hB : B ≤ base) : OwnM B w v l := by
  rcases h with h | ⟨g, cap, cur, fr, h1, h2, h3⟩
  · exact .inl h
  · exact .inr ⟨g, cap, cur, fr, h1, Nat.le_trans hB h2, h3⟩
/-- What a call tells that makes a field: the bytes, the error. -/
def MadePost (l : List UInt8) (e : Int) (w : World) (en : Ending) (w' : World) : Prop := ∃ v, en = .returned (.tuple #[v, .int .i64 e]) ∧ OwnM w.heap.size w' v l ∧ Below w.heap.size w w'
theorem made_none {e : Int} (w w' : World) (hb : Below w.heap.size w w') : MadePost [] e w (.returned (.tuple #[.slice none 0 0, .int .i64 e])) w' :=
  ⟨_, rfl, .inl ⟨rfl, rfl⟩, hb⟩
theorem oct_arg (n many : Int) (h : many < 2 ∨ 20 < many) : Fx.octE n many = 1 ∧ Fx.octL n many = [] := by
  have e : Fx.octE n many = 1 := if_pos h
  exact ⟨e, if_neg (by rw [e]; decide)⟩
theorem oct_long (n many : Int) (h0 : 2 ≤ many) (h1 : many ≤ 20) (h : n < 0 ∨ (8 : Int) ^ (many.toNat - 1) ≤ n) : Fx.octE n many = 3 ∧ Fx.octL n many = [] := by
  have e : Fx.octE n many = 3 := by unfold Fx.octE; rw [if_neg (by omega), if_pos h]
  exact ⟨e, if_neg (by rw [e]; decide)⟩
theorem oct_ok (n : Nat) (m : Nat) (h0 : 2 ≤ m) (h1 : m ≤ 20) (h : n < 8 ^ (m - 1)) : Fx.octE n m = 0 ∧ Fx.octL n m = Fx.pad (m - 1) n ++ [0] := by
  have h2 : ((n : Nat) : Int) < (8 : Int) ^ (m - 1) := by exact_mod_cast h
  have e : Fx.octE n m = 0 := by unfold Fx.octE; rw [if_neg (by omega), if_neg (by rw [Int.toNat_natCast]; omega)]
  refine ⟨e, ?_⟩
  unfold Fx.octL
  rw [if_pos e, Int.toNat_natCast, Int.toNat_natCast]
theorem conv_str (b : ByteArray) (w : World) : (convert 9 22 (.string b)).run Tryd.prog w = .ok (.slice (some ⟨w.heap.size, 0, none⟩) b.size (grownCap w b.size 0 5)) (Lib.bytesWorld w 5 b) :=
  Lib.run_convert_string_bytes (P := Tryd.prog) w 9 22 5 b Tryd.underlying9 Tryd.underlying22 Tryd.underlying5
/-- A conversion's row of a text known as a list. -/
theorem OwnM.conv' (w : World) (b : ByteArray) (l : List UInt8) (n : Nat) (hn : n = l.length) (hb : b.data.toList = l) (hl : l.length ≤ 1099511627776) : OwnM w.heap.size (Lib.bytesWorld w 5 b) (.slice (some ⟨w.heap.size, 0, none⟩) n (grownCap w n 0 5)) l := by
  subst hn
  obtain rfl : b = ⟨l.toArray⟩ := by rw [← hb]
  exact OwnM.conv w l hl
theorem repeatL_one (b : UInt8) (c : Nat) : Lib.repeatL [b] c = List.replicate c b := by
  induction c with
  | zero => rfl
  | succ c ih =>
    first | (rw [Lib.repeatL, ih]; simp [List.replicate_succ]) | (rw [Lib.repeatL, ih]; rw [List.replicate_succ']) | (simp [Lib.repeatL, ih, List.replicate_succ])
theorem rep0_walk (c : Int) (w : World) (h0 : 0 ≤ c) (h1 : c ≤ 20) : Calls Tryd.prog 33 #[.string ⟨#[48]⟩, .int .i64 c] w fun e w' => e = .returned (.string ⟨(List.replicate c.toNat (48 : UInt8)).toArray⟩) ∧ Below w.heap.size w w' := by
  obtain ⟨k, rfl⟩ : ∃ k : Nat, c = (k : Int) := ⟨c.toNat, by omega⟩
  have h := srepeat_walk ⟨#[48]⟩ k w (by omega) (by show 1 * k ≤ _; omega)
  rw [repeatL_one] at h
  exact h
set_option maxRecDepth 100000 in
set_option maxHeartbeats 1000000 in
theorem octal_walk (w : World) (n many : Int) (h1 : -9223372036854775808 ≤ n) (h2 : n < 9223372036854775808) (h : TzAt w) :
    Calls Tryd.prog 10 #[.int .i64 n, .int .i64 many] w (MadePost (Fx.octL n many) (Fx.octE n many) w) := by
  have HF := Lib.hid (format_walk w n h1 h2 h)
  clear h1 h2 h
  by_cases hlo : many < 2
  · obtain ⟨e1, e2⟩ := oct_arg n many (.inl hlo)
    rw [e1, e2]
    clear e1 e2
    go_enter Tryd.func10, Tryd.ntmps10
    go_wp2_with fail
    go_ret2
    exact made_none w w (Below.refl _ _)
  by_cases hhi : 20 < many
  · obtain ⟨e1, e2⟩ := oct_arg n many (.inr hhi)
    rw [e1, e2]
    clear e1 e2
    go_enter Tryd.func10, Tryd.ntmps10
    go_wp2_with fail
    go_ret2
    exact made_none w w (Below.refl _ _)
  obtain ⟨m, rfl⟩ : ∃ m : Nat, many = (m : Int) := ⟨many.toNat, by omega⟩
  have hm1 : 2 ≤ (m : Int) := by omega
  have hm2 : (m : Int) ≤ 20 := by omega
  clear hlo hhi
  have hlo : decide ((m : Int) < 2) = false := decide_eq_false (by omega)
  have hhi : decide (20 < (m : Int)) = false := decide_eq_false (by omega)
  by_cases hn : n < 0
  · obtain ⟨e1, e2⟩ := oct_long n m hm1 hm2 (.inl hn)
    rw [e1, e2]
    clear e1 e2
    have hd : decide (n < 0) = true := decide_eq_true hn
    clear hn
    go_enter Tryd.func10, Tryd.ntmps10
    go_wp2_with ((with_reducible refine HF.out.mono ?_); rintro e w' ⟨s, hs, hv, rfl, hb⟩; have HV := Lib.hid hv; clear hv)
    go_ret2
    exact made_none w w' hb
  · obtain ⟨u, rfl⟩ : ∃ u : Nat, n = (u : Int) := ⟨n.toNat, by omega⟩
    have hd : decide ((u : Int) < 0) = false := decide_eq_false hn
    clear hn
    have ks := conv_str
    go_enter Tryd.func10, Tryd.ntmps10
    go_wp2_with (first | ((with_reducible refine HF.out.mono ?_); rintro e w' ⟨s, hs, hv, rfl, hb⟩; have HV : Hid (FmtPost u (.string s)) := Lib.hid (by have h9 := hv (by omega); rwa [Int.toNat_natCast] at h9); clear hv) | ((with_reducible refine (rep0_walk _ _ (by omega) (by omega)).mono ?_); rintro e w2 ⟨rfl, hb2⟩))
    · obtain ⟨k, k1, k2, k3, k4, hk⟩ := HV.out
      obtain rfl := Value.string.inj hk
      have hsz : (⟨(Fx.pad k u).toArray⟩ : ByteArray).size = k := by simp [ByteArray.size]
      have h8 : (8 : Int) ^ ((m : Int).toNat - 1) ≤ (u : Int) := by
        rw [Int.toNat_natCast]
        have h5 : 8 ^ (m - 1) ≤ 8 ^ (k - 1) := Nat.pow_le_pow_right (by omega) (by omega)
        have h6 : 8 ^ (k - 1) ≤ u := by rcases k4 with h | h <;> omega
        have : 8 ^ (m - 1) ≤ u := Nat.le_trans h5 h6
        exact_mod_cast this
      obtain ⟨e1, e2⟩ := oct_long u m hm1 hm2 (.inr h8)
      rw [e1, e2]
      go_ret2
      exact made_none w w' hb
    · obtain ⟨k, k1, k2, k3, k4, hk⟩ := HV.out
      obtain rfl := Value.string.inj hk
      have hsz : (⟨(Fx.pad k u).toArray⟩ : ByteArray).size = k := by simp [ByteArray.size]
      obtain ⟨m1, hm⟩ : ∃ a, m = a + k + 1 := ⟨m - 1 - k, by omega⟩
      subst hm
      have hlt : u < 8 ^ (m1 + k) := Nat.lt_of_lt_of_le k3 (Nat.pow_le_pow_right (by omega) (by omega))
      obtain ⟨e1, e2⟩ := oct_ok u (m1 + k + 1) (by omega) (by omega) hlt
      rw [e1, e2]
      go_ret2
      have hb3 := hb.trans (hb2.mono hb.size)
      refine ⟨_, rfl, (OwnM.conv' w2 _ _ _ ?_ ?_ ?_).mono hb3.size, hb3.trans ((conv_below _ _).mono hb3.size)⟩
      · simp; omega
      · rw [show m1 + k + 1 - 1 = m1 + k by omega, Fx.pad_more m1 k u k3]
        rw [hsz, show m1 + k - k = m1 by omega]
        simp
      · simp; omega
end Go.Proofs.YtkkelmlkpehcpaaDoor
