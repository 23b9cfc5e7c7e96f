/-
  The law there and back: the calls, case by case.
-/
import Derived.Test.YtkkelmlkpehcpaaDoorFv
namespace Go.Proofs.YtkkelmlkpehcpaaDoor
open Go.RowKit

theorem OwnM.some {base : Nat} {w : World} {v : Value} {l : List UInt8} (h : OwnM base w v l) (m : Nat) (hm : l.length = m) (h0 : 0 < m) :
    ∃ g c, v = .slice (some ⟨g, 0, none⟩) m c ∧ SlV w (.slice (some ⟨g, 0, none⟩) m c) (bl l) ∧ ∀ i, i < m → w.cell? ⟨g, i, none⟩ = some (.int .u8 (bi (l.getD i 0))) := by
  have hv := h.toV
  rcases h with ⟨_, rfl⟩ | ⟨g, cap, cur, fr, rfl, _⟩
  · simp at hm; omega
  · subst hm
    refine ⟨g, cap, rfl, hv, fun i hi => ?_⟩
    rcases hv with ⟨g', o', cap', he, _, hB⟩ | ⟨p', he, hb0⟩
    · obtain ⟨hp, _, _⟩ := Value.slice.inj he
      obtain ⟨rfl, rfl⟩ : g = g' ∧ 0 = o' := by simpa using hp
      have := hB.bl i hi
      rwa [Nat.zero_add] at this
    · have : l.length = 0 := by have := congrArg List.length hb0; simpa using this
      omega
/-- Octal, of a number that fits. -/
theorem oct_fits (w : World) (n : Int) (K : Nat) (k1 : 1 ≤ K) (k2 : K ≤ 19) (h0 : 0 ≤ n) (h : n < (8 : Int) ^ K) (h2 : n < 9223372036854775808) (ht : TzAt w) :
    Calls Tryd.prog 10 #[.int .i64 n, .int .i64 ((K : Int) + 1)] w fun e w' => ∃ g c l, e = .returned (.tuple #[.slice (some ⟨g, 0, none⟩) (K + 1) c, .int .i64 0]) ∧ SlV w' (.slice (some ⟨g, 0, none⟩) (K + 1) c) (bl l) ∧ Fx.num l = (n, 0) ∧ w'.cell? ⟨g, K, none⟩ = some (.int .u8 0) ∧ Below w.heap.size w w' := by
  obtain ⟨u, rfl⟩ : ∃ u : Nat, n = (u : Int) := ⟨n.toNat, by omega⟩
  have hu : u < 8 ^ K := by
    have h9 : ((u : Nat) : Int) < ((8 ^ K : Nat) : Int) := by rw [Int.natCast_pow]; exact h
    exact Int.ofNat_lt.1 h9
  obtain ⟨e1, e2⟩ := oct_ok u (K + 1) (by omega) (by omega) (by simpa using hu)
  refine (octal_walk w u ((K : Int) + 1) (by omega) h2 ht).mono fun e w' hp => ?_
  rw [show (K : Int) + 1 = ((K + 1 : Nat) : Int) by omega, e1, e2] at hp
  obtain ⟨v, rfl, ho, hb⟩ := hp
  simp only [Nat.add_sub_cancel] at ho
  obtain ⟨g, c, rfl, hs, hc⟩ := ho.some (K + 1) (by simp) (by omega)
  refine ⟨g, c, _, rfl, hs, num_pad K u (by omega) [] (by simp; omega) hu, ?_, hb⟩
  have := hc K (by omega)
  rw [this]
  simp [bi]
theorem oct_long' (w : World) (n : Int) (K : Nat) (k1 : 1 ≤ K) (k2 : K ≤ 19) (h1 : -9223372036854775808 ≤ n) (h2 : n < 9223372036854775808) (h : n < 0 ∨ (8 : Int) ^ K ≤ n) (ht : TzAt w) :
    Calls Tryd.prog 10 #[.int .i64 n, .int .i64 ((K : Int) + 1)] w fun e w' => ∃ v, e = .returned (.tuple #[v, .int .i64 3]) ∧ SlV w' v (bl []) ∧ Below w.heap.size w w' := by
  obtain ⟨e1, e2⟩ := oct_long n ((K : Int) + 1) (by omega) (by omega) (by rw [show ((K : Int) + 1).toNat - 1 = K by omega]; exact h)
  refine (octal_walk w n ((K : Int) + 1) h1 h2 ht).mono fun e w' hp => ?_
  rw [e1, e2] at hp
  obtain ⟨v, rfl, ho, hb⟩ := hp
  exact ⟨v, rfl, ho.toV, hb⟩
theorem wide_fits (w : World) (n : Int) (k : Int) (m : Nat) (hk : k = (m : Int)) (k1 : 2 ≤ m) (k2 : m ≤ 20) (h1 : -9223372036854775808 ≤ n) (h2 : n < 9223372036854775808) (h : Fx.fits n m) :
    Calls Tryd.prog 12 #[.int .i64 n, .int .i64 k] w fun e w' => ∃ g c l b, e = .returned (.tuple #[.slice (some ⟨g, 0, none⟩) m c, .int .i64 0]) ∧ SlV w' (.slice (some ⟨g, 0, none⟩) m c) (bl l) ∧ Fx.num l = (n, 0) ∧ w'.cell? ⟨g, 0, none⟩ = some (.int .u8 (bi b)) ∧ 128 ≤ bi b ∧ Below w.heap.size w w' := by
  subst hk
  obtain ⟨e1, e2⟩ := wid_ok n m (by omega) (by omega) h
  refine (wide_walk w n (m : Int) h1 h2).mono fun e w' hp => ?_
  rw [e1, e2] at hp
  obtain ⟨v, rfl, ho, hb⟩ := hp
  obtain ⟨g, c, rfl, hs, hc⟩ := ho.some m (by simp) (by omega)
  obtain ⟨hn, b, t, hbt, h128⟩ := num_wide n h1 h2 m k1 k2 h
  have := hc 0 (by omega)
  rw [hbt] at this
  exact ⟨g, c, _, b, rfl, hs, hn, this, by unfold bi; omega, hb⟩
theorem wide_not (w : World) (n : Int) (k : Int) (m : Nat) (hk : k = (m : Int)) (k1 : 2 ≤ m) (k2 : m ≤ 20) (h1 : -9223372036854775808 ≤ n) (h2 : n < 9223372036854775808) (h : ¬ Fx.fits n m) :
    Calls Tryd.prog 12 #[.int .i64 n, .int .i64 k] w fun e w' => ∃ v, e = .returned (.tuple #[v, .int .i64 3]) ∧ SlV w' v (bl []) ∧ Below w.heap.size w w' := by
  subst hk
  obtain ⟨e1, e2⟩ := wid_long n (m : Int) (by omega) (by omega) h
  refine (wide_walk w n (m : Int) h1 h2).mono fun e w' hp => ?_
  rw [e1, e2] at hp
  obtain ⟨v, rfl, ho, hb⟩ := hp
  exact ⟨v, rfl, ho.toV, hb⟩
/-- Number of nothing. -/
theorem num_none (w : World) (v : Value) (h : SlV w v (bl [])) : Calls Tryd.prog 14 #[v] w (NumPost (0, 1) w) := number_walk w v [] h (by simp)
theorem num_of (w : World) (v : Value) (l : List UInt8) (n : Int) (h : SlV w v (bl l)) (hn : Fx.num l = (n, 0)) (hl : l.length ≤ 1000) : Calls Tryd.prog 14 #[v] w (NumPost (n, 0) w) := by
  have := number_walk w v l h (by omega)
  rwa [hn] at this
theorem SlV.llen {w : World} {p : Option Addr} {n c : Nat} {l : List UInt8} (h : SlV w (.slice p n c) (bl l)) : l.length = n := by have := h.len; simpa using this
/-- Text of a text without a byte 0. -/
theorem txt_fits (w : World) (s : List UInt8) (hs : s.length ≤ 300) (h0 : 0 ∉ s) : Calls Tryd.prog 18 #[.string ⟨s.toArray⟩, .int .i64 300] w fun e w' => ∃ g c, e = .returned (.tuple #[.slice (some ⟨g, 0, none⟩) 300 c, .int .i64 0]) ∧ SlV w' (.slice (some ⟨g, 0, none⟩) 300 c) (bl (s ++ List.replicate (300 - s.length) 0)) ∧ Below w.heap.size w w' := by
  obtain ⟨e1, e2⟩ := txt_ok s 300 (by unfold txtE; rw [if_neg (by intro h; rcases h with h | h | h; (omega); (omega); (exact h0 h)), if_neg (by omega)])
  refine (text_walk w s 300 (by unfold maxLen; omega)).mono fun e w' hp => ?_
  rw [show ((300 : Nat) : Int) = 300 from rfl] at e1 e2
  rw [e1, e2] at hp
  obtain ⟨v, rfl, ho, hb⟩ := hp
  obtain ⟨g, c, rfl, h1, _⟩ := ho.some 300 (by simp; omega) (by decide)
  exact ⟨g, c, rfl, h1, hb⟩
theorem txt_zero (w : World) (s : List UInt8) (hs : s.length ≤ 300) (h0 : 0 ∈ s) : Calls Tryd.prog 18 #[.string ⟨s.toArray⟩, .int .i64 300] w fun e w' => ∃ v, e = .returned (.tuple #[v, .int .i64 1]) ∧ Below w.heap.size w w' := by
  obtain ⟨e1, e2⟩ := txt_err s 300 1 (if_pos (.inr (.inr h0))) (by decide)
  refine (text_walk w s 300 (by unfold maxLen; omega)).mono fun e w' hp => ?_
  rw [e1, e2] at hp
  obtain ⟨v, rfl, ho, hb⟩ := hp
  exact ⟨v, rfl, hb⟩
theorem str_of (w : World) (v : Value) (s : List UInt8) (r : Nat) (h : SlV w v (bl (s ++ List.replicate r 0))) (h0 : 0 ∉ s) (hs : s.length ≤ 300) (hr : r ≤ 300) : Calls Tryd.prog 20 #[v] w (StrPost s w) := by
  have := string_walk w v _ h (by unfold maxLen; simp; omega)
  rwa [strF_text s h0 r] at this
theorem cont_zero (s : List UInt8) (h0 : 0 ∈ s) (w : World) : Calls Tryd.prog 30 #[.string ⟨s.toArray⟩, .string ⟨#[0]⟩] w fun e w' => e = .returned (.bool true) ∧ w' = w := by
  refine (scont_walk ⟨s.toArray⟩ w).mono fun e w' ⟨he, hw⟩ => ⟨?_, hw⟩
  rw [he]
  rcases ib_spec s with ⟨h1, _⟩ | ⟨_, k, h2, _⟩
  · exact absurd h0 h1
  · have h2' : ib (⟨s.toArray⟩ : ByteArray).data.toList = (k : Int) := h2
    rw [h2', decide_eq_true (by omega)]
theorem cut300 (s : List UInt8) (hs : s.length ≤ 9223372036854775807) : (⟨s.toArray⟩ : ByteArray).extract 0 (min ((⟨s.toArray⟩ : ByteArray).size : Int) 300).toNat = ⟨(s.take 300).toArray⟩ := by
  have hsz : (⟨s.toArray⟩ : ByteArray).size = s.length := by simp [ByteArray.size]
  rw [hsz]
  have e : (min (s.length : Int) 300).toNat = min s.length 300 := by omega
  rw [e]
  apply ByteArray.ext
  rw [ByteArray.data_extract]
  apply Array.ext'
  rw [Array.toList_extract]
  simp only [List.extract_eq_take_drop, Nat.sub_zero, List.drop_zero]
  rcases Nat.le_total s.length 300 with h | h
  · rw [Nat.min_eq_left h, List.take_of_length_le (by simp), List.take_of_length_le h]
  · rw [Nat.min_eq_right h]
end Go.Proofs.YtkkelmlkpehcpaaDoor
