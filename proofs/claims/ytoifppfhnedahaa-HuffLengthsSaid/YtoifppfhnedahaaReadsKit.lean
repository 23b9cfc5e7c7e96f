/-
  What HuffReads needs: cuts of rows of bits, the document's Next of what a book reads.
-/
import Derived.Test.YtoifppfhnedahaaRefD
import Derived.Test.YtoifppfhnedahaaFullKit
import Derived.Test.YtoifppfhnedahaaRds
namespace Go.Proofs.Ytoifppfhnedahaa
open Go.RowKit Hf

theorem slice_toB {w : World} {p : Option Addr} {n cap : Nat} {vs : List Value} (h : SlV w (.slice p n cap) vs) (k : Nat) (hk : k ≤ n) : ∀ w', (Instr.sliceAt 32 (.slice p n cap) none (some (.int .i64 (k : Int))) none).run Try.prog w' = .ok (.slice p k cap) w' := by
  intro w'
  have hc := h.le
  rcases h with ⟨g, o, cap', h, _, _⟩ | ⟨p', h, _⟩
  · have hp : p = some ⟨g, o, none⟩ := by cases h; rfl
    subst hp
    clear h
    have h1 : (0 : Int) ≤ (k : Int) := by omega
    have h2 : (k : Int) ≤ (cap : Int) := by omega
    go_simp
  · have hc : cap = 0 ∧ p = p' ∧ n = 0 := by cases h; exact ⟨rfl, rfl, rfl⟩
    obtain ⟨rfl, rfl, rfl⟩ := hc
    obtain rfl : k = 0 := by omega
    show (Instr.sliceAt 32 (.slice p 0 0) none (some (.int .i64 0)) none).run Try.prog w' = .ok (.slice p 0 0) w'
    cases p with
    | none => kernel_rfl
    | some a => kernel_rfl
theorem slice_fromB {w : World} {p : Option Addr} {n cap : Nat} {vs : List Value} (h : SlV w (.slice p n cap) vs) (k : Nat) (hk : k ≤ n) :
    ∃ v', (∀ w', (Instr.sliceAt 32 (.slice p n cap) (some (.int .i64 (k : Int))) none none).run Try.prog w' = .ok v' w') ∧ SlV w v' (vs.drop k) := by
  have hc := h.le
  have hl := h.len
  rcases h with ⟨g, o, cap', h, h2, hB⟩ | ⟨p', h, hn⟩
  · cases h
    have h1 : (0 : Int) ≤ (k : Int) := by omega
    have h1' : (k : Int) ≤ (vs.length : Int) := by omega
    have h1'' : (vs.length : Int) ≤ (cap : Int) := by omega
    have hd : (vs.drop k).length = vs.length - k := List.length_drop
    by_cases hck : cap = k
    · have hkl : vs.length = k := by omega
      refine ⟨.slice (some ⟨g, o, none⟩) 0 0, fun w' => ?_, .inr ⟨_, rfl, List.drop_eq_nil_of_le (by omega)⟩⟩
      subst hck
      rw [hkl]
      go_simp
    · refine ⟨.slice (some ⟨g, o + k, none⟩) (vs.length - k) (cap - k), fun w' => ?_, .inl ⟨g, o + k, cap - k, by rw [hd], by rw [hd]; omega, hB.drop k⟩⟩
      go_simp
  · cases h
    obtain rfl : k = 0 := by omega
    refine ⟨.slice p 0 0, fun w' => ?_, .inr ⟨p, rfl, by rw [hn]; rfl⟩⟩
    show (Instr.sliceAt 32 (.slice p 0 0) (some (.int .i64 0)) none none).run Try.prog w' = .ok (.slice p 0 0) w'
    cases p with
    | none => kernel_rfl
    | some a => kernel_rfl
theorem take_min {α : Type} (l : List α) (n : Nat) : l.take (min l.length n) = l.take n := by
  rcases Nat.le_total l.length n with h | h
  · rw [Nat.min_eq_left h, List.take_length, List.take_of_length_le h]
  · rw [Nat.min_eq_right h]
theorem via_rest {α G : Prop} (f : α → G) (a : α) : G := f a
theorem may_ok {zs : List Int} (h : may zs = 0) : good zs ∧ (st zs = 0 ∨ (st zs = -1 ∧ Hf.lone zs = true)) := by
  unfold may at h
  split at h
  · rename_i hg
    refine ⟨hg, ?_⟩
    split at h
    · rename_i h2
      rcases h2 with h2 | h2
      · exact .inl h2
      · exact .inr ⟨lone_wants h2, h2⟩
    · cases h
  · cases h
theorem rNext_walk (w : World) (v u : Value) (zs : List Int) (bits : List Bool) (hv : SlV w v (ni zs)) (hu : SlV w u (nb bits)) (hm : may zs = 0) :
    Calls Try.prog 25 #[v, u] w (RNPost (rd zs (deep zs) 0 0 bits) w) := by
  obtain ⟨hg, h | ⟨h, hl⟩⟩ := may_ok hm
  · rw [rd_full zs (full_kr h) (deep_15 hg)]
    exact rNext_full w v u zs bits hv hu hg h
  · rw [(lone_deep hl).1]
    exact rNext_lone w v u zs bits hv hu hg h
theorem st_pair (zs : List Int) : ∃ A E : Int, (if good zs then #[Value.int .i64 (st zs), Value.int .i64 0] else #[Value.int .i64 0, Value.int .i64 1]) = #[.int .i64 A, .int .i64 E] := by
  by_cases h : good zs
  · exact ⟨_, _, by rw [if_pos h]⟩
  · exact ⟨_, _, by rw [if_neg h]⟩
theorem cd_list (zs : List Int) : ∃ CL : List Nat, (if good zs ∧ st zs ≠ 1 then zs.length else 0) = CL.length ∧ (if good zs ∧ st zs ≠ 1 then nu (codes zs) else []) = nu CL := by
  by_cases h : good zs ∧ st zs ≠ 1
  · exact ⟨codes zs, by rw [if_pos h, codes_length], by rw [if_pos h]⟩
  · exact ⟨[], by rw [if_neg h]; rfl, by rw [if_neg h]; rfl⟩
end Go.Proofs.Ytoifppfhnedahaa
