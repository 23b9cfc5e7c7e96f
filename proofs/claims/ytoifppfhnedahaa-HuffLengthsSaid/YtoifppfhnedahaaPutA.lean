/-
  The contract of the document's put.
-/
import Derived.Test.YtoifppfhnedahaaRefL
import Derived.Test.YtoifppfhnedahaaLay
import Derived.Test.YtoifppfhnedahaaFullKit
namespace Go.Proofs.Ytoifppfhnedahaa
open Go.RowKit Hf

/-- Packs, as cells: a count and a slice each. -/
def np (ps : List (Int × Value)) : List Value := ps.flatMap fun e => [.int .i64 e.1, e.2]
theorem np_cons (e : Int × Value) (t : List (Int × Value)) : np (e :: t) = .int .i64 e.1 :: e.2 :: np t := rfl
theorem np_length (ps : List (Int × Value)) : (np ps).length = ps.length * 2 := by
  induction ps with
  | nil => rfl
  | cons e t ih => rw [np_cons, List.length_cons, List.length_cons, ih, List.length_cons]; omega
theorem np_append (a b : List (Int × Value)) : np (a ++ b) = np a ++ np b := by simp [np]
theorem np_drop (ps : List (Int × Value)) (k : Nat) : (np ps).drop (k * 2) = np (ps.drop k) := by
  induction k generalizing ps with
  | zero => simp
  | succ k ih =>
    cases ps with
    | nil => simp [np]
    | cons e t => rw [np_cons, show (k + 1) * 2 = k * 2 + 1 + 1 by omega, List.drop_succ_cons, List.drop_succ_cons, ih, List.drop_succ_cons]
theorem np_take (ps : List (Int × Value)) (k : Nat) : (np ps).take (k * 2) = np (ps.take k) := by
  induction k generalizing ps with
  | zero => simp [np]
  | succ k ih =>
    cases ps with
    | nil => simp [np]
    | cons e t => rw [np_cons, show (k + 1) * 2 = k * 2 + 1 + 1 by omega, List.take_succ_cons, List.take_succ_cons, ih, List.take_succ_cons, np_cons]
def ones (ps : List (Int × Value)) : Prop := ∀ p ∈ ps, p.2.oneCell' = true
theorem np_one {ps : List (Int × Value)} (h : ones ps) : ∀ v ∈ np ps, v.oneCell' = true := by
  intro v hv
  unfold np at hv
  obtain ⟨e, he, hm⟩ := List.mem_flatMap.1 hv
  simp only [List.mem_cons, List.not_mem_nil, or_false] at hm
  rcases hm with rfl | rfl
  · rfl
  · exact h e he
/-- A slice of packs. -/
def SlP (w : World) (v : Value) (ps : List (Int × Value)) : Prop := SlK 2 w v ps.length (np ps)
theorem SlP.shape {w : World} {v : Value} {ps : List (Int × Value)} (h : SlP w v ps) : ∃ p cap, v = .slice p ps.length cap := by
  obtain ⟨_, ⟨g, o, cap, h, _⟩ | ⟨p, h, h0⟩⟩ := h
  · exact ⟨_, _, h⟩
  · rw [h0]; exact ⟨_, _, h⟩
theorem SlP.below {w w' : World} {v : Value} {ps : List (Int × Value)} (h : SlP w v ps) {B : Nat} (hb : Below B w w') (hB : w.heap.size ≤ B) : SlP w' v ps := by
  obtain ⟨hl, ⟨g, o, cap, h, h2, h3⟩ | h⟩ := h
  · refine ⟨hl, .inl ⟨g, o, cap, h, h2, fun i v hi => ?_⟩⟩
    have h0 := h3.lt (by have := (List.getElem?_eq_some_iff.1 hi).1; omega)
    rw [hb.cell (p := ⟨g, o + i, none⟩) (by show g < B; omega)]; exact h3 i v hi
  · exact ⟨hl, .inr h⟩
theorem SlP.at {w : World} {p : Option Addr} {n cap : Nat} {ps : List (Int × Value)} (h : SlP w (.slice p n cap) ps) (h0 : 0 < n) : ∃ g o, p = some ⟨g, o, none⟩ ∧ n ≤ cap ∧
    ∀ i e, ps[i]? = some e → w.cell? ⟨g, o + i * 2, none⟩ = some (.int .i64 e.1) ∧ w.cell? ⟨g, o + i * 2 + 1, none⟩ = some e.2 := by
  obtain ⟨_, ⟨g, o, cap, h, h2, hB⟩ | ⟨p', h, h3⟩⟩ := h
  · cases h
    refine ⟨g, o, rfl, h2, fun i e he => ?_⟩
    have hi := (List.getElem?_eq_some_iff.1 he).1
    have hd : (np ps).drop (i * 2) = .int .i64 e.1 :: e.2 :: np (ps.drop (i + 1)) := by
      rw [np_drop, List.drop_eq_getElem_cons hi, np_cons, (List.getElem?_eq_some_iff.1 he).2]
    have h0 : (np ps)[i * 2]? = some (.int .i64 e.1) := by
      have := congrArg (fun l => l[0]?) hd
      simpa [List.getElem?_drop] using this
    have h1 : (np ps)[i * 2 + 1]? = some e.2 := by
      have := congrArg (fun l => l[1]?) hd
      simpa [List.getElem?_drop] using this
    exact ⟨hB _ _ h0, by rw [Nat.add_assoc]; exact hB _ _ h1⟩
  · cases h; omega
theorem SlP.take {w : World} {p : Option Addr} {n cap : Nat} {ps : List (Int × Value)} (h : SlP w (.slice p n cap) ps) (hn : ps.length = n) (k : Nat) (hk : k ≤ n) : SlK 2 w (.slice p k cap) k (np (ps.take k)) := by
  have hl : (ps.take k).length = k := by rw [List.length_take]; omega
  obtain ⟨hl0, ⟨g', o', cap', h, h2, hB⟩ | ⟨p', h, h3⟩⟩ := h
  · cases h
    refine ⟨by rw [np_length, hl], .inl ⟨g', o', cap, rfl, by omega, ?_⟩⟩
    rw [← np_take]
    intro i v hi
    rw [List.getElem?_take] at hi
    split at hi
    · exact hB i v hi
    · cases hi
  · have h0 : n = 0 ∧ cap = 0 := by cases h; exact ⟨rfl, rfl⟩
    obtain ⟨rfl, rfl⟩ := h0
    obtain rfl : k = 0 := by omega
    exact ⟨by rw [np_length, hl], .inr ⟨_, rfl, rfl⟩⟩
theorem SlP.tail {w : World} {g o n cap : Nat} {ps : List (Int × Value)} (h : SlP w (.slice (some ⟨g, o, none⟩) n cap) ps) (hn : ps.length = n) (k : Nat) (hk : k ≤ n) :
    SlK 2 w (.slice (if cap = k then some ⟨g, o, none⟩ else some ⟨g, o + k * 2, none⟩) (n - k) (cap - k)) (n - k) (np (ps.drop k)) := by
  have hl : (np (ps.drop k)).length = (n - k) * 2 := by rw [np_length, List.length_drop, hn]
  obtain ⟨hl0, ⟨g', o', cap', h, h2, hB⟩ | ⟨p', h, h3⟩⟩ := h
  · have hsl : (some ⟨g, o, none⟩ : Option Addr) = some ⟨g', o', none⟩ ∧ cap = cap' := by cases h; exact ⟨rfl, rfl⟩
    obtain ⟨he, rfl⟩ := hsl
    cases he
    refine ⟨hl, ?_⟩
    by_cases hc : cap = k
    · refine .inr ⟨some ⟨g, o, none⟩, ?_, by omega⟩
      rw [if_pos hc, show n - k = 0 by omega, show cap - k = 0 by omega]
    · refine .inl ⟨g, o + k * 2, cap - k, by rw [if_neg hc], by omega, ?_⟩
      rw [← np_drop]; exact hB.drop _
  · have h0 : n = 0 ∧ cap = 0 := by cases h; exact ⟨rfl, rfl⟩
    obtain ⟨rfl, rfl⟩ := h0
    obtain rfl : k = 0 := by omega
    rw [if_pos rfl]
    exact ⟨hl, .inr ⟨_, rfl, by omega⟩⟩
theorem info71 : (Try.prog.info? 71).map (fun i => (i.zero, i.size, i.bytes)) = some (some (.agg #[.int .i64 0, .slice none 0 0]), 2, 32) := by kernel_rfl
/-- A pack into a list. -/
def putV (l : List (Int × Value)) (x : Int × Value) : List (Int × Value) := l.takeWhile (fun e => decide (e.1 ≤ x.1)) ++ x :: l.dropWhile (fun e => decide (e.1 ≤ x.1))
theorem tw_is (c : Int) : ∀ (l : List (Int × Value)) (k : Nat), k ≤ l.length → (∀ i e, i < k → l[i]? = some e → e.1 ≤ c) → (∀ e, l[k]? = some e → c < e.1) → l.takeWhile (fun e => decide (e.1 ≤ c)) = l.take k ∧ l.dropWhile (fun e => decide (e.1 ≤ c)) = l.drop k
  | [], k, hk, _, _ => by obtain rfl : k = 0 := by simpa using hk
                          exact ⟨rfl, rfl⟩
  | a :: t, 0, _, _, h2 => by
    have := h2 a rfl
    rw [List.takeWhile_cons, List.dropWhile_cons, if_neg (by simp; omega), if_neg (by simp; omega)]
    exact ⟨rfl, rfl⟩
  | a :: t, k + 1, hk, h1, h2 => by
    have ha := h1 0 a (by omega) rfl
    obtain ⟨e1, e2⟩ := tw_is c t k (by simpa using hk) (fun i e hi he => h1 (i + 1) e (by omega) (by simpa using he)) (fun e he => h2 e (by simpa using he))
    rw [List.takeWhile_cons, List.dropWhile_cons, if_pos (by simpa using ha), if_pos (by simpa using ha), e1, e2]
    exact ⟨rfl, rfl⟩
theorem slice_toP {w : World} {p : Option Addr} {n cap : Nat} {ps : List (Int × Value)} (h : SlP w (.slice p n cap) ps) (hn : ps.length = n) (k : Nat) (hk : k ≤ n) : ∀ w', (Instr.sliceAt 68 (.slice p n cap) none (some (.int .i64 (k : Int))) none).run Try.prog w' = .ok (.slice p k cap) w' := by
  intro w'
  obtain ⟨_, ⟨g, o, cap', h, h2, _⟩ | ⟨p', h, h3⟩⟩ := h
  · have hc : n ≤ cap := by cases h; rw [← hn]; exact h2
    have hp : p = some ⟨g, o, none⟩ := by cases h; rfl
    subst hp
    clear h
    have h1 : (0 : Int) ≤ (k : Int) := by omega
    have h2 : (k : Int) ≤ (cap : Int) := by omega
    go_simp
  · have hc : cap = 0 ∧ p = p' := by cases h; exact ⟨rfl, rfl⟩
    obtain ⟨rfl, rfl⟩ := hc
    obtain rfl : n = 0 := by omega
    obtain rfl : k = 0 := by omega
    show (Instr.sliceAt 68 (.slice p 0 0) none (some (.int .i64 0)) none).run Try.prog w' = .ok (.slice p 0 0) w'
    cases p with
    | none => kernel_rfl
    | some a => kernel_rfl
end Go.Proofs.Ytoifppfhnedahaa
