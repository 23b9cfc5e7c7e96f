/-
  strings.ReplaceAll of a slash by a slash, a dot and two slashes; what it is cleaned to.
-/
import Derived.Test.YtgdnemjlmhmhhaaDoorHca
namespace Go.Proofs.YtgdnemjlmhmhhaaDoor
open Go.RowKit Go.Maps

def rep (l : List UInt8) : List UInt8 := l.flatMap fun x => if x = 47 then [47, 46, 47, 47] else [x]
theorem rep_none {l : List UInt8} (h : 47 ∉ l) : rep l = l := by
  induction l with
  | nil => rfl
  | cons x t ih =>
    rw [List.mem_cons, not_or] at h
    unfold rep at *
    rw [List.flatMap_cons, if_neg (fun e => h.1 e.symm), ih h.2]; rfl
theorem rep_at {a : List UInt8} (b : List UInt8) (h : 47 ∉ a) : rep (a ++ 47 :: b) = a ++ 47 :: ([46] ++ 47 :: ([] ++ 47 :: rep b)) := by
  have ha := rep_none h
  unfold rep at *
  rw [List.flatMap_append, List.flatMap_cons, if_pos rfl, ha]; rfl
theorem replaceK_rep : ∀ (k : Nat) (l : List UInt8), l.count 47 ≤ k → Lib.replaceK [47] [47, 46, 47, 47] k l = rep l
  | 0, l, h => by
    rw [rep_none (List.count_eq_zero.1 (Nat.le_zero.1 h))]; rfl
  | k + 1, l, h => by
    unfold Lib.replaceK
    rw [idx_one]
    rcases first_spec l 47 with ⟨h1, h2⟩ | ⟨a, b, rfl, h2, h3⟩
    · rw [h2, rep_none h1]; rfl
    · rw [h3, if_neg (by simp), rep_at b h2]
      have e1 : ((a.length : Int)).toNat = a.length := by omega
      rw [e1]
      have hc : b.count 47 ≤ k := by
        rw [List.count_append, List.count_cons_self] at h
        omega
      have e2 : (a ++ 47 :: b).drop (a.length + [(47 : UInt8)].length) = b := by
        rw [List.length_singleton, List.drop_append, List.drop_eq_nil_of_le (by omega)]
        simp
      rw [e2, replaceK_rep k b hc]
      simp
theorem replaceAll_rep (l : List UInt8) : Lib.replaceAll l [47] [47, 46, 47, 47] = rep l := by
  unfold Lib.replaceAll Lib.replace
  rw [if_neg (by decide)]
  unfold Lib.replaceNum
  rw [if_pos (.inl (by decide)), Lib.count_one]
  exact replaceK_rep _ l (Nat.le_refl _)
theorem rep_len (l : List UInt8) : (rep l).length ≤ 4 * l.length := by
  induction l with
  | nil => exact Nat.le_refl _
  | cons x t ih =>
    unfold rep at *
    rw [List.flatMap_cons, List.length_append, List.length_cons]
    split <;> simp only [List.length_cons, List.length_nil] <;> omega
theorem cut_first (l : List UInt8) : 47 ∉ l ∨ ∃ a b, l = a ++ 47 :: b ∧ 47 ∉ a := by
  rcases first_spec l 47 with ⟨h1, _⟩ | ⟨a, b, h1, h2, _⟩
  · exact .inl h1
  · exact .inr ⟨a, b, h1, h2⟩
/-- The parts of what is put in are the old ones and some that are none. -/
theorem kept_rep : ∀ (n : Nat) (l : List UInt8), l.length ≤ n → Pt.kept (Pt.parts (rep l)) = Pt.kept (Pt.parts l) ∧ (Pt.parts (rep l)).contains [46, 46] = (Pt.parts l).contains [46, 46]
  | 0, l, h => by
    obtain rfl : l = [] := List.eq_nil_of_length_eq_zero (Nat.le_zero.1 h)
    exact ⟨rfl, rfl⟩
  | n + 1, l, h => by
    rcases cut_first l with h1 | ⟨a, b, rfl, h1⟩
    · rw [rep_none h1]; exact ⟨rfl, rfl⟩
    · obtain ⟨i1, i2⟩ := kept_rep n b (by simp at h; omega)
      rw [rep_at b h1, parts_at a _ h1, parts_at [46] _ (by decide), parts_at [] _ (by simp), parts_at a b h1]
      constructor
      · unfold Pt.kept at *
        rw [List.filter_cons, List.filter_cons, List.filter_cons, List.filter_cons, i1]
        have e1 : ((([46] : List UInt8) != []) && (([46] : List UInt8) != [46])) = false := by decide
        have e2 : ((([] : List UInt8) != []) && (([] : List UInt8) != [46])) = false := by decide
        rw [e1, e2]; rfl
      · rw [List.contains_cons, List.contains_cons, List.contains_cons, List.contains_cons, i2]
        have e1 : (([46, 46] : List UInt8) == [46]) = false := by decide
        have e2 : (([46, 46] : List UInt8) == []) = false := by decide
        rw [e1, e2]; rfl
theorem rep_zero (l : List UInt8) : (rep l).contains 0 = l.contains 0 := by
  induction l with
  | nil => rfl
  | cons x t ih =>
    unfold rep at *
    rw [List.flatMap_cons, List.contains_append, ih, List.contains_cons]
    congr 1
    by_cases h : x = 47
    · rw [if_pos h, h]; decide
    · rw [if_neg h]; simp only [List.contains_cons, List.contains_nil, Bool.or_false]
/-- The text that PathClean makes: cleaned to the same. -/
def wrapT (l : List UInt8) : List UInt8 := [46, 47] ++ rep l ++ [47, 46]
theorem wrap_clean {l : List UInt8} (h : [47].isPrefixOf l = false) : Pt.cleanE (wrapT l) = Pt.cleanE l ∧ Pt.cleanP (wrapT l) = Pt.cleanP l := by
  have hp : Pt.parts (wrapT l) = [46] :: (Pt.parts (rep l) ++ [[46]]) := by
    unfold wrapT
    rw [show [46, 47] ++ rep l ++ [47, 46] = ([46, 47] ++ rep l) ++ 47 :: [46] from rfl, parts_last _ [46] (by decide)]
    rw [show [46, 47] ++ rep l = [46] ++ 47 :: rep l from rfl, parts_at [46] _ (by decide)]
    rfl
  obtain ⟨k1, k2⟩ := kept_rep l.length l (Nat.le_refl _)
  have hk : Pt.kept (Pt.parts (wrapT l)) = Pt.kept (Pt.parts l) := by
    rw [hp, ← k1]
    unfold Pt.kept
    rw [List.filter_cons, List.filter_append]
    have e1 : ((([46] : List UInt8) != []) && (([46] : List UInt8) != [46])) = false := by decide
    rw [e1]
    have e2 : List.filter (fun a => a != [] && a != [46]) [([46] : List UInt8)] = [] := by decide
    rw [e2, List.append_nil]; rfl
  have hd : (Pt.parts (wrapT l)).contains [46, 46] = (Pt.parts l).contains [46, 46] := by
    rw [hp, ← k2, List.contains_cons, List.contains_append]
    have e1 : (([46, 46] : List UInt8) == [46]) = false := by decide
    have e2 : ([([46] : List UInt8)]).contains [46, 46] = false := by decide
    rw [e1, e2, Bool.false_or, Bool.or_false]
  have h0 : (wrapT l).contains 0 = l.contains 0 := by
    unfold wrapT
    rw [List.contains_append, List.contains_append, rep_zero]
    have e1 : ([46, 47] : List UInt8).contains 0 = false := by decide
    have e2 : ([47, 46] : List UInt8).contains 0 = false := by decide
    rw [e1, e2, Bool.false_or, Bool.or_false]
  have hf : [47].isPrefixOf (wrapT l) = false := rfl
  have hE : Pt.cleanE (wrapT l) = Pt.cleanE l := by
    unfold Pt.cleanE
    rw [hk, hd, h0, hf, h]
  refine ⟨hE, ?_⟩
  unfold Pt.cleanP
  rw [hE, hk]
theorem replace_walk (l : List UInt8) (hl : l.length ≤ 100000) (w : World) (hm : ∃ m, w.cell? ⟨0, 0, none⟩ = some (.int .i64 m)) : Calls Tryd.prog 34 #[.string (sb l), .string ⟨#[47]⟩, .string ⟨#[47, 46, 47, 47]⟩] w fun e w' => e = .returned (.string (sb (rep l))) ∧ Below w.heap.size w w' := by
  obtain ⟨m, hm⟩ := hm
  have hz := sb_size l
  have hc : Lib.countB (sb l) ⟨#[47]⟩ ≤ l.length := by
    show Lib.count l [47] ≤ _
    rw [Lib.count_one]; exact List.count_le_length
  have h4 : (⟨#[47, 46, 47, 47]⟩ : ByteArray).size = 4 := rfl
  have h := Any.strings_ReplaceAll Tryd.laysRa Tryd.extraRa (sb l) ⟨#[47]⟩ ⟨#[47, 46, 47, 47]⟩ m w (by omega) hm (by decide) (by rw [h4]; omega)
  rw [sb_data, show (⟨#[47]⟩ : ByteArray).data.toList = [47] from rfl, show (⟨#[47, 46, 47, 47]⟩ : ByteArray).data.toList = [47, 46, 47, 47] from rfl, replaceAll_rep] at h
  exact h
end Go.Proofs.YtgdnemjlmhmhhaaDoor
