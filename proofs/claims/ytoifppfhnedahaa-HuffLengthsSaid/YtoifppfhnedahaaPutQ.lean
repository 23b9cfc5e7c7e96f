/-
  Packs with their memory: a count, whether it is a package, its symbols, and the slice value that bears them.
-/
import Derived.Test.YtoifppfhnedahaaPutB
namespace Go.Proofs.Ytoifppfhnedahaa
open Go.RowKit Hf
abbrev Qe : Type := Int × Bool × List Nat × Value
def vq (q : Qe) : Int × Value := (q.1, q.2.2.2)
def rq (q : Qe) : Rp := (q.1, q.2.1, q.2.2.1)
def putQ (l : List Qe) (x : Qe) : List Qe := l.takeWhile (fun e => decide (e.1 ≤ x.1)) ++ x :: l.dropWhile (fun e => decide (e.1 ≤ x.1))
theorem putQ_v (l : List Qe) (x : Qe) : (putQ l x).map vq = putV (l.map vq) (vq x) := by
  induction l with
  | nil => rfl
  | cons a t ih =>
    unfold putQ putV at ih ⊢
    rw [List.map_cons, List.takeWhile_cons, List.dropWhile_cons, List.takeWhile_cons, List.dropWhile_cons]
    show List.map vq _ = (if decide (a.1 ≤ x.1) = true then _ else _) ++ _ :: (if decide (a.1 ≤ x.1) = true then _ else _)
    by_cases h : a.1 ≤ x.1
    · rw [if_pos (by simpa using h), if_pos (by simpa using h), if_pos (by simpa using h), if_pos (by simpa using h), List.cons_append, List.map_cons, ih]; rfl
    · rw [if_neg (by simpa using h), if_neg (by simpa using h), if_neg (by simpa using h), if_neg (by simpa using h)]; rfl
theorem putQ_r (l : List Qe) (x : Qe) : (putQ l x).map rq = putR (l.map rq) (rq x) := by
  induction l with
  | nil => rfl
  | cons a t ih =>
    unfold putQ putR at ih ⊢
    rw [List.map_cons, List.takeWhile_cons, List.dropWhile_cons, List.takeWhile_cons, List.dropWhile_cons]
    show List.map rq _ = (if decide (a.1 ≤ x.1) = true then _ else _) ++ _ :: (if decide (a.1 ≤ x.1) = true then _ else _)
    by_cases h : a.1 ≤ x.1
    · rw [if_pos (by simpa using h), if_pos (by simpa using h), if_pos (by simpa using h), if_pos (by simpa using h), List.cons_append, List.map_cons, ih]; rfl
    · rw [if_neg (by simpa using h), if_neg (by simpa using h), if_neg (by simpa using h), if_neg (by simpa using h)]; rfl
theorem putQ_mem (l : List Qe) (x q : Qe) (h : q ∈ putQ l x) : q ∈ l ∨ q = x := by
  unfold putQ at h
  rcases List.mem_append.1 h with h | h
  · exact .inl (List.takeWhile_subset _ h)
  · rcases List.mem_cons.1 h with h | h
    · exact .inr h
    · exact .inl (List.dropWhile_subset _ h)
theorem putQ_length (l : List Qe) (x : Qe) : (putQ l x).length = l.length + 1 := by
  have h := congrArg List.length (List.takeWhile_append_dropWhile (p := fun e : Qe => decide (e.1 ≤ x.1)) (l := l))
  unfold putQ
  rw [List.length_append] at h
  rw [List.length_append, List.length_cons]; omega
/-- Packs in memory, in blocks from B on: the row of cells, and each one's symbols, in a block that no other than from B on is. -/
structure PkAt (B : Nat) (w : World) (v : Value) (Q : List Qe) : Prop where
  row : w.ownsRow B 71 2 v Q.length (np (Q.map vq))
  syms : ∀ q ∈ Q, ∃ g cap, q.2.2.2 = .slice (some ⟨g, 0, none⟩) q.2.2.1.length cap ∧ q.2.2.1.length ≤ cap ∧ B ≤ g ∧ g < w.heap.size ∧ RowAt w g 0 (nl q.2.2.1)
theorem own_toP {B : Nat} {w : World} {v : Value} {n : Nat} {ps : List (Int × Value)} (h : w.ownsRow B 71 2 v n (np ps)) (hn : ps.length = n) : SlP w v ps := by
  obtain ⟨h0, ⟨h1, h2⟩ | ⟨g, cap, cur, h1, h2, h3, h4, h5, h6, h7⟩⟩ := h
  · exact ⟨np_length ps, .inr ⟨none, h1, by omega⟩⟩
  · refine ⟨np_length ps, .inl ⟨g, 0, cap, by rw [hn]; exact h1, by omega, fun i u hi => ?_⟩⟩
    rw [Nat.zero_add, cell_of_row _ _ _ _ _ _ h3]
    have hi' := (List.getElem?_eq_some_iff.1 hi).1
    have e : cur.toList[i]? = (np ps)[i]? := by
      rw [← h7, List.getElem?_take, if_pos (by omega)]
    rw [← Array.getElem?_toList, e, hi]
theorem PkAt.ones {B : Nat} {w : World} {v : Value} {Q : List Qe} (h : PkAt B w v Q) : ones (Q.map vq) := by
  intro p hp
  obtain ⟨q, hq, rfl⟩ := List.mem_map.1 hp
  obtain ⟨g, cap, e, _⟩ := h.syms q hq
  show q.2.2.2.oneCell' = true
  rw [e]; rfl
theorem PkAt.sl {B : Nat} {w : World} {v : Value} {Q : List Qe} (h : PkAt B w v Q) : SlP w v (Q.map vq) := own_toP h.row (by simp)
theorem PkAt.keep {B B' : Nat} {w w' : World} {v : Value} {Q : List Qe} (h : PkAt B w v Q) (hb : Below B' w w') (hB : w.heap.size ≤ B') : PkAt B w' v Q :=
  ⟨own_staysK h.row fun j hj => hb.block j (Nat.lt_of_lt_of_le (h.row.lt j hj).2 hB), fun q hq => by
    obtain ⟨g, cap, e, h1, h2, h3, h4⟩ := h.syms q hq
    refine ⟨g, cap, e, h1, h2, Nat.lt_of_lt_of_le h3 hb.size, fun i u hi => ?_⟩
    rw [hb.cell (p := ⟨g, 0 + i, none⟩) (by show g < B'; omega)]; exact h4 i u hi⟩
theorem PkAt.nil (B : Nat) (w : World) : PkAt B w (.slice none 0 0) [] := ⟨World.ownsRow_nil _ _ _ _, fun q h => by cases h⟩
/-- The document's put, of packs with their memory. -/
theorem putQ_walk (B : Nat) (w : World) (v : Value) (Q : List Qe) (c : Int) (f : Bool) (ss : List Nat) (g cap : Nat) (h : PkAt B w v Q) (hB : B ≤ w.heap.size) (hl : Q.length ≤ 4096)
    (hc : ss.length ≤ cap) (hg : B ≤ g) (hgw : g < w.heap.size) (hr : RowAt w g 0 (nl ss)) :
    Calls Try.prog 31 #[v, .agg #[.int .i64 c, .slice (some ⟨g, 0, none⟩) ss.length cap]] w fun e w' => ∃ v', e = .returned v' ∧ PkAt B w' v' (putQ Q (c, f, ss, .slice (some ⟨g, 0, none⟩) ss.length cap)) ∧ Below w.heap.size w w' := by
  refine (put_walk w v (Q.map vq) c (some ⟨g, 0, none⟩) ss.length cap h.sl h.ones (by simpa using hl)).mono ?_
  rintro e w' ⟨v', rfl, ho, hb⟩
  refine ⟨v', rfl, ⟨?_, fun q hq => ?_⟩, hb⟩
  · rw [putQ_v, putQ_length]
    rw [List.length_map] at ho
    exact own_leK ho hB
  · rcases putQ_mem _ _ _ hq with hq | rfl
    · exact (h.keep hb (Nat.le_refl _)).syms q hq
    · refine ⟨g, cap, rfl, hc, hg, Nat.lt_of_lt_of_le hgw hb.size, fun i u hi => ?_⟩
      rw [hb.cell (p := ⟨g, 0 + i, none⟩) hgw]; exact hr i u hi
end Go.Proofs.Ytoifppfhnedahaa
