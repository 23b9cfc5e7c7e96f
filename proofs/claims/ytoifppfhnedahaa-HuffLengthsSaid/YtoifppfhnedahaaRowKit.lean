/-
  The calls of the rows, each as one law: what is answered, and that nothing older turns.
-/
import Derived.Test.YtoifppfhnedahaaLenOk
import Derived.Test.YtoifppfhnedahaaLenOver
import Derived.Test.YtoifppfhnedahaaNew
import Derived.Test.YtoifppfhnedahaaNext2
import Derived.Test.YtoifppfhnedahaaTells
import Derived.Test.YtoifppfhnedahaaPre
namespace Go.Proofs.Ytoifppfhnedahaa
open Go.RowKit Hf

theorem len_bad (w : World) (v : Value) (counts : List Int) (limit : Int) (hv : SlV w v (ni counts)) (hl : counts.length ≤ 1099511627776) (hbad : ¬ (okC counts = true ∧ 1 ≤ limit ∧ limit ≤ 15)) :
    Calls Try.prog 9 #[v, .int .i64 limit] w fun e w' => e = .returned (.tuple #[.slice none 0 0, .int .i64 1]) ∧ Below w.heap.size w w' := by
  refine (Lengths_arg w v counts limit hv hl hbad).mono ?_
  rintro e w' ⟨u, h1, h2, _, h4⟩
  have he : lenErr counts limit = 1 := by unfold lenErr; rw [if_neg hbad]
  rw [he] at h1 h4
  rw [h4 (by decide)] at h1
  exact ⟨h1, h2⟩
theorem len_over (w : World) (v : Value) (counts : List Int) (limit : Nat) (hv : SlV w v (ni counts)) (hok : okC counts = true) (hl1 : 1 ≤ limit) (hl2 : limit ≤ 15) (hm : (syms counts).length < 20) (hk : 2 ^ limit < (syms counts).length) :
    Calls Try.prog 9 #[v, .int .i64 (limit : Int)] w fun e w' => e = .returned (.tuple #[.slice none 0 0, .int .i64 1]) ∧ Below w.heap.size w w' := by
  refine (Lengths_over w v counts limit hv hok hl1 hl2 hm hk).mono ?_
  rintro e w' ⟨u, h1, h2, _, h4⟩
  have he : lenErr counts limit = 1 := by unfold lenErr; rw [if_pos ⟨hok, by omega, by omega⟩, if_pos (by rw [Int.toNat_natCast]; exact hk)]
  rw [he] at h1 h4
  rw [h4 (by decide)] at h1
  exact ⟨h1, h2⟩
theorem len_good (w : World) (v : Value) (counts : List Int) (limit : Nat) (out : List Int) (hv : SlV w v (ni counts)) (hok : okC counts = true) (hl1 : 1 ≤ limit) (hl2 : limit ≤ 15) (hm : (syms counts).length < 20) (hk : (syms counts).length ≤ 2 ^ limit)
    (hst : 1 < (syms counts).length → sttOk (syms counts) (zeros counts.length) (lst (its (cnts counts (syms counts)))) limit) (ho : lensF counts limit = out) :
    Calls Try.prog 9 #[v, .int .i64 (limit : Int)] w fun e w' => ∃ u, e = .returned (.tuple #[u, .int .i64 0]) ∧ Below w.heap.size w w' ∧ SlV w' u (ni out) := by
  refine (Lengths_ok w v counts limit hv hok hl1 hl2 hm hk hst).mono ?_
  rintro e w' ⟨u, h3, h4, h5, _⟩
  have he : lenErr counts limit = 0 := by unfold lenErr; rw [if_pos ⟨hok, by omega, by omega⟩, if_neg (by rw [Int.toNat_natCast]; omega)]
  rw [he] at h3
  have := own_toV (h5 he)
  rw [Int.toNat_natCast, ho] at this
  exact ⟨u, h3, h4, this⟩
theorem state_bad (w : World) (v : Value) (zs : List Int) (hv : SlV w v (ni zs)) (hg : ¬ good zs) :
    Calls Try.prog 15 #[v] w fun e w' => e = .returned (.tuple #[.int .i64 0, .int .i64 1]) ∧ Below w.heap.size w w' := by
  refine (State_walk w v zs hv).mono ?_
  rintro e w' ⟨h1, h2⟩
  rw [if_neg hg] at h1
  exact ⟨h1, h2⟩
theorem state_good (w : World) (v : Value) (zs : List Int) (s : Int) (hv : SlV w v (ni zs)) (hg : good zs) (hs : st zs = s) :
    Calls Try.prog 15 #[v] w fun e w' => e = .returned (.tuple #[.int .i64 s, .int .i64 0]) ∧ Below w.heap.size w w' := by
  refine (State_walk w v zs hv).mono ?_
  rintro e w' ⟨h1, h2⟩
  rw [if_pos hg, hs] at h1
  exact ⟨h1, h2⟩
theorem new_bad (w : World) (v : Value) (zs : List Int) (c : Int) (hv : SlV w v (ni zs)) (hm : may zs = c) (h0 : c ≠ 0) :
    Calls Try.prog 19 #[v] w fun e w' => e = .returned (.tuple #[.pointer none, .int .i64 c]) ∧ Below w.heap.size w w' := by
  refine (New_walk w v zs hv).mono ?_
  rintro e w' ⟨h1, _, h3⟩
  rw [hm] at h3
  exact ⟨h3 h0, h1⟩
theorem new_good (w : World) (v : Value) (zs : List Int) (hv : SlV w v (ni zs)) (hm : may zs = 0) :
    Calls Try.prog 19 #[v] w fun e w' => ∃ g, e = .returned (.tuple #[.pointer (some ⟨g, 0, none⟩), .int .i64 0]) ∧ BookAt w' w.heap.size w'.heap.size g zs ∧ Below w.heap.size w w' := by
  refine (New_walk w v zs hv).mono ?_
  rintro e w' ⟨h1, h2, _⟩
  obtain ⟨g, h3, h4⟩ := h2 hm
  exact ⟨g, h3, h4, h1⟩
theorem codes_good (w : World) (v : Value) (zs : List Int) (hv : SlV w v (ni zs)) (hg : good zs) (hs : st zs ≠ 1) :
    Calls Try.prog 17 #[v] w fun e w' => ∃ u, e = .returned (.tuple #[u, .int .i64 0]) ∧ w'.ownsRow w.heap.size 33 1 u zs.length (nu (codes zs)) ∧ Below w.heap.size w w' := by
  refine (Codes_walk w v zs hv).mono ?_
  rintro e w' ⟨u, h1, h2, h3⟩
  rw [if_pos hg, if_neg hs] at h1
  rw [if_pos ⟨hg, hs⟩, if_pos ⟨hg, hs⟩] at h2
  exact ⟨u, h1, h2, h3⟩
theorem codes_many (w : World) (v : Value) (zs : List Int) (hv : SlV w v (ni zs)) (hg : good zs) (hs : st zs = 1) :
    Calls Try.prog 17 #[v] w fun e w' => ∃ u, e = .returned (.tuple #[u, .int .i64 20]) ∧ Below w.heap.size w w' := by
  refine (Codes_walk w v zs hv).mono ?_
  rintro e w' ⟨u, h1, h2, h3⟩
  rw [if_pos hg, if_pos hs] at h1
  exact ⟨u, h1, h3⟩
theorem turn_is (w : World) (c n : Nat) (x : Nat) (hc : c < 4294967296) (hx : trn c (min n 32) = x) :
    Calls Try.prog 21 #[.int .u32 (c : Int), .int .i64 (n : Int)] w fun e w' => e = .returned (.int .u32 (x : Int)) ∧ w = w' := by
  have := Turned_walk w c (n : Int) hc
  rw [Int.toNat_natCast, hx] at this
  exact this
end Go.Proofs.Ytoifppfhnedahaa
