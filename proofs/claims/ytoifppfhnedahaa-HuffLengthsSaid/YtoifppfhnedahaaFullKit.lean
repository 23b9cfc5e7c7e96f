/-
  HuffFull: what a book reads of 15 bits.
-/
import Derived.Test.YtoifppfhnedahaaRowKit
import Derived.Test.YtoifppfhnedahaaDoor
import Derived.Laws.BitsAllLaws
import Derived.Deep.RegionHeld3
namespace Go.Proofs.Ytoifppfhnedahaa
open Go.RowKit Hf

/-- The lengths that are laid. -/
def fz (bs : List Int) : List Int := (bs.take 60).map (· % 16)
theorem fz_length (bs : List Int) : (fz bs).length = min bs.length 60 := by simp [fz, Nat.min_comm]
theorem fz_good (bs : List Int) : good (fz bs) := by
  refine ⟨by rw [fz_length]; omega, fun z hz => ?_⟩
  simp only [fz, List.mem_map] at hz
  obtain ⟨y, _, rfl⟩ := hz
  omega
theorem fz_step (bs : List Int) (k : Nat) (hk : k < bs.length) (h6 : k < 60) : (fz bs).take (k + 1) = (fz bs).take k ++ [bs.getD k 0 % 16] := by
  have hl : k < (fz bs).length := by rw [fz_length]; omega
  rw [List.take_add_one, List.getElem?_eq_getElem hl]
  simp [fz, hk]
theorem exits {k l : Nat} (h : ¬ (k < l ∧ k < 60)) : ((k : Int) < (l : Int) ∧ (60 : Int) ≤ (k : Int)) ∨ (l : Int) ≤ (k : Int) := by omega
theorem bt {w w1 w2 : World} (h : Below w.heap.size w w1) (k : Below w1.heap.size w1 w2) : Below w.heap.size w w2 := h.trans (k.mono h.size)
theorem RowAt.n8 {w : World} {g o : Nat} {zs : List Int} (h : RowAt w g o (n8 zs)) (i : Nat) (hi : i < zs.length) : w.cell? ⟨g, o + i, none⟩ = some (.int .u8 (zs.getD i 0)) := by
  refine h i _ ?_
  simp [Ytoifppfhnedahaa.n8, hi]
/-- How many codes the number began with, and the last one. -/
def HitSt (zs : List Int) (x i b s : Nat) : Prop := (b = 0 ∧ s = 0 ∧ ∀ j, j < i → ¬ hit zs x j) ∨ (b = 1 ∧ s < i ∧ hit zs x s)
theorem HitSt.miss {zs : List Int} {x i b s : Nat} (h : HitSt zs x i b s) (hn : ¬ hit zs x i) : HitSt zs x (i + 1) b s := by
  rcases h with ⟨h1, h2, h3⟩ | ⟨h1, h2, h3⟩
  · refine .inl ⟨h1, h2, fun j hj => ?_⟩
    rcases Nat.lt_or_ge j i with h | h
    · exact h3 j h
    · obtain rfl : j = i := by omega
      exact hn
  · exact .inr ⟨h1, by omega, h3⟩
theorem HitSt.more {zs : List Int} {x i b s : Nat} (hg : good zs) (h : HitSt zs x i b s) (hn : hit zs x i) : HitSt zs x (i + 1) (b + 1) i := by
  rcases h with ⟨h1, h2, h3⟩ | ⟨h1, h2, h3⟩
  · exact .inr ⟨by omega, by omega, hn⟩
  · have := hit_one hg x s i h3 hn; omega
theorem shr_eq (row c : Nat) (z : Int) (hz : 0 < z ∧ z ≤ 15) : ((row : Int) / 2 / 2 ^ (15 - z).toNat == (c : Int)) = decide (row / 2 / 2 ^ (15 - z.toNat) = c) := by
  rw [show (15 - z).toNat = 15 - z.toNat by omega]
  have e : (row : Int) / 2 / 2 ^ (15 - z.toNat) = ((row / 2 / 2 ^ (15 - z.toNat) : Nat) : Int) := by simp
  rw [e]
  generalize row / 2 / 2 ^ (15 - z.toNat) = y
  by_cases h : y = c
  · subst h; simp
  · rw [decide_eq_false h]; simp; omega
theorem full_kr {zs : List Int} (h : st zs = 0) : kr zs = 32768 := by
  unfold st at h
  split at h
  · cases h
  · split at h
    · cases h
    · omega
/-- A feed that is being filled. -/
structure FB (w wr : World) (gf : Nat) (v : Value) (l : List Bool) : Prop where
  row : wr.heap[gf]? = some (.cells #[v, .int .i64 0] 50 (0, 0))
  own : wr.ownsRow w.heap.size 4 1 v l.length (nb l)
  below : Below w.heap.size w wr
  le : w.heap.size ≤ gf
theorem FB.start (w : World) : FB w (w.alloc (.cells #[.slice none 0 0, .int .i64 0] 50)) w.heap.size (.slice none 0 0) [] :=
  ⟨heap_alloc_new _ _, World.ownsRow_nil _ _ _ _, (Below.refl _ _).alloc (Nat.le_refl _) _, Nat.le_refl _⟩
theorem own_ne50 {base : Nat} {w : World} {v : Value} {n : Nat} {l : List Value} {g : Nat} {cs : Array Value} (h : w.ownsRow base 4 1 v n l) (hg : w.heap[g]? = some (.cells cs 50 (0, 0))) : v.ownBlock ≠ some g := by
  obtain ⟨h0, ⟨h1, h2⟩ | ⟨g', cap, cur, h1, h2, h3, h4⟩⟩ := h
  · rw [h1]; intro e; cases e
  · rw [h1]
    intro e
    simp [Value.ownBlock] at e
    subst e
    rw [hg] at h3
    simp at h3
theorem FB.c0 {w wr : World} {gf : Nat} {v : Value} {l : List Bool} (h : FB w wr gf v l) : wr.cell? ⟨gf, 0, none⟩ = some v := cell_of_row _ _ _ _ _ _ h.row
theorem FB.app {w wr wa w2 : World} {gf : Nat} {v v' : Value} {l : List Bool} (h : FB w wr gf v l) (b : Bool) (hwa : Below wr.heap.size wr wa)
    (hown : w2.ownsRow w.heap.size 4 1 v' (l.length + 1) (nb l ++ [.bool b])) (hgrow : wa.grownBy w2 v.ownBlock) :
    w2.cell? ⟨gf, 0, none⟩ = some v ∧ w2.frozen? ⟨gf, 0, none⟩ = false ∧ FB w (w2.setCell ⟨gf, 0, none⟩ v') gf v' (l ++ [b]) := by
  have hgl : gf < wr.heap.size := (Array.getElem?_eq_some_iff.1 h.row).1
  have hrow : w2.heap[gf]? = some (.cells #[v, .int .i64 0] 50 (0, 0)) := by
    rw [hgrow.block gf (Nat.lt_of_lt_of_le hgl hwa.size) (fun e => own_ne50 h.own h.row e.symm), hwa.block gf hgl]; exact h.row
  have hbl : Below w.heap.size w w2 := (h.below.trans (hwa.mono h.below.size)).grown hgrow (Nat.le_trans h.below.size hwa.size) (fun k hk => (h.own.lt k hk).1)
  refine ⟨cell_of_row _ _ _ _ _ _ hrow, frozen_of_row _ _ _ _ _ hrow, ?_, ?_, hbl.setCell h.le _, h.le⟩
  · rw [heap_setCell_same _ _ _ _ _ _ hrow]; simp
  · rw [nb_append, List.length_append]
    exact own_stays hown fun k hk => heap_setCell_other _ _ _ _ (fun e => own_ne50 hown hrow (by rw [hk, e]))
theorem bits_step (row q : Nat) (hr : row < 65536) (h0 : 0 < q) (hq : q ≤ 15) : (bits15 (row / 2)).take (15 - (q - 1)) = (bits15 (row / 2)).take (15 - q) ++ [bits .and .u16 ((row : Int) / 2 ^ q) 1 == 1] := by
  rw [show 15 - (q - 1) = (15 - q) + 1 by omega, List.take_add_one, List.getElem?_eq_getElem (by rw [bits15_length]; omega)]
  congr 1
  have e2 : (row : Int) / 2 ^ q = ((row / 2 ^ q : Nat) : Int) := by simp
  have e3 : row / 2 ^ q < 65536 := Nat.lt_of_le_of_lt (Nat.div_le_self _ _) hr
  rw [e2, show (1 : Int) = ((1 : Nat) : Int) from rfl, u16_and_nat _ _ e3 (by decide), Nat.and_one_is_mod]
  have e4 : row / 2 / 2 ^ (14 - (15 - q)) = row / 2 ^ q := by
    obtain ⟨m, rfl⟩ : ∃ m, q = m + 1 := ⟨q - 1, by omega⟩
    rw [Nat.div_div_eq_div_mul, show 14 - (15 - (m + 1)) = m by omega, Nat.pow_succ, Nat.mul_comm]
  simp only [bits15, List.getElem_map, List.getElem_range, e4, Option.toList_some]
  congr 1
  generalize row / 2 ^ q = y
  rcases Nat.mod_two_eq_zero_or_one y with h | h <;> rw [h] <;> rfl
theorem FB.feed {w wr : World} {gf : Nat} {v : Value} {l : List Bool} (h : FB w wr gf v l) (hl : l.length ≤ 1024) : FeedAt wr gf v l 0 :=
  ⟨h.row, own_toV h.own, Nat.zero_le _, by omega, fun p n cap e _ h2 => own_ne50 h.own h.row (by rw [e]; simp [Value.ownBlock, h2])⟩
theorem FB.lt {w wr : World} {gf : Nat} {v : Value} {l : List Bool} (h : FB w wr gf v l) : ∀ p n cap, v = .slice (some p) n cap → 0 < n → p.block < wr.heap.size :=
  fun p n cap e _ => (h.own.lt p.block (by rw [e]; rfl)).2
theorem deep_15 {zs : List Int} (hg : good zs) : deep zs ≤ 15 := by rw [← dk_all]; exact (dk_pos zs _ (Nat.le_refl _) hg).2
theorem read_is {zs : List Int} (hg : good zs) (x i : Nat) (hx : x < 32768) (h : hit zs x i) : rd zs (deep zs) 0 0 (bits15 x) = (i, 0, (zs.getD i 0).toNat) := by
  rcases read_hit hg x i h with h | h
  · exact h
  · omega
theorem read_no {zs : List Int} (hg : good zs) (h1 : Hf.lone zs = true) (x : Nat) (hx : x < 32768) (h : ∀ i, i < zs.length → ¬ hit zs x i) : rd zs (deep zs) 0 0 (bits15 x) = (0, 20, 1) := by
  rcases read_none hg h1 x h with h | h
  · exact h
  · omega
theorem SlK_bool (w : World) (b : Bool) : SlK 1 (w.alloc (.cells #[.bool b] 4)).drew (.slice (some ⟨w.heap.size, 0, none⟩) 1 1) 1 [.bool b] :=
  ⟨rfl, .inl ⟨w.heap.size, 0, 1, rfl, Nat.le_refl _, fun i v hi => by rw [Nat.zero_add]; exact (cell_of_row _ _ _ _ _ _ (heap_alloc_new w _)).trans (by simpa using hi)⟩⟩
theorem one_bool (x : Bool) : ∀ y ∈ [Value.bool x], y.oneCell' = true := by
  intro y hy
  simp at hy
  subst hy
  rfl
theorem SlK_new (w : World) (x : Int) : SlK 1 (w.alloc (.cells #[.int .i64 x] 3)) (.slice (some ⟨w.heap.size, 0, none⟩) 1 1) 1 [.int .i64 x] :=
  ⟨rfl, .inl ⟨w.heap.size, 0, 1, rfl, Nat.le_refl _, fun i v hi => by rw [Nat.zero_add]; exact (cell_of_row _ _ _ _ _ _ (heap_alloc_new w _)).trans (by simpa using hi)⟩⟩
theorem lone_wants {zs : List Int} (h : Hf.lone zs = true) : st zs = -1 := by
  have := (lone_deep h).2
  unfold st; rw [if_pos (by omega)]
end Go.Proofs.Ytoifppfhnedahaa
