/-
  three: the key of a chain; ahead: the next place of a chain.
-/
import Derived.Test.YtghphgpbgekoiaaAlike
namespace Go.Proofs.Ytghphgpbgekoiaa
open Go.RowKit
/-- The three bytes at a place, as a value. -/
def k3 (b : List UInt8) (p : Nat) : Value := .agg #[.int .u8 (bi (Mt.byt b p)), .int .u8 (bi (Mt.byt b (p + 1))), .int .u8 (bi (Mt.byt b (p + 2)))]
theorem info69 : (Try.prog.info? 69).map (·.size) = some 3 := by kernel_rfl
set_option maxRecDepth 100000 in
set_option maxHeartbeats 1000000 in
theorem three_walk (w : World) (v : Value) (b : List UInt8) (k : Nat) (hv : SlV w v (bl b)) (hk : k + 3 ≤ b.length) (hb : b.length ≤ 1099511627776) :
    Calls Try.prog 31 #[v, .int .i64 (k : Int)] w fun e w' => e = .returned (k3 b k) ∧ Below w.heap.size w w' := by
  obtain ⟨p, cap, rfl⟩ := hv.shape
  rw [bl_length] at hv ⊢
  obtain ⟨g, o, rfl, hrow⟩ := hv.some (by omega)
  have hcap := hv.le
  have hc0 := hrow.bl k (by omega)
  have hc1 := hrow.bl (k + 1) (by omega)
  have hc2 := hrow.bl (k + 2) (by omega)
  unfold k3
  generalize Mt.byt b k = x0 at *
  generalize Mt.byt b (k + 1) = x1 at *
  generalize Mt.byt b (k + 2) = x2 at *
  generalize b.length = n at *
  have h0 : (k : Int) < (n : Int) := by omega
  have h1 : (k : Int) + 1 < (n : Int) := by omega
  have h2 : (k : Int) + 2 < (n : Int) := by omega
  have h1' : 0 ≤ (k : Int) + 1 := by omega
  have h2' : 0 ≤ (k : Int) + 2 := by omega
  have hw1 : IntKind.i64.wrap ((k : Int) + 1) = (k : Int) + 1 := IntWalk.i64_in _ (by omega)
  have hw2 : IntKind.i64.wrap ((k : Int) + 2) = (k : Int) + 2 := IntWalk.i64_in _ (by omega)
  have ht1 : ((k : Int) + 1).toNat = k + 1 := by omega
  have ht2 : ((k : Int) + 2).toNat = k + 2 := by omega
  have hB : ∀ ob, Below w.heap.size w (w.alloc ob) := fun ob => (Below.refl _ _).alloc (Nat.le_refl _) _
  have hd0 : ∀ ob, (w.alloc ob).cell? _ = _ := fun ob => ((hB ob).cell (block_lt_of_cell hc0)).trans hc0
  have hd1 : ∀ ob, (w.alloc ob).cell? _ = _ := fun ob => ((hB ob).cell (block_lt_of_cell hc1)).trans hc1
  have hd2 : ∀ ob, (w.alloc ob).cell? _ = _ := fun ob => ((hB ob).cell (block_lt_of_cell hc2)).trans hc2
  have HB := Lib.hid hB
  clear hv hrow hB
  go_enter Try.func31, Try.ntmps31
  go_wp2_with fail
  go_region
  go_wp2_with fail
  exact bodyPost_ret (results_cell_row (p := 4) (ty := 69) rfl _ _ w.heap.size 69 _ (0, 0) _ rfl (heap_alloc_new w _) Try.underlying69 rfl info69) rfl ⟨rfl, (HB.out _).trans ⟨rfl, rfl, rfl, Nat.le_refl _, fun _ _ => rfl⟩⟩
/-- Numbers of 16 bits, as cells. -/
def nh (l : List Nat) : List Value := l.map fun (x : Nat) => Value.int .u16 (x : Int)
@[simp] theorem nh_length (l : List Nat) : (nh l).length = l.length := by simp [nh]
theorem RowAt.nh {w : World} {g o : Nat} {l : List Nat} (h : RowAt w g o (nh l)) (i : Nat) (hi : i < l.length) : w.cell? ⟨g, o + i, none⟩ = some (.int .u16 ((l.getD i 0 : Nat) : Int)) := by
  refine h i _ ?_
  simp [Ytghphgpbgekoiaa.nh, hi]
/-- How far ahead of each place the next one of its chain is, of the places below n. -/
def farv (b : List UInt8) (n p : Nat) : Nat := if p < n ∧ p + 3 ≤ b.length then (match Mt.chain b p p with | [] => 0 | q :: _ => p - q) else 0
def fars (b : List UInt8) (n : Nat) : List Nat := (List.range b.length).map (farv b n)
theorem fars_length (b : List UInt8) (n : Nat) : (fars b n).length = b.length := by simp [fars]
theorem fars_at (b : List UInt8) (n p : Nat) (hp : p < b.length) : (fars b n).getD p 0 = farv b n p := by simp [fars, hp]
theorem fars_zero (b : List UInt8) : fars b 0 = List.replicate b.length 0 := by
  unfold fars
  rw [List.eq_replicate_iff]
  refine ⟨by simp, fun x hx => ?_⟩
  obtain ⟨p, _, rfl⟩ := List.mem_map.1 hx
  unfold farv; rw [if_neg (by omega)]
theorem fars_step (b : List UInt8) (n : Nat) : fars b (n + 1) = (fars b n).set n (farv b (n + 1) n) := by
  apply List.ext_getElem (by simp [fars])
  intro i h1 h2
  simp only [List.getElem_set, fars, List.getElem_map, List.getElem_range]
  by_cases h : n = i
  · rw [if_pos h, h]
  · rw [if_neg h]
    unfold farv
    by_cases h3 : i < n ∧ i + 3 ≤ b.length
    · rw [if_pos h3, if_pos ⟨by omega, h3.2⟩]
    · rw [if_neg h3, if_neg (fun h4 => h3 ⟨by omega, h4.2⟩)]
theorem farv_le (b : List UInt8) (n p : Nat) : farv b n p ≤ p := by
  unfold farv
  split
  · split <;> omega
  · omega
theorem fars_all (b : List UInt8) : fars b (b.length - 2) = fars b b.length := by
  unfold fars
  apply List.map_congr_left
  intro p _
  unfold farv
  by_cases h : p + 3 ≤ b.length
  · rw [if_pos ⟨by omega, h⟩, if_pos ⟨by omega, h⟩]
  · rw [if_neg (fun h1 => h h1.2), if_neg (fun h1 => h h1.2)]
/-- All places of b, linked, in memory. -/
structure ChAt (w : World) (gc : Nat) (vb vf : Value) (d : Int) (b : List UInt8) : Prop where
  c0 : w.cell? ⟨gc, 0, none⟩ = some vb
  c1 : w.cell? ⟨gc, 1, none⟩ = some (.int .i64 d)
  c2 : w.cell? ⟨gc, 2, none⟩ = some vf
  bs : SlV w vb (bl b)
  fs : SlV w vf (nh (fars b b.length))
theorem ChAt.below {w w' : World} {gc : Nat} {vb vf : Value} {d : Int} {b : List UInt8} (h : ChAt w gc vb vf d b) {B : Nat} (hb : Below B w w') (hB : w.heap.size ≤ B) : ChAt w' gc vb vf d b := by
  have hg := block_lt_of_cell h.c0
  exact ⟨(hb.cell (p := ⟨gc, 0, none⟩) (Nat.lt_of_lt_of_le hg hB)).trans h.c0, (hb.cell (p := ⟨gc, 1, none⟩) (Nat.lt_of_lt_of_le hg hB)).trans h.c1, (hb.cell (p := ⟨gc, 2, none⟩) (Nat.lt_of_lt_of_le hg hB)).trans h.c2, h.bs.below hb hB, h.fs.below hb hB⟩
set_option maxRecDepth 100000 in
set_option maxHeartbeats 1000000 in
theorem ahead_walk (w : World) (gc : Nat) (vb vf : Value) (d : Int) (b : List UInt8) (h : ChAt w gc vb vf d b) (p : Nat) (hp : p + 3 ≤ b.length) (hb : b.length ≤ 32768) :
    Calls Try.prog 32 #[.pointer (some ⟨gc, 0, none⟩), .int .i64 (p : Int)] w fun e w' => e = .returned (.int .i64 (Mt.ahead b p)) ∧ w' = w := by
  obtain ⟨q, cap, rfl⟩ := h.fs.shape
  have hfs := h.fs
  have c2 := h.c2
  rw [nh_length, fars_length] at hfs c2
  obtain ⟨g, o, rfl, hrow⟩ := hfs.some (by omega)
  have hcap := hfs.le
  have hc := hrow.nh p (by rw [fars_length]; omega)
  rw [fars_at _ _ _ (by omega)] at hc
  have hle := farv_le b b.length p
  have hv : farv b b.length p = (match Mt.chain b p p with | [] => 0 | q :: _ => p - q) := by unfold farv; rw [if_pos ⟨by omega, hp⟩]
  have HA : Hid (Mt.ahead b p = if farv b b.length p = 0 then -1 else (p : Int) - (farv b b.length p : Nat)) := Lib.hid (by
    rw [hv]
    unfold Mt.ahead
    cases hch : Mt.chain b p p with
    | nil => rfl
    | cons q t =>
      have := (Mt.chain_head hch).1
      rw [if_neg (by show ¬ p - q = 0; omega)]
      show (q : Int) = (p : Int) - ((p - q : Nat) : Int)
      omega)
  clear hv hrow hfs h
  generalize farv b b.length p = f at *
  generalize b.length = n at *
  have h1 : (p : Int) < (n : Int) := by omega
  go_enter Try.func32, Try.ntmps32
  by_cases hf : f = 0
  · subst hf
    rw [if_pos rfl] at HA
    go_wp2_with fail
    go_ret
    exact ⟨by rw [HA.out]; rfl, rfl⟩
  · rw [if_neg hf] at HA
    have hfe : ((f : Int) == 0) = false := beq_eq_false_iff_ne.2 (by omega)
    have hw1 : IntKind.i64.wrap (f : Int) = (f : Int) := IntWalk.i64_in _ (by omega)
    go_wp2_with fail
    go_ret
    exact ⟨by rw [HA.out]; rfl, rfl⟩
end Go.Proofs.Ytghphgpbgekoiaa
