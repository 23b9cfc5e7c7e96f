/-
  The document's own Octal.
-/
import Derived.Test.YtkkelmlkpehcpaaDoorFd
import Derived.Test.YtkkelmlkpehcpaaDoorFo
namespace Go.Proofs.YtkkelmlkpehcpaaDoor
open Go.RowKit

/-- A row of bytes that the call has made, filled from its end. -/
structure TailAt (w wr : World) (m : Nat) (t : List UInt8) : Prop where
  row : ∃ cs : List Value, cs.length = m ∧ wr.heap[w.heap.size]? = some (.cells cs.toArray 5 (0, 0)) ∧ cs.drop (m - t.length) = bl t ∧ ∀ v ∈ cs, ∃ x : UInt8, v = .int .u8 (bi x)
  below : Below w.heap.size w wr
theorem TailAt.step {w wr : World} {m : Nat} {t : List UInt8} (h : TailAt w wr m t) (ht : t.length < m) (j : Nat) (hj : j = m - t.length - 1) (b : UInt8) : TailAt w (wr.setCell ⟨w.heap.size, j, none⟩ (.int .u8 (bi b))) m (b :: t) := by
  subst hj
  obtain ⟨cs, hl, hr, hd, ha⟩ := h.row
  refine ⟨⟨cs.set (m - t.length - 1) (.int .u8 (bi b)), by simpa using hl, ?_, ?_, ?_⟩, h.below.setCell (Nat.le_refl _) _⟩
  · rw [heap_setCell_same _ _ _ _ _ _ hr]; simp
  · rw [List.length_cons, show m - (t.length + 1) = m - t.length - 1 by omega, List.drop_set, if_neg (by omega), Nat.sub_self, List.drop_eq_getElem_cons (by omega), List.set_cons_zero, show m - t.length - 1 + 1 = m - t.length by omega, hd]
    simp [bl]
  · intro v hv
    rcases List.mem_or_eq_of_mem_set hv with h1 | h1
    · exact ha v h1
    · exact ⟨b, h1⟩
theorem TailAt.cell {w wr : World} {m : Nat} {t : List UInt8} (h : TailAt w wr m t) (i : Nat) (hi : i < m) : ∃ x : UInt8, wr.cell? ⟨w.heap.size, i, none⟩ = some (.int .u8 (bi x)) := by
  obtain ⟨cs, hl, hr, _, ha⟩ := h.row
  obtain ⟨x, hx⟩ := ha (cs[i]'(by omega)) (List.getElem_mem _)
  refine ⟨x, ?_⟩
  rw [cell_of_row _ _ _ _ _ _ hr, ← hx]
  simp [hl, hi]
theorem TailAt.free {w wr : World} {m : Nat} {t : List UInt8} (h : TailAt w wr m t) (i : Nat) : wr.frozen? ⟨w.heap.size, i, none⟩ = false := by
  obtain ⟨cs, hl, hr, _⟩ := h.row
  exact frozen_of_row _ _ _ _ _ hr
theorem TailAt.start (w : World) (m : Nat) (hm : 1 ≤ m) : TailAt w (w.alloc (.cells (bl (List.replicate m 0)).toArray 5)) m [0] :=
  ⟨⟨_, by simp, heap_alloc_new _ _, by simp [bl, show m - (m - 1) = 1 by omega], fun v hv => by simp [bl] at hv; exact ⟨0, hv.2⟩⟩, (Below.refl _ _).alloc (Nat.le_refl _) _⟩
theorem TailAt.own {w wr : World} {m : Nat} {t : List UInt8} (h : TailAt w wr m t) (ht : t.length = m) (hm : m ≤ 1000) : OwnM w.heap.size wr (.slice (some ⟨w.heap.size, 0, none⟩) m m) t := by
  obtain ⟨cs, hl, hr, hd, _⟩ := h.row
  rw [ht, Nat.sub_self, List.drop_zero] at hd
  subst hd
  exact .inr ⟨w.heap.size, m, _, (0, 0), by rw [ht], Nat.le_refl _, hr, .inl rfl, by omega, by unfold maxLen; omega, by simpa using hl, by rw [ht, List.take_of_length_le (by simp; omega)]⟩
def ROctLoop (w : World) (n0 : Nat) (m : Nat) (n i : Value) (wr : World) : Prop := ∃ k : Nat, k + 1 ≤ m ∧ n = .int .i64 ((n0 / 8 ^ k : Nat) : Int) ∧ i = .int .i64 ((m : Int) - 2 - (k : Int)) ∧ TailAt w wr m (Fx.pad k n0 ++ [0])
set_option maxRecDepth 100000 in
set_option maxHeartbeats 1000000 in
theorem roctal_walk (w : World) (n many : Int) (h2 : n < 9223372036854775808) :
    Calls Tryd.prog 11 #[.int .i64 n, .int .i64 many] w (MadePost (Fx.octL n many) (Fx.octE n many) w) := by
  by_cases hlo : many < 2
  · obtain ⟨e1, e2⟩ := oct_arg n many (.inl hlo)
    rw [e1, e2]
    clear e1 e2
    go_enter Tryd.func11, Tryd.ntmps11
    go_wp2_with fail
    go_ret2
    exact made_none w w (Below.refl _ _)
  by_cases hhi : 20 < many
  · obtain ⟨e1, e2⟩ := oct_arg n many (.inr hhi)
    rw [e1, e2]
    clear e1 e2
    go_enter Tryd.func11, Tryd.ntmps11
    go_wp2_with fail
    go_ret2
    exact made_none w w (Below.refl _ _)
  obtain ⟨m, rfl⟩ : ∃ m : Nat, many = (m : Int) := ⟨many.toNat, by omega⟩
  have hm1 : 2 ≤ (m : Int) := by omega
  have hm2 : (m : Int) ≤ 20 := by omega
  clear hlo hhi
  have hlo : decide ((m : Int) < 2) = false := decide_eq_false (by omega)
  have hhi : decide (20 < (m : Int)) = false := decide_eq_false (by omega)
  by_cases hn : n < 0
  · obtain ⟨e1, e2⟩ := oct_long n m hm1 hm2 (.inl hn)
    rw [e1, e2]
    clear e1 e2
    go_enter Tryd.func11, Tryd.ntmps11
    go_wp2_with fail
    go_ret2
    exact made_none w w (Below.refl _ _)
  obtain ⟨u, rfl⟩ : ∃ u : Nat, n = (u : Int) := ⟨n.toNat, by omega⟩
  clear hn
  have hu : decide ((u : Int) < 0) = false := decide_eq_false (by omega)
  have hmk := made_bytes m (by omega)
  have HW := Lib.hid (TailAt.start w m (by omega))
  have HP := Lib.hid h2
  clear h2
  go_enter Tryd.func11, Tryd.ntmps11
  go_wp2_with fail
  go_loopw [0, 7] (fun v i wr => ROctLoop w u m v i wr) (fun _ i _ => (intOf i + 1).toNat)
  case atStart => exact ⟨0, by omega, by simp, by simp, HW.out⟩
  case round =>
    clear HW hu
    obtain ⟨k, hk, rfl, rfl, hA⟩ := hrel
    have HA := Lib.hid hA
    clear hA
    obtain ⟨q, hq⟩ : ∃ q : Nat, u / 8 ^ k = q := ⟨_, rfl⟩
    have HQ := Lib.hid hq
    have hqu : (q : Int) < 9223372036854775808 := by
      have h9 : u / 8 ^ k ≤ u := Nat.div_le_self _ _
      have := HP.out
      omega
    rw [hq]
    by_cases hlt : k + 1 < m
    · obtain ⟨j, hj⟩ : ∃ j : Nat, (m : Int) - 2 - (k : Int) = (j : Int) := ⟨m - 2 - k, by omega⟩
      rw [hj]
      have hjm : (j : Int) < (m : Int) := by omega
      have HJ := Lib.hid hj
      obtain ⟨x, hc⟩ := HA.out.cell j (by omega)
      have hf := HA.out.free j
      have HST := Lib.hid (HA.out.step (by simp; omega) j (by simp; omega) (UInt8.ofNat (48 + q % 8)))
      have e48 : bi (UInt8.ofNat (48 + q % 8)) = 48 + (q : Int) % 8 := by rw [bi_of _ (by omega)]; omega
      rw [e48] at HST
      have HSN : Hid (TailAt w (wr.setCell ⟨w.heap.size, j, none⟩ (.int .u8 (48 + (q : Int) % 8))) m (Fx.pad (k + 1) u ++ [0])) := Lib.hid (by rw [Fx.pad_cons, HQ.out]; exact HST.out)
      clear hj hq hlt HST e48
      go_wp2_with fail
      refine ⟨⟨k + 1, by have := HJ.out; omega, ?_, ?_, HSN.out⟩, by simp [intOf]⟩
      · rw [Nat.pow_succ, ← Nat.div_div_eq_div_mul, HQ.out]; simp
      · have := HJ.out; congr 1; omega
    · obtain rfl : m = k + 1 := by omega
      clear hlt hq
      rw [show ((k + 1 : Nat) : Int) - 2 - (k : Int) = -1 by omega]
      by_cases hq0 : q = 0
      · have HE := Lib.hid (oct_ok u (k + 1) (by omega) (by omega) (by rw [Nat.add_sub_cancel]; exact (Nat.div_eq_zero_iff_lt (Nat.pow_pos (by omega))).1 (HQ.out.trans hq0)))
        subst hq0
        go_wp2_with fail
        go_ret2
        rw [HE.out.1, HE.out.2]
        exact ⟨_, rfl, HA.out.own (by simp) (by omega), HA.out.below⟩
      · have HE := Lib.hid (oct_long u ((k + 1 : Nat) : Int) (by omega) (by omega) (.inr (by
          rw [Int.toNat_natCast, Nat.add_sub_cancel]
          have h1 : 8 ^ k ≤ u := by
            rcases Nat.lt_or_ge u (8 ^ k) with h | h
            · exact absurd (HQ.out.symm.trans (Nat.div_eq_of_lt h)) hq0
            · exact h
          have h9 : ((8 ^ k : Nat) : Int) ≤ (u : Int) := Int.ofNat_le.2 h1
          rwa [Int.natCast_pow] at h9)))
        obtain ⟨p, rfl⟩ : ∃ p, q = p + 1 := ⟨q - 1, by omega⟩
        clear hq0 hqu hm1 hm2 hlo hhi hmk hk
        go_wp2_with fail
        go_ret2
        rw [HE.out.1, HE.out.2]
        exact made_none w _ HA.out.below
end Go.Proofs.YtkkelmlkpehcpaaDoor
