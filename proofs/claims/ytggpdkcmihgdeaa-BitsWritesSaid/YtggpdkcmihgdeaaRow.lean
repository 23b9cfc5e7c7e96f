/-
  Contracts of the document's own rows of bits: Put, Fill, Of, Done.
-/
import Derived.Test.YtggpdkcmihgdeaaRef2
import Derived.Test.YtggpdkcmihgdeaaRd
namespace Go.Proofs.Ytggpdkcmihgdeaa
open Go.RowKit Bt

theorem Has.w1 {w : World} {F : Nat → Prop} {g n : Nat} {L : List Bool} (h : Has w F (.row g L n)) : ∃ p cap, w.cell? ⟨g, 0, none⟩ = some (.slice p L.length cap) ∧ w.cell? ⟨g, 1, none⟩ = some (.int .i64 (n : Int)) ∧ OwnL 0 w (.slice p L.length cap) L ∧ (∀ i, w.frozen? ⟨g, i, none⟩ = false) := by
  obtain ⟨rv, h1, h2, _⟩ := h
  obtain ⟨p, cap, rfl⟩ := h2.toL.shape
  exact ⟨p, cap, cell_of_row _ _ _ _ _ _ h1, cell_of_row _ _ _ _ _ _ h1, h2, fun i => frozen_of_row _ _ _ _ _ h1⟩
/-- What is behind an append to a row. -/
theorem Has.rowapp {w wa w1 : World} {F : Nat → Prop} {g n : Nat} {L A : List Bool} {rv v' : Value} (h : Has w F (.row g L n)) (hc : w.cell? ⟨g, 0, none⟩ = some rv) (hwa : Below w.heap.size w wa) (hown : OwnL 0 w1 v' (L ++ A)) (hg : wa.grownBy w1 rv.ownBlock)
    (hat : v'.ownBlock = rv.ownBlock ∨ v'.ownBlock = some wa.heap.size) :
    w1.cell? ⟨g, 0, none⟩ = some rv ∧ w1.frozen? ⟨g, 0, none⟩ = false ∧ Turn F (.row g (L ++ A) n) w (w1.setCell ⟨g, 0, none⟩ v') := by
  obtain ⟨rv', h1, h2, h3, h4⟩ := h
  obtain rfl : rv' = rv := by
    have := (cell_of_row w g 0 _ 28 (0, 0) h1).symm.trans hc
    simpa [rcs] using this
  have hne := h2.apart h1 (by decide)
  have hlt : g < w.heap.size := (Array.getElem?_eq_some_iff.1 h1).1
  have hgw : w1.heap[g]? = some (.cells (rcs rv' n) 28 (0, 0)) := (hg.block g (by have := hwa.size; omega) (fun e => hne e.symm)).trans ((hwa.block g hlt).trans h1)
  have hne' := hown.apart hgw (by decide)
  have hl1 := hown.lt
  refine ⟨cell_of_row _ _ _ _ _ _ hgw, frozen_of_row _ _ _ _ _ hgw, ((OnlyS.of_below hwa).trans (OnlyS.grown hg h4)).trans (OnlyS.setCell _ _ _ _ h3), v', (heap_setCell_same _ _ _ _ _ _ hgw).trans rfl, ?_, .inl h3, fun k hk => ?_⟩
  · exact hown.stays fun k hk => heap_setCell_other _ _ _ _ (fun e => hne' (by rw [hk, e]))
  · have hl := hl1 k hk
    rcases hat with hat | hat
    · exact .inl (h4 k (hat.symm.trans hk))
    · refine .inr ⟨by rw [hat] at hk; cases hk; exact hwa.size, ?_⟩
      simp [World.setCell]; exact hl.2
set_option maxRecDepth 100000 in
set_option maxHeartbeats 1000000 in
theorem rput_ok (w : World) (F : Nat → Prop) (g n0 : Nat) (L : List Bool) (n K : Nat) (h : Has w F (.row g L n0)) (hlen : L.length + K ≤ 1099511627776) (hn : n < 18446744073709551616) (hK : K ≤ 57) (hf : n < 2 ^ K) :
    Calls Try.prog 11 #[.pointer (some ⟨g, 0, none⟩), .int .u64 (n : Int), .int .i64 (K : Int)] w (Turned (.int .i64 0) F (.row g (L ++ bitsN n K) n0) w) := by
  obtain ⟨p, cap, c0, _, ho, _⟩ := h.w1
  have HH := Lib.hid h
  have HO := Lib.hid ho
  have HC := Lib.hid c0
  have HBT := bits_ref w n (K : Int) hn (by omega)
  rw [show ((K : Int)).toNat = K by omega] at HBT
  have HBT := Lib.hid HBT
  have h1 : (0 : Int) ≤ (K : Int) := by omega
  have h2 : (K : Int) ≤ 57 := by omega
  have hd : decide ((K : Int) < 0) = false := by simp
  have HF : Hid (decide (n < 2 ^ K) = true) := Lib.hid (by simpa using hf)
  have HL : Hid (L.length + (bitsN n K).length ≤ 1099511627776) := Lib.hid (by rw [bitsN_length]; exact hlen)
  clear h ho hn hf c0
  obtain ⟨l, hl⟩ : ∃ l, l = L.length := ⟨_, rfl⟩
  rw [← hl] at HC HO
  clear hl
  go_enter Try.func11, Try.ntmps11
  go_wp2_with fail
  refine HBT.out.mono ?_
  rintro e w1 ⟨p5, c5, rfl, ho, hb⟩
  rw [HF.out]
  have HO5 := Lib.hid ho
  have HB1 := Lib.hid hb
  have c1 : w1.cell? ⟨g, 0, none⟩ = some (.slice p l cap) := (HB1.out.cell (p := ⟨g, 0, none⟩) (block_lt_of_cell HC.out)).trans HC.out
  have HO1 := Lib.hid (HO.out.stays fun k hk => HB1.out.block k (HO.out.lt k hk).2)
  clear ho hb HBT HF
  go_wp2_with (refine wpList_appL rfl (.tmp 27) (.tmp 28) rfl 0 (.slice p l cap) (.slice p5 K c5) L (bitsN n K) rfl rfl HO1.out HO5.out.toL (Nat.zero_le _) HL.out ?_; intro v' w2 hown hgrow hat; obtain ⟨p', c', rfl⟩ := hown.toL.shape; generalize (L ++ bitsN n K).length = nl at *; obtain ⟨e1, f1, hT⟩ := HH.out.rowapp HC.out HB1.out hown hgrow hat; have HT := Lib.hid hT; clear hT hown hgrow hat c1)
  go_ret
  exact ⟨rfl, HT.out⟩
def BelowPost (v : Value) (w : World) (e : Ending) (w' : World) : Prop := e = .returned v ∧ Below w.heap.size w w'
set_option maxRecDepth 100000 in
set_option maxHeartbeats 1000000 in
theorem rput_in (w : World) (g n K : Nat) (hn : n < 18446744073709551616) (hK : K ≤ 57) (hf : ¬ n < 2 ^ K) :
    Calls Try.prog 11 #[.pointer (some ⟨g, 0, none⟩), .int .u64 (n : Int), .int .i64 (K : Int)] w (BelowPost (.int .i64 1) w) := by
  have HBT := bits_ref w n (K : Int) hn (by omega)
  rw [show ((K : Int)).toNat = K by omega] at HBT
  have HBT := Lib.hid HBT
  have h1 : (0 : Int) ≤ (K : Int) := by omega
  have h2 : (K : Int) ≤ 57 := by omega
  have hd : decide ((K : Int) < 0) = false := by simp
  have HF : Hid (decide (n < 2 ^ K) = false) := Lib.hid (by simpa using hf)
  clear hn hf
  go_enter Try.func11, Try.ntmps11
  go_wp2_with fail
  refine HBT.out.mono ?_
  rintro e w1 ⟨p5, c5, rfl, ho, hb⟩
  rw [HF.out]
  have HB1 := Lib.hid hb
  clear ho hb HBT HF
  go_wp2_with fail
  go_ret
  exact ⟨rfl, HB1.out⟩
set_option maxHeartbeats 400000 in
theorem rput_lo (w : World) (p : Value) (n : Nat) (m : Int) (hm : m < 0) :
    Calls Try.prog 11 #[p, .int .u64 (n : Int), .int .i64 m] w (BelowPost (.int .i64 1) w) := by
  have hd : decide (m < 0) = true := by simpa using hm
  go_enter Try.func11, Try.ntmps11
  go_wp2_with fail
  go_ret
  exact ⟨rfl, Below.refl _ _⟩
set_option maxHeartbeats 400000 in
theorem rput_hi (w : World) (p : Value) (n : Nat) (m : Int) (hm : 57 < m) :
    Calls Try.prog 11 #[p, .int .u64 (n : Int), .int .i64 m] w (BelowPost (.int .i64 1) w) := by
  have hd : decide (m < 0) = false := by simp; omega
  go_enter Try.func11, Try.ntmps11
  go_wp2_with fail
  go_ret
  exact ⟨rfl, Below.refl _ _⟩
def fits' (n : Nat) (many : Int) : Prop := 0 ≤ many ∧ many ≤ 57 ∧ n < 2 ^ many.toNat
theorem rput_no (w : World) (g n : Nat) (m : Int) (hn : n < 18446744073709551616) (hf : ¬ fits' n m) :
    Calls Try.prog 11 #[.pointer (some ⟨g, 0, none⟩), .int .u64 (n : Int), .int .i64 m] w (BelowPost (.int .i64 1) w) := by
  by_cases h1 : m < 0
  · exact rput_lo w _ n m h1
  by_cases h2 : 57 < m
  · exact rput_hi w _ n m h2
  obtain ⟨k, rfl⟩ := Int.eq_ofNat_of_zero_le (show 0 ≤ m by omega)
  exact rput_in w g n k hn (by omega) (fun h => hf ⟨by omega, by omega, by simpa using h⟩)
end Go.Proofs.Ytggpdkcmihgdeaa
