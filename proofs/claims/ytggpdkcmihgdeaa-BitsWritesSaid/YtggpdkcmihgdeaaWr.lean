/-
  Contracts of bits.Writer's calls.
-/
import Derived.Test.YtggpdkcmihgdeaaLay
namespace Go.Proofs.Ytggpdkcmihgdeaa
open Go.RowKit Bt

theorem Has.w0 {w : World} {F : Nat → Prop} {g : Nat} {L : List Bool} (h : Has w F (.wr g L)) : w.cell? ⟨g, 0, none⟩ = some (.bool true) := by
  obtain ⟨rv, h1, _⟩ := h; exact cell_of_row _ _ _ _ _ _ h1
theorem Has.w2 {w : World} {F : Nat → Prop} {g : Nat} {L : List Bool} (h : Has w F (.wr g L)) : w.cell? ⟨g, 2, none⟩ = some (.int .i64 (L.length : Int)) := by
  obtain ⟨rv, h1, _⟩ := h; exact cell_of_row _ _ _ _ _ _ h1
set_option maxHeartbeats 400000 in
theorem wusable_cell (w : World) (g : Nat) (b : Bool) (c0 : w.cell? ⟨g, 0, none⟩ = some (.bool b)) :
    Calls Try.prog 44 #[.pointer (some ⟨g, 0, none⟩)] w fun e w' => e = .returned (.bool b) ∧ w = w' := by
  go_enter Try.func44, Try.ntmps44
  go_wp2_with fail
  go_ret
  exact ⟨rfl, rfl⟩
set_option maxHeartbeats 400000 in
theorem wusable_none (w : World) :
    Calls Try.prog 44 #[.pointer none] w fun e w' => e = .returned (.bool false) ∧ w = w' := by
  go_enter Try.func44, Try.ntmps44
  go_wp2_with fail
  go_ret
  exact ⟨rfl, rfl⟩
/-- May n be put as many bits? -/
def fits (n : Nat) (many : Int) : Prop := 0 ≤ many ∧ many ≤ 57 ∧ n < 2 ^ many.toNat
instance (n : Nat) (many : Int) : Decidable (fits n many) := inferInstanceAs (Decidable (_ ∧ _))
theorem fits_nat {n : Nat} {many : Int} (h : fits n many) : ∃ k : Nat, many = (k : Int) ∧ k ≤ 57 ∧ n < 2 ^ k := by
  obtain ⟨h1, h2, h3⟩ := h
  exact ⟨many.toNat, by omega, by omega, h3⟩
theorem div_bne {n k : Nat} (h : n < 2 ^ k) : ((n : Int) / 2 ^ k != 0) = false := by
  have e : (n : Int) / 2 ^ k = ((n / 2 ^ k : Nat) : Int) := by norm_cast
  rw [e, Nat.div_eq_of_lt h]; rfl
theorem div_bne' {n k : Nat} (h : ¬ n < 2 ^ k) : ((n : Int) / 2 ^ k != 0) = true := by
  have e : (n : Int) / 2 ^ k = ((n / 2 ^ k : Nat) : Int) := by norm_cast
  rw [e, bne_iff_ne]
  have := Nat.div_pos (Nat.le_of_not_lt h) (Nat.two_pow_pos k)
  omega
set_option maxHeartbeats 400000 in
theorem wrefusal_ok (w : World) (g n k : Nat) (c0 : w.cell? ⟨g, 0, none⟩ = some (.bool true)) (hk : k ≤ 57) (hb : n < 2 ^ k) :
    Calls Try.prog 40 #[.pointer (some ⟨g, 0, none⟩), .int .u64 (n : Int), .int .i64 (k : Int)] w fun e w' => e = .returned (.int .i64 0) ∧ w = w' := by
  have HU := Lib.hid (wusable_cell w g true c0)
  have h1 : (0 : Int) ≤ (k : Int) := by omega
  have h2 : (k : Int) ≤ 57 := by omega
  have hd := div_bne hb
  clear hk c0 hb
  go_enter Try.func40, Try.ntmps40
  go_wp2_with fail
  refine HU.out.mono ?_
  rintro e w' ⟨rfl, rfl⟩
  go_wp2_with fail
  go_ret
  exact ⟨rfl, rfl⟩
set_option maxHeartbeats 400000 in
theorem wrefusal_in (w : World) (g n k : Nat) (c0 : w.cell? ⟨g, 0, none⟩ = some (.bool true)) (hk : k ≤ 57) (hb : ¬ n < 2 ^ k) :
    Calls Try.prog 40 #[.pointer (some ⟨g, 0, none⟩), .int .u64 (n : Int), .int .i64 (k : Int)] w fun e w' => e = .returned (.int .i64 1) ∧ w = w' := by
  have HU := Lib.hid (wusable_cell w g true c0)
  have h1 : (0 : Int) ≤ (k : Int) := by omega
  have h2 : (k : Int) ≤ 57 := by omega
  have hd := div_bne' hb
  clear hk c0 hb
  go_enter Try.func40, Try.ntmps40
  go_wp2_with fail
  refine HU.out.mono ?_
  rintro e w' ⟨rfl, rfl⟩
  go_wp2_with fail
  go_ret
  exact ⟨rfl, rfl⟩
set_option maxHeartbeats 400000 in
theorem wrefusal_lo (w : World) (g n : Nat) (m : Int) (c0 : w.cell? ⟨g, 0, none⟩ = some (.bool true)) (hm : m < 0) :
    Calls Try.prog 40 #[.pointer (some ⟨g, 0, none⟩), .int .u64 (n : Int), .int .i64 m] w fun e w' => e = .returned (.int .i64 1) ∧ w = w' := by
  have HU := Lib.hid (wusable_cell w g true c0)
  have hd : decide (m < 0) = true := by simpa using hm
  clear c0
  go_enter Try.func40, Try.ntmps40
  go_wp2_with fail
  refine HU.out.mono ?_
  rintro e w' ⟨rfl, rfl⟩
  go_wp2_with fail
  go_ret
  exact ⟨rfl, rfl⟩
set_option maxHeartbeats 400000 in
theorem wrefusal_hi (w : World) (g n : Nat) (m : Int) (c0 : w.cell? ⟨g, 0, none⟩ = some (.bool true)) (hm : 57 < m) :
    Calls Try.prog 40 #[.pointer (some ⟨g, 0, none⟩), .int .u64 (n : Int), .int .i64 m] w fun e w' => e = .returned (.int .i64 1) ∧ w = w' := by
  have HU := Lib.hid (wusable_cell w g true c0)
  have h0 : 0 ≤ m := by omega
  clear c0
  go_enter Try.func40, Try.ntmps40
  go_wp2_with fail
  refine HU.out.mono ?_
  rintro e w' ⟨rfl, rfl⟩
  go_wp2_with fail
  go_ret
  exact ⟨rfl, rfl⟩
theorem wrefusal_bad (w : World) (g n : Nat) (m : Int) (c0 : w.cell? ⟨g, 0, none⟩ = some (.bool true)) (hb : ¬ fits n m) :
    Calls Try.prog 40 #[.pointer (some ⟨g, 0, none⟩), .int .u64 (n : Int), .int .i64 m] w fun e w' => e = .returned (.int .i64 1) ∧ w = w' := by
  by_cases h1 : m < 0
  · exact wrefusal_lo w g n m c0 h1
  by_cases h2 : 57 < m
  · exact wrefusal_hi w g n m c0 h2
  obtain ⟨k, rfl⟩ := Int.eq_ofNat_of_zero_le (show 0 ≤ m by omega)
  exact wrefusal_in w g n k c0 (by omega) (fun h => hb ⟨by omega, by omega, by simpa using h⟩)
set_option maxHeartbeats 400000 in
/-- A writer that is none: nil, or not made. -/
theorem wrefusal_dead (w : World) (p : Value) (n : Nat) (m : Int) (HU : Calls Try.prog 44 #[p] w fun e w' => e = .returned (.bool false) ∧ w = w') :
    Calls Try.prog 40 #[p, .int .u64 (n : Int), .int .i64 m] w fun e w' => e = .returned (.int .i64 2) ∧ w = w' := by
  have HU := Lib.hid HU
  go_enter Try.func40, Try.ntmps40
  go_wp2_with fail
  refine HU.out.mono ?_
  rintro e w' ⟨rfl, rfl⟩
  go_wp2_with fail
  go_ret
  exact ⟨rfl, rfl⟩
/-- The bit that is handed on. -/
theorem bit_byte (n k : Nat) (hn : n < 18446744073709551616) : bits .and .u64 ((n : Int) / 2 ^ k) 1 % 256 = (((n.testBit k).toNat : Nat) : Int) := by
  have e : (n : Int) / 2 ^ k = ((n / 2 ^ k : Nat) : Int) := by norm_cast
  rw [e, bit_u64 n k hn]
  cases n.testBit k <;> rfl
set_option maxRecDepth 100000 in
set_option maxHeartbeats 400000 in
theorem spread_walk (w : World) (F : Nat → Prop) (g : Nat) (L : List Bool) (n K : Nat) (h : Has w F (.wr g L)) (hlen : L.length + K ≤ 1099511627776) (hn : n < 18446744073709551616) (hK : K ≤ 57) :
    Calls Try.prog 41 #[.int .u64 (n : Int), .int .i64 (K : Int), .func (.func 42) #[.pointer (some ⟨g, 0, none⟩)] #[]] w (Turned (.tuple #[]) F (.wr g (L ++ bitsN n K)) w) := by
  have HH := Lib.hid h
  have HN := Lib.hid hn
  clear h hn
  go_enter Try.func41, Try.ntmps41
  go_wp2_with fail
  go_loopw [6, 8] (fun _ v wr => ∃ k : Nat, k ≤ K ∧ v = .int .i64 k ∧ Turn F (.wr g (L ++ bitsN n k)) w wr) (fun _ v _ => K - (intOf v).toNat)
  case atStart => exact ⟨0, Nat.zero_le _, rfl, by simpa [bitsN] using Turn.refl HH.out⟩
  case round =>
    obtain ⟨k, hk, rfl, hT⟩ := hrel
    by_cases hlt : k < K
    · have hki : (k : Int) < (K : Int) := by omega
      have HT := Lib.hid hT
      have HB := Lib.hid (bit_byte n k HN.out)
      clear hT
      go_wp2_with fail
      rw [HB.out]
      refine (lay_walk wr _ g _ (n.testBit k) HT.out.has (by rw [List.length_append, bitsN_length]; omega)).mono ?_
      rintro e w1 ⟨rfl, hT1⟩
      have HT1 : Hid (Turn F (.wr g (L ++ bitsN n (k + 1))) w w1) := Lib.hid (by
        rw [bitsN_succ, ← List.append_assoc]; exact HT.out.trans hT1)
      clear hT1 HT HB
      go_wp2_with fail
      exact ⟨⟨k + 1, by omega, by go_num, HT1.out⟩, by simp [intOf]; omega⟩
    · have hki : (K : Int) ≤ (k : Int) := by omega
      obtain rfl : k = K := by omega
      have HT := Lib.hid hT
      clear hT
      go_wp2_with fail
      go_end0
      exact ⟨rfl, HT.out⟩
set_option maxHeartbeats 400000 in
theorem put_ok (w : World) (F : Nat → Prop) (g : Nat) (L : List Bool) (n K : Nat) (h : Has w F (.wr g L)) (hlen : L.length + K ≤ 1099511627776) (hn : n < 18446744073709551616) (hK : K ≤ 57) (hf : n < 2 ^ K) :
    Calls Try.prog 10 #[.pointer (some ⟨g, 0, none⟩), .int .u64 (n : Int), .int .i64 (K : Int)] w (Turned (.int .i64 0) F (.wr g (L ++ bitsN n K)) w) := by
  have HR := Lib.hid (wrefusal_ok w g n K h.w0 hK hf)
  have HS := Lib.hid (spread_walk w F g L n K h hlen hn hK)
  clear hlen hn hK hf h
  go_enter Try.func10, Try.ntmps10
  go_wp2_with fail
  refine HR.out.mono ?_
  rintro e w' ⟨rfl, rfl⟩
  go_wp2_with fail
  refine HS.out.mono ?_
  rintro e w' ⟨rfl, hT⟩
  have HT := Lib.hid hT
  clear hT
  go_wp2_with fail
  go_ret
  exact ⟨rfl, HT.out⟩
set_option maxHeartbeats 400000 in
theorem put_no (w : World) (p : Value) (n : Nat) (m c : Int) (hc : (c != 0) = true) (HR : Calls Try.prog 40 #[p, .int .u64 (n : Int), .int .i64 m] w fun e w' => e = .returned (.int .i64 c) ∧ w = w') :
    Calls Try.prog 10 #[p, .int .u64 (n : Int), .int .i64 m] w fun e w' => e = .returned (.int .i64 c) ∧ w = w' := by
  have HR := Lib.hid HR
  go_enter Try.func10, Try.ntmps10
  go_wp2_with fail
  refine HR.out.mono ?_
  rintro e w' ⟨rfl, rfl⟩
  go_wp2_with fail
  go_ret
  exact ⟨rfl, rfl⟩
set_option maxHeartbeats 400000 in
theorem code_ok (w : World) (F : Nat → Prop) (g : Nat) (L : List Bool) (n K : Nat) (h : Has w F (.wr g L)) (hlen : L.length + K ≤ 1099511627776) (hn : n < 18446744073709551616) (hK : K ≤ 57) (hf : n < 2 ^ K) :
    Calls Try.prog 12 #[.pointer (some ⟨g, 0, none⟩), .int .u64 (n : Int), .int .i64 (K : Int)] w (Turned (.int .i64 0) F (.wr g (L ++ (bitsN n K).reverse)) w) := by
  have HR := Lib.hid (wrefusal_ok w g n K h.w0 hK hf)
  have HV := reverse_walk n (K : Int) w hn
  rw [brt_nat K 64 (by omega)] at HV
  have HV := Lib.hid HV
  have hrl := rev_lt n K
  have h57 : 2 ^ K ≤ 2 ^ 57 := Nat.pow_le_pow_right (by decide) hK
  have HP := put_ok w F g L (rev n K) K h hlen (Nat.lt_of_lt_of_le hrl (Nat.le_trans h57 (by decide))) hK hrl
  rw [bitsN_rev] at HP
  have HP := Lib.hid HP
  clear hlen hn hK hf h hrl h57
  go_enter Try.func12, Try.ntmps12
  go_wp2_with fail
  refine HR.out.mono ?_
  rintro e w' ⟨rfl, rfl⟩
  go_wp2_with fail
  refine HV.out.mono ?_
  rintro e w' ⟨rfl, rfl⟩
  go_wp2_with fail
  refine HP.out.mono ?_
  rintro e w' ⟨rfl, hT⟩
  have HT := Lib.hid hT
  clear hT
  go_wp2_with fail
  go_ret
  exact ⟨rfl, HT.out⟩
set_option maxHeartbeats 400000 in
theorem code_no (w : World) (p : Value) (n : Nat) (m c : Int) (hc : (c != 0) = true) (HR : Calls Try.prog 40 #[p, .int .u64 (n : Int), .int .i64 m] w fun e w' => e = .returned (.int .i64 c) ∧ w = w') :
    Calls Try.prog 12 #[p, .int .u64 (n : Int), .int .i64 m] w fun e w' => e = .returned (.int .i64 c) ∧ w = w' := by
  have HR := Lib.hid HR
  go_enter Try.func12, Try.ntmps12
  go_wp2_with fail
  refine HR.out.mono ?_
  rintro e w' ⟨rfl, rfl⟩
  go_wp2_with fail
  go_ret
  exact ⟨rfl, rfl⟩
theorem Has.align {w : World} {F : Nat → Prop} {g : Nat} {L : List Bool} (h : Has w F (.wr g L)) : Turn F (.wr g (fill L)) w (w.setCell ⟨g, 2, none⟩ (.int .i64 ((fill L).length : Int))) := by
  obtain ⟨rv, h1, h2, h3, h4⟩ := h
  have hne := h2.apart h1 (by decide)
  refine ⟨OnlyS.setCell _ _ _ _ h3, rv, (heap_setCell_same _ _ _ _ _ _ h1).trans rfl, ?_, .inl h3, fun k hk => .inl (h4 k hk)⟩
  rw [pack_fill]
  exact h2.stays fun k hk => heap_setCell_other _ _ _ _ (fun e => hne (by rw [hk, e]))
set_option maxHeartbeats 400000 in
theorem walign_walk (w : World) (F : Nat → Prop) (g : Nat) (L : List Bool) (h : Has w F (.wr g L)) (hlen : L.length ≤ 1099511627776) :
    Calls Try.prog 14 #[.pointer (some ⟨g, 0, none⟩)] w (Turned (.int .i64 0) F (.wr g (fill L)) w) := by
  have HU := Lib.hid (wusable_cell w g true h.w0)
  have HQ := Lib.hid h.align
  have c2 := h.w2
  obtain ⟨rv, h1, h2, h3, h4⟩ := h
  obtain ⟨p, cap, rfl⟩ := h2.toW.shape
  have c1 : w.cell? ⟨g, 1, none⟩ = some (.slice p (pack L).length cap) := cell_of_row _ _ _ _ _ _ h1
  have f2 : w.frozen? ⟨g, 2, none⟩ = false := frozen_of_row _ _ _ _ _ h1
  have hn : (pack L).length ≤ 1099511627776 := by rw [pack_length]; omega
  have HE : Hid (((pack L).length : Int) * 8 = ((fill L).length : Int)) := Lib.hid (by rw [pack_length, fill_length]; omega)
  clear h1 h2 h3 h4 hlen
  generalize (pack L).length = l at *
  go_enter Try.func14, Try.ntmps14
  go_wp2_with fail
  refine HU.out.mono ?_
  rintro e w' ⟨rfl, rfl⟩
  go_wp2_with fail
  rw [HE.out]
  go_ret
  exact ⟨rfl, HQ.out⟩
set_option maxHeartbeats 400000 in
theorem wlen_walk (w : World) (F : Nat → Prop) (g : Nat) (L : List Bool) (h : Has w F (.wr g L)) :
    Calls Try.prog 20 #[.pointer (some ⟨g, 0, none⟩)] w fun e w' => e = .returned (.int .i64 (L.length : Int)) ∧ w = w' := by
  have HU := Lib.hid (wusable_cell w g true h.w0)
  have c2 := h.w2
  clear h
  go_enter Try.func20, Try.ntmps20
  go_wp2_with fail
  refine HU.out.mono ?_
  rintro e w' ⟨rfl, rfl⟩
  go_wp2_with fail
  go_ret
  exact ⟨rfl, rfl⟩
set_option maxHeartbeats 400000 in
theorem done_walk (w : World) (F : Nat → Prop) (g : Nat) (L : List Bool) (h : Has w F (.wr g L)) (hlen : L.length ≤ 1099511627776) :
    Calls Try.prog 19 #[.pointer (some ⟨g, 0, none⟩)] w (ClonePost (pack L) w) := by
  have HU := Lib.hid (wusable_cell w g true h.w0)
  obtain ⟨rv, h1, h2, h3, h4⟩ := h
  have c1 : w.cell? ⟨g, 1, none⟩ = some rv := cell_of_row _ _ _ _ _ _ h1
  have HC := Lib.hid (clone_walk w rv (pack L) h2.toW (by rw [pack_length]; omega))
  clear h1 h2 h3 h4 hlen
  go_enter Try.func19, Try.ntmps19
  go_wp2_with fail
  refine HU.out.mono ?_
  rintro e w' ⟨rfl, rfl⟩
  go_wp2_with fail
  refine HC.out.mono ?_
  rintro e w1 ⟨v', rfl, ho, hb⟩
  have HO := Lib.hid ho
  have HB := Lib.hid hb
  clear ho hb
  go_wp2_with fail
  go_ret
  exact ⟨v', rfl, HO.out, HB.out⟩
theorem Has.bytes {w w1 : World} {F : Nat → Prop} {g : Nat} {L : List Bool} {rv v' : Value} {bs : List UInt8} (h : Has w F (.wr g L)) (hc : w.cell? ⟨g, 1, none⟩ = some rv) (h8 : L.length % 8 = 0) (hown : OwnB 0 w1 v' (pack L ++ bs)) (hg : w.grownBy w1 rv.ownBlock)
    (hat : v'.ownBlock = rv.ownBlock ∨ v'.ownBlock = some w.heap.size) :
    w1.cell? ⟨g, 1, none⟩ = some rv ∧ w1.frozen? ⟨g, 1, none⟩ = false ∧ (w1.setCell ⟨g, 1, none⟩ v').cell? ⟨g, 2, none⟩ = some (.int .i64 (L.length : Int)) ∧ (w1.setCell ⟨g, 1, none⟩ v').frozen? ⟨g, 2, none⟩ = false ∧
    Turn F (.wr g (L ++ bitsOf bs)) w ((w1.setCell ⟨g, 1, none⟩ v').setCell ⟨g, 2, none⟩ (.int .i64 ((L.length + bs.length * 8 : Nat) : Int))) := by
  obtain ⟨rv', h1, h2, h3, h4⟩ := h
  obtain rfl : rv' = rv := by
    have := (cell_of_row w g 1 _ 67 (0, 0) h1).symm.trans hc
    simpa [wcs] using this
  have hne := h2.apart h1 (by decide)
  have hlt : g < w.heap.size := (Array.getElem?_eq_some_iff.1 h1).1
  have hgw : w1.heap[g]? = some (.cells (wcs rv' L.length) 67 (0, 0)) := (hg.block g hlt (fun e => hne e.symm)).trans h1
  have hne' := hown.apart hgw (by decide)
  have hg2 : (w1.setCell ⟨g, 1, none⟩ v').heap[g]? = some (.cells (wcs v' L.length) 67 (0, 0)) := (heap_setCell_same _ _ _ _ _ _ hgw).trans rfl
  have ho2 : OwnB 0 (w1.setCell ⟨g, 1, none⟩ v') v' (pack L ++ bs) := hown.stays fun k hk => heap_setCell_other _ _ _ _ (fun e => hne' (by rw [hk, e]))
  have hl1 := hown.lt
  refine ⟨cell_of_row _ _ _ _ _ _ hgw, frozen_of_row _ _ _ _ _ hgw, cell_of_row _ _ _ _ _ _ hg2, frozen_of_row _ _ _ _ _ hg2,
    ((OnlyS.grown hg h4).trans (OnlyS.setCell _ _ _ _ h3)).trans (OnlyS.setCell _ _ _ _ h3), v', (heap_setCell_same _ _ _ _ _ _ hg2).trans ?_, ?_, .inl h3, fun k hk => ?_⟩
  · rw [List.length_append, bitsOf_length, Nat.mul_comm 8]; rfl
  · rw [pack_append_bytes L bs h8]
    exact ho2.stays fun k hk => heap_setCell_other _ _ _ _ (fun e => hne' (by rw [hk, e]))
  · have hl := hl1 k hk
    rcases hat with hat | hat
    · exact .inl (h4 k (hat.symm.trans hk))
    · refine .inr ⟨by rw [hat] at hk; cases hk; exact Nat.le_refl _, ?_⟩
      simp [World.setCell]; exact hl.2
set_option maxRecDepth 100000 in
set_option maxHeartbeats 800000 in
theorem wbytes_walk (w : World) (F : Nat → Prop) (g : Nat) (L : List Bool) (v : Value) (bs : List UInt8) (h : Has w F (.wr g L)) (hs : SlW w v bs) (hlen : L.length + bs.length ≤ 109951162777) (h8 : L.length % 8 = 0) :
    Calls Try.prog 17 #[.pointer (some ⟨g, 0, none⟩), v] w (Turned (.int .i64 0) F (.wr g (L ++ bitsOf bs)) w) := by
  have HU := Lib.hid (wusable_cell w g true h.w0)
  have HH := Lib.hid h
  have c2 := h.w2
  obtain ⟨rv, h1, h2, h3, h4⟩ := h
  have c1 : w.cell? ⟨g, 1, none⟩ = some rv := cell_of_row _ _ _ _ _ _ h1
  have HC := Lib.hid c1
  have HO := Lib.hid h2
  obtain ⟨p, cap, rfl⟩ := hs.shape
  have HS := Lib.hid hs
  have H8 := Lib.hid h8
  have hpi : (L.length : Int) % 8 = 0 := by omega
  have HP : Hid ((pack L).length + bs.length ≤ 1099511627776) := Lib.hid (by rw [pack_length]; omega)
  clear h1 h2 h3 h4 hs h8
  have HE : Hid ((L.length : Int) + (bs.length : Int) * 8 = ((L.length + bs.length * 8 : Nat) : Int)) := Lib.hid (by omega)
  go_enter Try.func17, Try.ntmps17
  go_wp2_with fail
  refine HU.out.mono ?_
  rintro e w' ⟨rfl, rfl⟩
  go_wp2_with (refine wpList_appB rfl (.tmp 18) (.tmp 19) rfl 0 rv (.slice p bs.length cap) (pack L) bs rfl rfl HO.out HS.out (Nat.zero_le _) HP.out ?_; intro v' w1 hown hgrow hat; obtain ⟨p', c', rfl⟩ := hown.toW.shape; generalize (pack L ++ bs).length = nl at *; obtain ⟨e1, f1, e2, f2, hT⟩ := HH.out.bytes HC.out H8.out hown hgrow hat; have HT := Lib.hid hT; clear hT hown hgrow hat c1 c2 hpi)
  rw [HE.out]
  go_ret
  exact ⟨rfl, HT.out⟩
set_option maxHeartbeats 400000 in
theorem wbytes_arg (w : World) (F : Nat → Prop) (g : Nat) (L : List Bool) (v : Value) (h : Has w F (.wr g L)) (h8 : L.length % 8 ≠ 0) :
    Calls Try.prog 17 #[.pointer (some ⟨g, 0, none⟩), v] w fun e w' => e = .returned (.int .i64 1) ∧ w = w' := by
  have HU := Lib.hid (wusable_cell w g true h.w0)
  have c2 := h.w2
  have hpi : (((L.length : Int) % 8) != 0) = true := by rw [bne_iff_ne]; omega
  clear h h8
  go_enter Try.func17, Try.ntmps17
  go_wp2_with fail
  refine HU.out.mono ?_
  rintro e w' ⟨rfl, rfl⟩
  go_wp2_with fail
  go_ret
  exact ⟨rfl, rfl⟩
theorem made_wr (w : World) : Has (w.alloc (.cells #[.bool true, .slice none 0 0, .int .i64 0] 67)) (fun k => k = w.heap.size) (.wr w.heap.size []) :=
  ⟨.slice none 0 0, (heap_alloc_new _ _).trans rfl, OwnB.nil _ _, rfl, fun k hk => by cases hk⟩
set_option maxHeartbeats 400000 in
theorem newwriter_walk (w : World) :
    Calls Try.prog 9 #[] w fun e w' => e = .returned (.pointer (some ⟨w.heap.size, 0, none⟩)) ∧ w' = w.alloc (.cells #[.bool true, .slice none 0 0, .int .i64 0] 67) := by
  go_enter Try.func9, Try.ntmps9
  go_wp2_with fail
  go_ret
  exact ⟨rfl, rfl⟩
end Go.Proofs.Ytggpdkcmihgdeaa
