/-
  Merged, in the order in which they build: Wtr2 Cod.
-/
import Derived.Test.YtphdcgioeokfbaaDoorMg5
import Derived.Test.YtphdcgioeokfbaaDoorMg41
import Derived.Test.YtphdcgioeokfbaaDoorMg42
/-
  bits.Writer: its calls.
-/
namespace Go.Proofs.YtphdcgioeokfbaaDoor
open Go.RowKit Hf
theorem Grew.of_le {w w' : World} {O O' : Nat → Prop} (h : Grew w' O O') (hs : w.heap.size ≤ w'.heap.size) : Grew w O O' := fun i hi => (h i hi).elim .inl (fun h => .inr (Nat.le_trans hs h))
set_option maxHeartbeats 400000 in
theorem wusable_walk (w : World) (g : Nat) (c0 : w.cell? ⟨g, 0, none⟩ = some (.bool true)) :
    Calls Tryd.prog 35 #[.pointer (some ⟨g, 0, none⟩)] w fun e w' => e = .returned (.bool true) ∧ w = w' := by
  go_enter Tryd.func35, Tryd.ntmps35
  go_wp2_with fail
  go_ret
  exact ⟨rfl, rfl⟩
theorem div_bne {n k : Nat} (h : n < 2 ^ k) : ((n : Int) / 2 ^ k != 0) = false := by
  have e : (n : Int) / 2 ^ k = ((n / 2 ^ k : Nat) : Int) := by norm_cast
  rw [e, Nat.div_eq_of_lt h]; rfl
set_option maxHeartbeats 400000 in
theorem wrefusal_walk (w : World) (g n k : Nat) (c0 : w.cell? ⟨g, 0, none⟩ = some (.bool true)) (hk : k ≤ 57) (hb : n < 2 ^ k) :
    Calls Tryd.prog 54 #[.pointer (some ⟨g, 0, none⟩), .int .u64 (n : Int), .int .i64 (k : Int)] w fun e w' => e = .returned (.int .i64 0) ∧ w = w' := by
  have HU := Lib.hid (wusable_walk w g c0)
  have h1 : (0 : Int) ≤ (k : Int) := by omega
  have h2 : (k : Int) ≤ 57 := by omega
  have hd := div_bne hb
  clear hk c0 hb
  go_enter Tryd.func54, Tryd.ntmps54
  go_wp2_with fail
  refine HU.out.mono ?_
  rintro e w' ⟨rfl, rfl⟩
  go_wp2_with fail
  go_ret
  exact ⟨rfl, rfl⟩
/-- The bit that is handed on. -/
theorem bit_u64 (n k : Nat) (hn : n < 18446744073709551616) : bits .and .u64 ((n / 2 ^ k : Nat) : Int) 1 = (((n.testBit k).toNat : Nat) : Int) := by
  have h : n / 2 ^ k < 18446744073709551616 := Nat.lt_of_le_of_lt (Nat.div_le_self _ _) hn
  rw [show (1 : Int) = ((1 : Nat) : Int) from rfl, u64_and_nat _ _ h (by decide), Nat.and_one_is_mod, Nat.testBit_eq_decide_div_mod_eq]
  have h2 : n / 2 ^ k % 2 < 2 := Nat.mod_lt _ (by decide)
  generalize n / 2 ^ k % 2 = m at h2
  rcases (by omega : m = 0 ∨ m = 1) with h | h <;> rw [h] <;> rfl
theorem bit_byte (n k : Nat) (hn : n < 18446744073709551616) : bits .and .u64 ((n : Int) / 2 ^ k) 1 % 256 = (((n.testBit k).toNat : Nat) : Int) := by
  have e : (n : Int) / 2 ^ k = ((n / 2 ^ k : Nat) : Int) := by norm_cast
  rw [e, bit_u64 n k hn]
  cases n.testBit k <;> rfl
set_option maxRecDepth 100000 in
set_option maxHeartbeats 400000 in
theorem spread_walk (w : World) (B g : Nat) (sv : Value) (L : List Bool) (n K : Nat) (h : WrAt w B g sv L) (hlen : L.length + K ≤ 1099511627776) (hn : n < 18446744073709551616) (hB : B ≤ w.heap.size) (hK : K ≤ 57) :
    Calls Tryd.prog 55 #[.int .u64 (n : Int), .int .i64 (K : Int), .func (.func 56) #[.pointer (some ⟨g, 0, none⟩)] #[]] w (WrtPost (.tuple #[]) B g (L ++ num n K) (wrX g sv) w) := by
  have H0 : Hid (∃ sv', WrAt w B g sv' (L ++ num n 0) ∧ OnlyS (wrX g sv) w w ∧ Grew w (wrX g sv) (wrX g sv')) := Lib.hid ⟨sv, by rw [num_zero, List.append_nil]; exact h, OnlyS.refl _ _, Grew.refl _ _⟩
  have HN := Lib.hid hn
  clear h hn
  go_enter Tryd.func55, Tryd.ntmps55
  go_wp2_with fail
  go_loopw [6, 8] (fun _ v wr => ∃ k : Nat, k ≤ K ∧ v = .int .i64 k ∧ ∃ sv', WrAt wr B g sv' (L ++ num n k) ∧ OnlyS (wrX g sv) w wr ∧ Grew w (wrX g sv) (wrX g sv')) (fun _ v _ => K - (intOf v).toNat)
  case atStart => exact ⟨0, Nat.zero_le _, rfl, H0.out⟩
  case round =>
    clear H0
    obtain ⟨k, hk, rfl, sv', h1, h2, h3⟩ := hrel
    have H2 := Lib.hid h2
    have H3 := Lib.hid h3
    by_cases hlt : k < K
    · have hki : (k : Int) < (K : Int) := by omega
      have HB := Lib.hid (bit_byte n k HN.out)
      have HC := Lib.hid (wlay_walk wr B g (n.testBit k) sv' _ h1 (by simp; omega) (Nat.le_trans hB h2.size))
      have HX : Hid (L ++ num n k ++ [n.testBit k] = L ++ num n (k + 1)) := Lib.hid (by rw [num_succ, List.append_assoc])
      clear h1 h2 h3
      go_wp2_with fail
      rw [HB.out]
      refine HC.out.mono ?_
      rintro e w1 ⟨rfl, ho, sv2, hp, hg⟩
      rw [HX.out] at hp
      have HP := Lib.hid hp
      have HO := Lib.hid (H2.out.trans' ho (fun i hi => H3.out i hi))
      have HG := Lib.hid (H3.out.trans hg H2.out.size)
      clear ho hp hg
      go_wp2_with fail
      exact ⟨⟨k + 1, by omega, by go_num, sv2, HP.out, HO.out, HG.out⟩, by simp [intOf]; omega⟩
    · have hki : (K : Int) ≤ (k : Int) := by omega
      obtain rfl : k = K := by omega
      clear h2 h3
      go_wp2_with fail
      go_end0
      exact ⟨rfl, H2.out, sv', h1, H3.out⟩
set_option maxHeartbeats 400000 in
theorem wput_walk (w : World) (B g : Nat) (sv : Value) (L : List Bool) (n K : Nat) (h : WrAt w B g sv L) (hlen : L.length + K ≤ 1099511627776) (hB : B ≤ w.heap.size) (hK : K ≤ 57) (hf : n < 2 ^ K) :
    Calls Tryd.prog 33 #[.pointer (some ⟨g, 0, none⟩), .int .u64 (n : Int), .int .i64 (K : Int)] w (WrtPost (.int .i64 0) B g (L ++ num n K) (wrX g sv) w) := by
  have h57 : 2 ^ K ≤ 2 ^ 57 := Nat.pow_le_pow_right (by decide) hK
  have HR := Lib.hid (wrefusal_walk w g n K h.c0 hK hf)
  have HS := Lib.hid (spread_walk w B g sv L n K h hlen (Nat.lt_of_lt_of_le hf (Nat.le_trans h57 (by decide))) hB hK)
  clear hlen hK hf h h57
  go_enter Tryd.func33, Tryd.ntmps33
  go_wp2_with fail
  refine HR.out.mono ?_
  rintro e w' ⟨rfl, rfl⟩
  go_wp2_with fail
  refine HS.out.mono ?_
  rintro e w' ⟨rfl, hT⟩
  have HT := Lib.hid hT
  clear hT
  go_wp2_with fail
  go_ret
  exact ⟨rfl, HT.out⟩
theorem num_trn (c n : Nat) : num (trn c n) n = bitsN c n := by
  unfold num bitsN
  refine List.map_congr_left (fun k _ => ?_)
  rw [Nat.testBit_eq_decide_div_mod_eq]
theorem trn_go64 (c k : Nat) (hc : c < 18446744073709551616) (hk : k < 63) : bits .or .u64 (IntKind.u64.wrap ((trn c k : Nat) * (2 : Int))) (bits .and .u64 ((c / 2 ^ k : Nat) : Int) 1) = ((trn c (k + 1) : Nat) : Int) := by
  have h1 := trn_lt c k
  have h2 : 2 ^ k ≤ 2 ^ 62 := Nat.pow_le_pow_right (by decide) (by omega)
  have h3 : trn c k * 2 < 18446744073709551616 := by
    have : (2 : Nat) ^ 62 = 4611686018427387904 := by decide
    omega
  have e : IntKind.u64.wrap ((trn c k : Nat) * (2 : Int)) = ((trn c k * 2 : Nat) : Int) := by
    rw [IntKind.wrap_u64]; omega
  have h : c / 2 ^ k < 18446744073709551616 := Nat.lt_of_le_of_lt (Nat.div_le_self _ _) hc
  rw [e, show (1 : Int) = ((1 : Nat) : Int) from rfl, u64_and_nat _ _ h (by decide), Nat.and_one_is_mod]
  have h4 : c / 2 ^ k % 2 < 2 := Nat.mod_lt _ (by decide)
  rw [u64_or_nat _ _ h3 (by omega)]
  congr 1
  rw [trn]
  generalize trn c k = t at *
  generalize c / 2 ^ k % 2 = m at *
  have h5 := Nat.two_pow_add_eq_or_of_lt (i := 1) (b := m) (by simpa using h4) t
  simp only [Nat.pow_one] at h5
  rw [Nat.mul_comm t 2]
  omega
theorem div_two (n k : Nat) : ((n / 2 ^ k : Nat) : Int) / 2 = ((n / 2 ^ (k + 1) : Nat) : Int) := by
  rw [Nat.pow_succ, ← Nat.div_div_eq_div_mul]; omega
set_option maxHeartbeats 400000 in
theorem brought_walk (m most : Nat) (w : World) (h : m ≤ most) :
    Calls Tryd.prog 89 #[.int .i64 (m : Int), .int .i64 (most : Int)] w fun e w' => e = .returned (.int .i64 (m : Int)) ∧ w = w' := by
  have HE : Hid (min (m : Int) (most : Int) = (m : Int)) := Lib.hid (by omega)
  clear h
  go_enter Tryd.func89, Tryd.ntmps89
  go_wp2_with fail
  go_ret
  exact ⟨ret_int HE.out, rfl⟩
set_option maxRecDepth 100000 in
set_option maxHeartbeats 400000 in
theorem reverse_walk (n K : Nat) (w : World) (hn : n < 18446744073709551616) (hK : K ≤ 57) :
    Calls Tryd.prog 85 #[.int .u64 (n : Int), .int .i64 (K : Int)] w fun e w' => e = .returned (.int .u64 ((trn n K : Nat) : Int)) ∧ w = w' := by
  have HN := Lib.hid hn
  have HB := Lib.hid (brought_walk K 64 w (by omega))
  clear hn
  go_enter Tryd.func85, Tryd.ntmps85
  go_wp2_with fail
  refine HB.out.mono ?_
  rintro e w' ⟨rfl, rfl⟩
  clear HB
  go_wp2_with fail
  go_loop [0, 5, 8] (fun vn vt vk => ∃ k : Nat, k ≤ K ∧ vk = .int .i64 k ∧ vn = .int .u64 ((n / 2 ^ k : Nat) : Int) ∧ vt = .int .u64 (trn n k : Nat)) (fun _ _ vk => K - (intOf vk).toNat)
  case atStart => exact ⟨0, Nat.zero_le _, rfl, by simp, rfl⟩
  case round =>
    obtain ⟨k, hk, rfl, rfl, rfl⟩ := hrel
    by_cases hlt : k < K
    · have hki : (k : Int) < (K : Int) := by omega
      have HR := Lib.hid (trn_go64 n k HN.out (by omega))
      have HD := Lib.hid (div_two n k)
      generalize n / 2 ^ k = x at *
      generalize trn n k = r at *
      go_wp2_with fail
      exact ⟨⟨k + 1, by omega, by go_num, by rw [HD.out], by rw [HR.out]⟩, by simp [intOf]; omega⟩
    · have hki : (K : Int) ≤ (k : Int) := by omega
      obtain rfl : k = K := by omega
      generalize n / 2 ^ k = x at *
      go_wp2_with fail
      go_ret
      exact ⟨rfl, rfl⟩
set_option maxHeartbeats 400000 in
theorem wcode_walk (w : World) (B g : Nat) (sv : Value) (L : List Bool) (n K : Nat) (h : WrAt w B g sv L) (hlen : L.length + K ≤ 1099511627776) (hB : B ≤ w.heap.size) (hK : K ≤ 57) (hf : n < 2 ^ K) :
    Calls Tryd.prog 72 #[.pointer (some ⟨g, 0, none⟩), .int .u64 (n : Int), .int .i64 (K : Int)] w (WrtPost (.int .i64 0) B g (L ++ bitsN n K) (wrX g sv) w) := by
  have h57 : 2 ^ K ≤ 2 ^ 57 := Nat.pow_le_pow_right (by decide) hK
  have HR := Lib.hid (wrefusal_walk w g n K h.c0 hK hf)
  have HV := Lib.hid (reverse_walk n K w (Nat.lt_of_lt_of_le hf (Nat.le_trans h57 (by decide))) hK)
  have HP := wput_walk w B g sv L (trn n K) K h hlen hB hK (trn_lt n K)
  rw [num_trn] at HP
  have HP := Lib.hid HP
  clear hlen hK hf h h57
  go_enter Tryd.func72, Tryd.ntmps72
  go_wp2_with fail
  refine HR.out.mono ?_
  rintro e w' ⟨rfl, rfl⟩
  go_wp2_with fail
  refine HV.out.mono ?_
  rintro e w' ⟨rfl, rfl⟩
  go_wp2_with fail
  refine HP.out.mono ?_
  rintro e w' ⟨rfl, hT⟩
  have HT := Lib.hid hT
  clear hT
  go_wp2_with fail
  go_ret
  exact ⟨rfl, HT.out⟩
theorem pack_pad (L : List Bool) (k : Nat) (h : (L.length + k + 7) / 8 = (L.length + 7) / 8) : pack (L ++ List.replicate k false) = pack L := by
  unfold pack
  rw [List.length_append, List.length_replicate, h, byts_pad]
theorem WrAt.align {w : World} {B g : Nat} {sv : Value} {L : List Bool} (h : WrAt w B g sv L) (k : Nat) (hk : L.length + k = (L.length + 7) / 8 * 8) : WrAt (w.setCell ⟨g, 2, none⟩ (.int .i64 (((L.length + 7) / 8 * 8 : Nat) : Int))) B g sv (L ++ List.replicate k false) := by
  have h78 : (L.length + k + 7) / 8 = (L.length + 7) / 8 := by omega
  have hl : (L ++ List.replicate k false).length = L.length + k := by simp
  refine ⟨(heap_setCell_same _ _ _ _ _ _ h.row).trans ?_, ?_, h.ne, h.ge⟩
  · rw [hl, hk]; rfl
  · rw [hl, h78, pack_pad L k h78]
    exact own_stays h.own (fun j hj => heap_setCell_other _ _ _ _ (h.ne j hj))
set_option maxHeartbeats 400000 in
theorem walign_walk (w : World) (B g : Nat) (sv : Value) (L : List Bool) (k : Nat) (h : WrAt w B g sv L) (hk : L.length + k = (L.length + 7) / 8 * 8) (hlen : L.length ≤ 1099511627776) :
    Calls Tryd.prog 42 #[.pointer (some ⟨g, 0, none⟩)] w (WrtPost (.int .i64 0) B g (L ++ List.replicate k false) (wrX g sv) w) := by
  have HU := Lib.hid (wusable_walk w g h.c0)
  have HQ := Lib.hid (h.align k hk)
  have c1 := h.c1
  have c2 := h.c2
  have f2 := h.free 2
  obtain ⟨p, cap, hs⟩ := (own_toV h.own).shape
  rw [bl_length, pack_length] at hs
  subst hs
  obtain ⟨m, hm⟩ : ∃ m, m = (L.length + 7) / 8 := ⟨_, rfl⟩
  have hml : m ≤ 1099511627776 := by omega
  rw [← hm] at c1 HQ ⊢
  have HE : Hid ((m : Int) * 8 = ((m * 8 : Nat) : Int)) := Lib.hid (by omega)
  clear h hm hlen
  go_enter Tryd.func42, Tryd.ntmps42
  go_wp2_with fail
  refine HU.out.mono ?_
  rintro e w' ⟨rfl, rfl⟩
  go_wp2_with fail
  rw [HE.out]
  go_ret
  exact ⟨rfl, OnlyS.setCell _ _ _ _ (.inl rfl), _, HQ.out, Grew.refl _ _⟩
set_option maxHeartbeats 400000 in
theorem wlen_walk (w : World) (B g : Nat) (sv : Value) (L : List Bool) (h : WrAt w B g sv L) :
    Calls Tryd.prog 32 #[.pointer (some ⟨g, 0, none⟩)] w fun e w' => e = .returned (.int .i64 (L.length : Int)) ∧ w = w' := by
  have HU := Lib.hid (wusable_walk w g h.c0)
  have c2 := h.c2
  clear h
  go_enter Tryd.func32, Tryd.ntmps32
  go_wp2_with fail
  refine HU.out.mono ?_
  rintro e w' ⟨rfl, rfl⟩
  go_wp2_with fail
  go_ret
  exact ⟨rfl, rfl⟩
set_option maxHeartbeats 400000 in
theorem wdone_walk (w : World) (B g : Nat) (sv : Value) (L : List Bool) (h : WrAt w B g sv L) (hlen : L.length ≤ 1099511627776) :
    Calls Tryd.prog 21 #[.pointer (some ⟨g, 0, none⟩)] w (ClonePost (pack L) w) := by
  have HU := Lib.hid (wusable_walk w g h.c0)
  have c1 := h.c1
  have HC := Lib.hid (clone_walk w sv (pack L) (own_toV h.own) (by rw [pack_length]; omega))
  clear h hlen
  go_enter Tryd.func21, Tryd.ntmps21
  go_wp2_with fail
  refine HU.out.mono ?_
  rintro e w' ⟨rfl, rfl⟩
  go_wp2_with fail
  refine HC.out.mono ?_
  rintro e w1 ⟨v', rfl, ho, hb⟩
  have HO := Lib.hid ho
  have HB := Lib.hid hb
  clear ho hb
  go_wp2_with fail
  go_ret
  exact ⟨v', rfl, HO.out, HB.out⟩
theorem byts_take : ∀ (n : Nat) (a b : List Bool), 8 * n ≤ a.length → Inf.byts n (a ++ b) = Inf.byts n a
  | 0, _, _, _ => rfl
  | n + 1, a, b, h => by
    rw [Inf.byts, Inf.byts, List.take_append_of_le_length (by omega), List.drop_append_of_le_length (by omega), byts_take n (a.drop 8) b (by rw [List.length_drop]; omega)]
theorem pack_bytes (L : List Bool) (bs : List UInt8) (h8 : L.length % 8 = 0) : pack (L ++ Inf.bits bs) = pack L ++ bs := by
  have hb : (Inf.bits bs).length = 8 * bs.length := bits_length bs
  unfold pack
  rw [List.length_append, hb, show (L.length + 8 * bs.length + 7) / 8 = L.length / 8 + bs.length by omega, show (L.length + 7) / 8 = L.length / 8 by omega, Inf.byts_add]
  congr 1
  · exact byts_take (L.length / 8) L (Inf.bits bs) (by omega)
  · rw [show 8 * (L.length / 8) = L.length by omega, List.drop_left]
    have := byts_all bs []
    rwa [List.append_nil] at this
theorem WrAt.bytes {w w1 : World} {B g : Nat} {L : List Bool} {sv v' : Value} {bs : List UInt8} (h : WrAt w B g sv L) (h8 : L.length % 8 = 0) (hown : w1.ownsRow B 5 1 v' (L.length / 8 + bs.length) (bl (pack L) ++ bl bs)) (hg : w.grownBy w1 sv.ownBlock) (hat : v'.ownBlock = sv.ownBlock ∨ v'.ownBlock = some w.heap.size) :
    (w1.cell? ⟨g, 1, none⟩ = some sv ∧ w1.frozen? ⟨g, 1, none⟩ = false ∧ (w1.setCell ⟨g, 1, none⟩ v').cell? ⟨g, 2, none⟩ = some (.int .i64 (L.length : Int)) ∧ (w1.setCell ⟨g, 1, none⟩ v').frozen? ⟨g, 2, none⟩ = false) ∧
    WrAt ((w1.setCell ⟨g, 1, none⟩ v').setCell ⟨g, 2, none⟩ (.int .i64 ((L.length + bs.length * 8 : Nat) : Int))) B g v' (L ++ Inf.bits bs) ∧ OnlyS (wrX g sv) w ((w1.setCell ⟨g, 1, none⟩ v').setCell ⟨g, 2, none⟩ (.int .i64 ((L.length + bs.length * 8 : Nat) : Int))) ∧ Grew w (wrX g sv) (wrX g v') := by
  have hb : (Inf.bits bs).length = 8 * bs.length := bits_length bs
  have hlt := h.lt
  have ho1 : OnlyS (fun i => sv.ownBlock = some i) w w1 := OnlyS.grown hg (fun k hk => hk)
  have hrow1 := (ho1.block g hlt (fun e => h.ne g e rfl)).trans h.row
  have hne : ∀ j, v'.ownBlock = some j → j ≠ g := fun j hj => by
    rcases hat with h1 | h1
    · exact h.ne j (by rw [← h1]; exact hj)
    · rw [h1] at hj; cases hj; omega
  have hrow2 : (w1.setCell ⟨g, 1, none⟩ v').heap[g]? = some (.cells #[.bool true, v', .int .i64 (L.length : Int)] 75 (0, 0)) := (heap_setCell_same _ _ _ _ _ _ hrow1).trans rfl
  refine ⟨⟨cell_of_row _ _ _ _ _ _ hrow1, frozen_of_row _ _ _ _ _ hrow1, cell_of_row _ _ _ _ _ _ hrow2, frozen_of_row _ _ _ _ _ hrow2⟩, ⟨(heap_setCell_same _ _ _ _ _ _ hrow2).trans ?_, ?_, hne, h.ge⟩, ?_, ?_⟩
  · rw [List.length_append, hb, Nat.mul_comm 8]; rfl
  · rw [List.length_append, hb, pack_bytes L bs h8, show (L.length + 8 * bs.length + 7) / 8 = L.length / 8 + bs.length by omega, bl_append]
    exact own_stays (own_stays hown (fun k hk => heap_setCell_other _ _ _ _ (hne k hk))) (fun k hk => heap_setCell_other _ _ _ _ (hne k hk))
  · have e1 : OnlyS (wrX g sv) w w1 := ho1.mono (fun _ _ h => .inr h)
    have e2 : OnlyS (wrX g sv) w1 (w1.setCell ⟨g, 1, none⟩ v') := OnlyS.setCell _ _ _ _ (.inl rfl)
    exact (e1.trans e2).trans (OnlyS.setCell _ _ _ _ (.inl rfl))
  · intro i hi
    rcases hi with hi | hi
    · exact .inl (.inl hi)
    · rcases hat with h1 | h1
      · exact .inl (.inr (by rw [← h1]; exact hi))
      · rw [h1] at hi; cases hi; exact .inr (Nat.le_refl _)
set_option maxRecDepth 100000 in
set_option maxHeartbeats 800000 in
theorem wbytes_walk (w : World) (B g : Nat) (sv : Value) (L : List Bool) (v : Value) (bs : List UInt8) (h : WrAt w B g sv L) (hs : SlV w v (bl bs)) (hlen : L.length + bs.length ≤ 109951162777) (h8 : L.length % 8 = 0) (hB : B ≤ w.heap.size) :
    Calls Tryd.prog 43 #[.pointer (some ⟨g, 0, none⟩), v] w (WrtPost (.int .i64 0) B g (L ++ Inf.bits bs) (wrX g sv) w) := by
  have HU := Lib.hid (wusable_walk w g h.c0)
  have HH := Lib.hid h
  have c1 := h.c1
  have c2 := h.c2
  obtain ⟨po, co, hsh⟩ := (own_toV h.own).shape
  rw [bl_length, pack_length, show (L.length + 7) / 8 = L.length / 8 by omega] at hsh
  obtain ⟨p, cap, hsv⟩ := hs.shape
  rw [bl_length] at hsv
  obtain ⟨nb, hnb⟩ : ∃ nb, nb = bs.length := ⟨_, rfl⟩
  rw [← hnb] at hsv hlen
  subst hsv
  have HNB := Lib.hid hnb
  have HA : Hid (w.ownsRow B 5 1 sv (L.length / 8) (bl (pack L))) := Lib.hid (by have := h.own; rwa [show (L.length + 7) / 8 = L.length / 8 by omega] at this)
  have HK : Hid (SlK 1 w (.slice p nb cap) nb (bl bs)) := Lib.hid (by have := hs.toK; rwa [bl_length, ← hnb] at this)
  have H8 := Lib.hid h8
  have HBS := Lib.hid hB
  obtain ⟨n, hn⟩ : ∃ n, n = L.length := ⟨_, rfl⟩
  rw [← hn] at c2 hlen
  have HN := Lib.hid hn
  have hpi : (n : Int) % 8 = 0 := by omega
  have HQL : Hid (L.length / 8 + nb ≤ 1099511627776) := Lib.hid (by omega)
  have HE : Hid ((n : Int) + (nb : Int) * 8 = ((L.length + bs.length * 8 : Nat) : Int)) := Lib.hid (by omega)
  obtain ⟨i0, hi, hz0, hz1, hz2⟩ := info_parts info5
  have HI0 := Lib.hid (And.intro hi (And.intro hz0 (And.intro hz1 hz2)))
  clear hi hz0 hz1 hz2 h hs h8 hB hn hnb
  subst hsh
  go_enter Tryd.func43, Tryd.ntmps43
  go_wp2_with fail
  refine HU.out.mono ?_
  rintro e w' ⟨rfl, rfl⟩
  go_wp2_with (refine wpList_appK 34 5 i0 (.int .u8 0) 1 1 Tryd.underlying34 HI0.out.1 HI0.out.2.1 HI0.out.2.2.1 HI0.out.2.2.2 rfl (by decide) (by decide) rfl (.tmp 18) (.tmp 19) rfl B (.slice po (L.length / 8) co) (.slice p nb cap) (L.length / 8) nb (bl (pack L)) (bl bs) rfl rfl (bl_one _) HA.out HK.out HBS.out HQL.out ?_; intro v' w1 hown hgrow hat; rw [HNB.out] at hown; have HW := Lib.hid (HH.out.bytes H8.out hown hgrow hat); obtain ⟨⟨e1, f1, e2, f2⟩, _⟩ := HW.out; rw [← HN.out] at e2; obtain ⟨p', c', hv'⟩ := (own_toV hown).shape; generalize (bl (pack L) ++ bl bs).length = nl at hv'; subst hv'; clear hown hgrow hat c1 c2 hpi)
  rw [HE.out]
  go_ret
  exact ⟨rfl, HW.out.2.2.1, _, HW.out.2.1, HW.out.2.2.2⟩
theorem made_wr (w : World) : WrAt (w.alloc (.cells #[.bool true, .slice none 0 0, .int .i64 0] 75)) w.heap.size w.heap.size (.slice none 0 0) [] :=
  ⟨(heap_alloc_new _ _).trans rfl, World.ownsRow_nil _ _ _ _, fun j hj => by simp [Value.ownBlock] at hj, Nat.le_refl _⟩
set_option maxHeartbeats 400000 in
theorem newwriter_walk (w : World) :
    Calls Tryd.prog 17 #[] w fun e w' => e = .returned (.pointer (some ⟨w.heap.size, 0, none⟩)) ∧ w' = w.alloc (.cells #[.bool true, .slice none 0 0, .int .i64 0] 75) := by
  go_enter Tryd.func17, Tryd.ntmps17
  go_wp2_with fail
  go_ret
  exact ⟨rfl, rfl⟩
end Go.Proofs.YtphdcgioeokfbaaDoor
/-
  coded: the codes by lengths; a code's write.
-/
namespace Go.Proofs.YtphdcgioeokfbaaDoor
open Go.RowKit Hf
theorem info117s : (Tryd.prog.info? 117).map (·.size) = some 2 := by kernel_rfl
set_option maxRecDepth 100000 in
set_option maxHeartbeats 1000000 in
theorem coded_walk (w : World) (v : Value) (zs : List Int) (hv : SlV w v (ni zs)) (hg : good zs) (hst : ¬ st zs = 1) :
    Calls Tryd.prog 60 #[v] w fun e w' => ∃ p c Bc, e = .returned (.agg #[v, .slice p zs.length c]) ∧ w.heap.size ≤ Bc ∧ w'.ownsRow Bc 132 1 (.slice p zs.length c) zs.length (nu (codes zs)) ∧ OnlyS (fun _ => False) w w' := by
  obtain ⟨w1, hw1⟩ : ∃ w1, w1 = w.alloc (.cells #[.slice none 0 0, .slice none 0 0] 117 (0, 0)) := ⟨_, rfl⟩
  have ho1 : OnlyS (fun _ => False) w w1 := by rw [hw1]; exact OnlyS.alloc _ _
  have hr1 : w1.heap[w.heap.size]? = some (.cells #[.slice none 0 0, .slice none 0 0] 117 (0, 0)) := by rw [hw1]; exact heap_alloc_new _ _
  have HC : Hid (Calls Tryd.prog 70 #[v] w1 fun e w' => ∃ p c, e = .returned (.tuple #[.slice p zs.length c, .int .i64 0]) ∧ w'.ownsRow w1.heap.size 132 1 (.slice p zs.length c) zs.length (nu (codes zs)) ∧ OnlyS (fun _ => False) w1 w') := Lib.hid (by
    refine (Codes_walk w1 v zs (hv.only ho1 (fun _ _ _ _ _ h => h))).mono ?_
    rintro e w' ⟨u, rfl, hown, hb⟩
    rw [if_pos hg, if_neg hst]
    rw [if_pos ⟨hg, hst⟩, if_pos ⟨hg, hst⟩] at hown
    obtain ⟨p, c, rfl⟩ := own_shape hown
    exact ⟨p, c, rfl, hown, OnlyS.of_below hb⟩)
  obtain ⟨p0, c0, rfl⟩ := hv.shape
  simp only [ni_length] at HC ⊢
  have HW1 := Lib.hid hw1
  have HR1 := Lib.hid hr1
  have HO1 := Lib.hid ho1
  clear hw1 hr1 ho1 hv hg hst
  go_enter Tryd.func60, Tryd.ntmps60
  go_wp2_with fail
  rw [← HW1.out]
  with_reducible refine HC.out.mono ?_
  rintro e w2 ⟨p, c, rfl, hs, ho2⟩
  have hr2 := (ho2.block _ (Array.getElem?_eq_some_iff.1 HR1.out).1 (fun h => h)).trans HR1.out
  have k0 : w2.cell? ⟨w.heap.size, 0, none⟩ = some (.slice none 0 0) := cell_of_row _ _ _ _ _ _ hr2
  have k1 : w2.cell? ⟨w.heap.size, 1, none⟩ = some (.slice none 0 0) := cell_of_row _ _ _ _ _ _ hr2
  have f0 : w2.frozen? ⟨w.heap.size, 0, none⟩ = false := frozen_of_row _ _ _ _ _ hr2
  have f1 : w2.frozen? ⟨w.heap.size, 1, none⟩ = false := frozen_of_row _ _ _ _ _ hr2
  have HS := Lib.hid hs
  have HO2 := Lib.hid ho2
  have HR2 := Lib.hid hr2
  clear hs ho2 hr2
  go_wp2_with fail
  refine bodyPost_ret_by (results_cell_row (p := 2) (ty := 117) rfl _ _ w.heap.size 117 _ (0, 0) _ rfl (heap_setCell_same _ _ _ _ _ _ (heap_setCell_same _ _ _ _ _ _ HR2.out)) Tryd.underlying117 rfl info117s) rfl ?_
  have hlt := (Array.getElem?_eq_some_iff.1 HR1.out).1
  have hset : OnlyS (fun i => i = w.heap.size) w2 ((w2.setCell ⟨w.heap.size, 0, none⟩ (.slice p0 zs.length c0)).setCell ⟨w.heap.size, 1, none⟩ (.slice p zs.length c)) := (OnlyS.setCell (S := fun i => i = w.heap.size) _ _ _ _ rfl).trans (OnlyS.setCell (S := fun i => i = w.heap.size) _ _ _ _ rfl)
  exact ⟨p, c, w1.heap.size, rfl, HO1.out.size, own_staysK HS.out (fun j hj => hset.block j (HS.out.lt j hj).2 (fun e => by have := (HS.out.lt j hj).1; omega)), (HO1.out.trans HO2.out).trans' hset (fun i hi => .inr (by omega))⟩
end Go.Proofs.YtphdcgioeokfbaaDoor
