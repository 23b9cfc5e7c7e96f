/-
  Contracts of the document's own rows of bits: Of.
-/
import Derived.Test.YtggpdkcmihgdeaaRow2
namespace Go.Proofs.Ytggpdkcmihgdeaa
open Go.RowKit Bt

def OfRel (F : Nat → Prop) (g2 : Nat) (bs : List UInt8) (w1 : World) (v4 : Value) (wr : World) : Prop := ∃ i : Nat, i ≤ bs.length ∧ v4 = .int .i64 (i : Int) ∧ Turn F (.row g2 (bitsOf (bs.take i)) 0) w1 wr
def OfRel2 (F : Nat → Prop) (g2 : Nat) (A : List Bool) (x : Nat) (w1 : World) (v5 v6 : Value) (wr : World) : Prop := ∃ k : Nat, k ≤ 8 ∧ v6 = .int .i64 (k : Int) ∧ v5 = .int .u8 ((x / 2 ^ k : Nat) : Int) ∧ Turn F (.row g2 (A ++ bitsN x k) 0) w1 wr
def OfPost (bs : List UInt8) (w : World) (e : Ending) (w' : World) : Prop := ∃ g, e = .returned (.pointer (some ⟨g, 0, none⟩)) ∧ Below w.heap.size w w' ∧ Has w' (fun k => w.heap.size ≤ k ∧ k < w'.heap.size) (.row g (bitsOf bs) 0)
theorem made_row (w : World) : Has (w.alloc (.cells #[.slice none 0 0, .int .i64 0] 28)) (fun k => k = w.heap.size) (.row w.heap.size [] 0) :=
  ⟨.slice none 0 0, (heap_alloc_new _ _).trans rfl, OwnL.nil _ _, rfl, fun k hk => by cases hk⟩
theorem u8_div (x k : Nat) (h : x < 256) : ((x / 2 ^ k : Nat) : Int) % 256 = ((x / 2 ^ k : Nat) : Int) := by
  have := Nat.div_le_self x (2 ^ k)
  generalize x / 2 ^ k = z at *
  omega
set_option maxRecDepth 100000 in
set_option maxHeartbeats 1600000 in
theorem of_walk (w : World) (v : Value) (bs : List UInt8) (hs : SlW w v bs) (hlen : bs.length ≤ 109951162) :
    Calls Try.prog 27 #[v] w (OfPost bs w) := by
  obtain ⟨p, cap, rfl⟩ := hs.shape
  have HS := Lib.hid hs
  obtain ⟨l, hl⟩ : ∃ l, l = bs.length := ⟨_, rfl⟩
  rw [← hl] at HS hlen ⊢
  have HLL := Lib.hid hl
  have HB0 : Hid (Below w.heap.size w (w.alloc (.cells #[.slice none 0 0, .int .i64 0] 28))) := Lib.hid ((Below.refl _ _).alloc (Nat.le_refl _) _)
  have HT0 : Hid (Turn (fun k => k = w.heap.size) (.row w.heap.size (bitsOf (bs.take 0)) 0) (w.alloc (.cells #[.slice none 0 0, .int .i64 0] 28)) (w.alloc (.cells #[.slice none 0 0, .int .i64 0] 28))) := Lib.hid (Turn.refl (made_row w))
  clear hl hs
  go_enter Try.func27, Try.ntmps27
  go_wp2_with fail
  have HSZ : Hid ((w.alloc (.cells #[.slice none 0 0, .int .i64 0] 28)).heap.size = w.heap.size + 1) := Lib.hid (by simp)
  generalize w.alloc (.cells #[.slice none 0 0, .int .i64 0] 28) = w1 at *
  go_loopw [4, 5, 6] (fun v4 _ _ wr => OfRel (fun k => k = w.heap.size) w.heap.size bs w1 v4 wr) (fun v4 _ _ _ => l - (intOf v4).toNat)
  case atStart => exact ⟨0, Nat.zero_le _, rfl, HT0.out⟩
  case round =>
    clear HT0
    obtain ⟨i, hi, rfl, hT⟩ := hrel
    rw [← HLL.out] at hi
    have HT := Lib.hid hT
    have HB := Lib.hid (HB0.out.trans (hT.only.below (by have := HSZ.out; omega) (fun k hk => by
      have hk' : k = w.heap.size := hk
      omega) : Below w.heap.size w1 wr))
    clear hT
    by_cases hlt : i < l
    · have hii : (i : Int) < (l : Int) := by omega
      obtain ⟨gb, o, rfl, hB⟩ := (HS.out.below HB.out (Nat.le_refl _)).some (by omega)
      have hc := hB i (by rw [← HLL.out]; exact hlt)
      have HX : Hid (bitsOf (bs.take (i + 1)) = bitsOf (bs.take i) ++ bitsN (bs.getD i 0).toNat 8) := Lib.hid (by
        rw [← bitsOf_snoc]
        congr 1
        rw [List.take_succ_eq_append_getElem (by rw [← HLL.out]; exact hlt)]
        congr 2
        simp [show i < bs.length by rw [← HLL.out]; exact hlt])
      have hx8 := (bs.getD i 0).toNat_lt
      have HLA : Hid ((bitsOf (bs.take i)).length ≤ 879609296) := Lib.hid (by rw [bitsOf_length, List.length_take, ← HLL.out]; omega)
      unfold bi at hc
      clear hB
      generalize (bs.getD i 0).toNat = x at *
      generalize bitsOf (bs.take i) = A at *
      go_wp2_with fail
      obtain ⟨wo, rfl⟩ : ∃ wo : World, wo = wr := ⟨_, rfl⟩
      go_loopw [5, 6] (fun v5 v6 wr => OfRel2 (fun k => k = w.heap.size) w.heap.size A x w1 v5 v6 wr) (fun _ v6 _ => 8 - (intOf v6).toNat)
      case atStart => exact ⟨0, by omega, rfl, by simp, by simpa [bitsN] using HT.out⟩
      case round =>
        obtain ⟨k, hk, rfl, rfl, hT2⟩ := hrel
        have HT2 := Lib.hid hT2
        obtain ⟨p2, cap2, c0, _, ho2, _⟩ := hT2.has.w1
        have hla : (A ++ bitsN x k).length = A.length + k := by simp [bitsN_length]
        rw [hla] at c0 ho2
        have HO2 := Lib.hid ho2
        have HC2 := Lib.hid c0
        clear hT2 ho2 hla
        by_cases hk8 : k < 8
        · have hki : (k : Int) < 8 := by omega
          have hob := odd_bit x k
          have HD := Lib.hid (div_two x k)
          have HWR := Lib.hid (u8_div x (k + 1) hx8)
          have HN : Hid (A ++ bitsN x k ++ [x.testBit k] = A ++ bitsN x (k + 1)) := Lib.hid (by rw [bitsN_succ, List.append_assoc])
          have HL : Hid ((A ++ bitsN x k).length + [x.testBit k].length ≤ 1099511627776) := Lib.hid (by have := HLA.out; simp [bitsN_length]; omega)
          generalize x / 2 ^ k = y at *
          generalize x.testBit k = b at *
          generalize hAk : A ++ bitsN x k = Ak at *
          clear hAk hc
          generalize hqq : A.length + k = q at *
          clear hqq
          go_wp2_with (refine wpList_appL rfl (.tmp 27) (.tmp 31) rfl 0 (.slice p2 q cap2) (.slice (some ⟨_, 0, none⟩) 1 1) Ak [b] rfl rfl (HO2.out.alloc _) (sll_one _ b) (Nat.zero_le _) HL.out ?_; intro v' w2 hown hgrow hat; obtain ⟨p', c', rfl⟩ := hown.toL.shape; generalize (Ak ++ [b]).length = nl at *; obtain ⟨e1, f1, hT3⟩ := HT2.out.has.rowapp HC2.out ((Below.refl _ _).alloc (Nat.le_refl _) _) hown hgrow hat; have HT3 := Lib.hid (HT2.out.trans hT3); clear hT3 hown hgrow hat c0)
          rw [HN.out] at HT3
          exact ⟨⟨k + 1, by omega, by go_num, by rw [HD.out, HWR.out], HT3.out⟩, by simp [intOf]; omega⟩
        · have hki : (8 : Int) ≤ (k : Int) := by omega
          obtain rfl : k = 8 := by omega
          have HT4 := Lib.hid HT2.out
          clear HT2 HO2 HC2 c0 hc
          generalize x / 2 ^ 8 = y at *
          go_wp2_with fail
          exact ⟨⟨i + 1, by rw [← HLL.out]; omega, by go_num, by rw [HX.out]; exact HT4.out⟩, by simp [intOf]; omega⟩
    · have hii : (l : Int) ≤ (i : Int) := by omega
      have HQ : Hid (OfPost bs w (.returned (.pointer (some ⟨w.heap.size, 0, none⟩))) wr) := Lib.hid ⟨_, rfl, HB.out, by
        have h1 := HT.out.has
        have h2 := HT.out.only.size
        have h3 := HSZ.out
        rw [List.take_of_length_le (by rw [← HLL.out]; omega)] at h1
        exact h1.mono fun k hk => by
          rcases hk with hk | hk
          · have hk' : k = w.heap.size := hk
            omega
          · omega⟩
      clear HT
      go_wp2_with fail
      go_ret
      exact HQ.out
end Go.Proofs.Ytggpdkcmihgdeaa
