/-
  Steps: literal, copies, makes, Size, May.
-/
import Derived.Test.YtghphgpbgekoiaaWakes
namespace Go.Proofs.Ytghphgpbgekoiaa
open Go.RowKit
/-- A step, as a value. -/
def stp3 (s : Mt.St) : Value := .agg #[.int .i64 (s.1 : Int), .int .i64 (s.2.1 : Int), .int .u8 (bi s.2.2)]
set_option maxRecDepth 100000 in
set_option maxHeartbeats 1000000 in
theorem literal_walk (w : World) (s : Mt.St) : Calls Try.prog 26 #[stp3 s] w fun e w' => e = .returned (.bool (decide (s.1 = 0))) ∧ Below w.heap.size w w' := by
  obtain ⟨x, y, z⟩ := s
  unfold stp3
  have HB : Hid (Below w.heap.size w (w.alloc (.cells #[.int .i64 (x : Int), .int .i64 (y : Int), .int .u8 (bi z)] 32))) := Lib.hid ((Below.refl _ _).alloc (Nat.le_refl _) _)
  go_enter Try.func26, Try.ntmps26
  by_cases hx : x = 0
  · subst hx
    go_wp2_with fail
    go_ret
    exact ⟨rfl, HB.out⟩
  · have hx1 : ((x : Int) == 0) = false := beq_eq_false_iff_ne.2 (by omega)
    have HD : Hid (decide (x = 0) = false) := Lib.hid (decide_eq_false hx)
    go_wp2_with fail
    go_ret
    exact ⟨by rw [HD.out]; rfl, HB.out⟩
set_option maxRecDepth 100000 in
set_option maxHeartbeats 1000000 in
theorem makes_walk (w : World) (s : Mt.St) : Calls Try.prog 28 #[stp3 s] w fun e w' => e = .returned (.int .i64 (Mt.mk s : Nat)) ∧ Below w.heap.size w w' := by
  obtain ⟨x, y, z⟩ := s
  unfold stp3
  have HB : Hid (Below w.heap.size w (w.alloc (.cells #[.int .i64 (x : Int), .int .i64 (y : Int), .int .u8 (bi z)] 32))) := Lib.hid ((Below.refl _ _).alloc (Nat.le_refl _) _)
  have hm : max (x : Int) 1 = ((Mt.mk (x, y, z) : Nat) : Int) := by show _ = ((max x 1 : Nat) : Int); omega
  generalize Mt.mk (x, y, z) = m at *
  go_enter Try.func28, Try.ntmps28
  go_wp2_with fail
  go_ret
  exact ⟨rfl, HB.out⟩
set_option maxRecDepth 100000 in
set_option maxHeartbeats 1000000 in
theorem copies_walk (w : World) (s : Mt.St) (k : Nat) (h : Mt.okS s k) (h0 : s.1 ≠ 0) : Calls Try.prog 27 #[stp3 s, .int .i64 (k : Int)] w fun e w' => e = .returned (.bool true) ∧ Below w.heap.size w w' := by
  obtain ⟨x, y, z⟩ := s
  rcases h with h | ⟨h1, h2, h3, h4, h5, h6⟩
  · exact absurd h h0
  · simp only at h1 h2 h3 h4 h5 h6
    subst h6
    unfold stp3
    have HB : Hid (Below w.heap.size w (w.alloc (.cells #[.int .i64 (x : Int), .int .i64 (y : Int), .int .u8 (bi 0)] 32))) := Lib.hid ((Below.refl _ _).alloc (Nat.le_refl _) _)
    have g1 : (3 : Int) ≤ (x : Int) := by omega
    have g2 : (x : Int) ≤ 258 := by omega
    have g3 : (1 : Int) ≤ (y : Int) := by omega
    have g4 : (y : Int) ≤ min 32768 (k : Int) := by omega
    have g5 : (bi 0 == 0) = true := rfl
    go_enter Try.func27, Try.ntmps27
    go_wp2_with fail
    go_ret
    exact ⟨rfl, HB.out⟩
theorem sizeL_take (ss : List Mt.St) (i : Nat) (h : i < ss.length) : Mt.sizeL (ss.take (i + 1)) = Mt.sizeL (ss.take i) + Mt.mk ss[i] := by
  unfold Mt.sizeL
  rw [List.take_add_one, List.getElem?_eq_getElem h, Option.toList_some, List.map_append, List.sum_append]
  simp
theorem sizeL_le (ss : List Mt.St) (i : Nat) : Mt.sizeL (ss.take i) ≤ Mt.sizeL ss := by
  have h := congrArg Mt.sizeL (List.take_append_drop i ss)
  unfold Mt.sizeL at *
  rw [List.map_append, List.sum_append] at h
  omega
set_option maxRecDepth 100000 in
set_option maxHeartbeats 4000000 in
theorem size_walk (w : World) (v : Value) (ss : List Mt.St) (hs : SlS w v ss) (hl : ss.length ≤ 1099511627776) (hz : Mt.sizeL ss ≤ 1099511627776) :
    Calls Try.prog 17 #[v] w fun e w' => e = .returned (.int .i64 (Mt.sizeL ss : Nat)) ∧ Below w.heap.size w w' := by
  obtain ⟨p, cap, rfl⟩ := SlK.shape hs
  obtain ⟨n, hn⟩ : ∃ n, n = ss.length := ⟨_, rfl⟩
  have HS : Hid (SlS w (.slice p n cap) ss) := Lib.hid (by rw [hn]; exact hs)
  rw [← hn] at hl ⊢
  have HN := Lib.hid hn
  have HZ := Lib.hid hz
  clear hs hn hz
  go_enter Try.func17, Try.ntmps17
  go_wp2_with fail
  go_loopw [3, 8] (fun v3 v8 wr => ∃ i : Nat, i ≤ n ∧ v8 = .int .i64 i ∧ v3 = .int .i64 (Mt.sizeL (ss.take i) : Nat) ∧ Below w.heap.size w wr) (fun _ v8 _ => n - (intOf v8).toNat)
  case atStart => exact ⟨0, Nat.zero_le _, rfl, rfl, Below.refl _ _⟩
  case round =>
    obtain ⟨i, hi, rfl, rfl, hB⟩ := hrel
    have HB := Lib.hid hB
    clear hB
    by_cases hin : i < n
    · have hini : (i : Int) < (n : Int) := by omega
      have hil : i < ss.length := by rw [← HN.out]; exact hin
      obtain ⟨g, o, rfl, hcap, hc⟩ := SlS.at (SlK.below HS.out HB.out (Nat.le_refl _)) (by omega)
      obtain ⟨c0, c1, c2⟩ := hc i ss[i] (List.getElem?_eq_getElem hil)
      have HST := Lib.hid (sizeL_take ss i hil)
      have hz1 := sizeL_le ss (i + 1)
      rw [HST.out] at hz1
      have hz2 := HZ.out
      have hmk : ∀ wx, Calls Try.prog 28 #[stp3 ss[i]] wx fun e w' => e = .returned (.int .i64 (Mt.mk ss[i] : Nat)) ∧ Below wx.heap.size wx w' := fun wx => makes_walk wx _
      have HMK := Lib.hid hmk
      clear hc hmk
      unfold stp3 at HMK
      generalize Mt.mk ss[i] = m at *
      obtain ⟨x, hx⟩ : ∃ x, x = (ss[i]).1 := ⟨_, rfl⟩
      obtain ⟨y, hy⟩ : ∃ y, y = (ss[i]).2.1 := ⟨_, rfl⟩
      obtain ⟨z, hz3⟩ : ∃ z, z = (ss[i]).2.2 := ⟨_, rfl⟩
      rw [← hx] at c0 HMK
      rw [← hy] at c1 HMK
      rw [← hz3] at c2 HMK
      clear hx hy hz3
      generalize Mt.sizeL (ss.take i) = S at *
      have hs1 : (S : Int) + (m : Int) ≤ 1099511627776 := by omega
      go_wp2_with fail
      refine (HMK.out _).mono ?_
      rintro e w2 ⟨rfl, hb2⟩
      have HB2 := Lib.hid ((HB.out.alloc HB.out.size (.cells #[.int .i64 (x : Int), .int .i64 (y : Int), .int .u8 (bi z)] 32)).trans (hb2.mono (Nat.le_trans HB.out.size (by simp))))
      clear hb2
      go_wp2_with fail
      refine ⟨⟨i + 1, hin, ?_, ?_, HB2.out⟩, ?_⟩
      · go_num
      · rw [HST.out]; go_num
      · simp only [intOf]; omega
    · have hini : (n : Int) ≤ (i : Int) := by omega
      obtain rfl : i = n := by omega
      have HE : Hid (ss.take i = ss) := Lib.hid (by rw [HN.out, List.take_length])
      rw [HE.out]
      go_wp2_with fail
      go_ret
      exact ⟨rfl, HB.out⟩
theorem okL_at : ∀ (ss : List Mt.St) (k i : Nat) (h : i < ss.length), Mt.okL ss k → Mt.okS ss[i] (k + Mt.sizeL (ss.take i))
  | [], _, _, h, _ => by simp at h
  | s :: t, k, 0, _, h => by simpa [Mt.sizeL] using h.1
  | s :: t, k, i + 1, h, hk => by
    have := okL_at t (k + Mt.mk s) i (by simpa using h) hk.2
    have e : Mt.sizeL ((s :: t).take (i + 1)) = Mt.mk s + Mt.sizeL (t.take i) := rfl
    rw [e, ← Nat.add_assoc]; exact this
set_option maxRecDepth 100000 in
set_option maxHeartbeats 4000000 in
theorem may_walk (w : World) (v : Value) (ss : List Mt.St) (hs : SlS w v ss) (hl : ss.length ≤ 1099511627776) (hz : Mt.sizeL ss ≤ 1099511627776) (hok : Mt.okL ss 0) :
    Calls Try.prog 16 #[v] w fun e w' => e = .returned (.bool true) ∧ Below w.heap.size w w' := by
  obtain ⟨p, cap, rfl⟩ := SlK.shape hs
  obtain ⟨n, hn⟩ : ∃ n, n = ss.length := ⟨_, rfl⟩
  have HS : Hid (SlS w (.slice p n cap) ss) := Lib.hid (by rw [hn]; exact hs)
  rw [← hn] at hl ⊢
  have HN := Lib.hid hn
  have HZ := Lib.hid hz
  have HOK := Lib.hid hok
  clear hs hn hz hok
  go_enter Try.func16, Try.ntmps16
  go_wp2_with fail
  go_loopw [3, 8] (fun v3 v8 wr => ∃ i : Nat, i ≤ n ∧ v8 = .int .i64 i ∧ v3 = .int .i64 (Mt.sizeL (ss.take i) : Nat) ∧ Below w.heap.size w wr) (fun _ v8 _ => n - (intOf v8).toNat)
  case atStart => exact ⟨0, Nat.zero_le _, rfl, rfl, Below.refl _ _⟩
  case round =>
    obtain ⟨i, hi, rfl, rfl, hB⟩ := hrel
    have HB := Lib.hid hB
    clear hB
    by_cases hin : i < n
    · have hini : (i : Int) < (n : Int) := by omega
      have hil : i < ss.length := by rw [← HN.out]; exact hin
      obtain ⟨g, o, rfl, hcap, hc⟩ := SlS.at (SlK.below HS.out HB.out (Nat.le_refl _)) (by omega)
      obtain ⟨c0, c1, c2⟩ := hc i ss[i] (List.getElem?_eq_getElem hil)
      have HST := Lib.hid (sizeL_take ss i hil)
      have hz1 := sizeL_le ss (i + 1)
      rw [HST.out] at hz1
      have hz2 := HZ.out
      have hmk : ∀ wx, Calls Try.prog 28 #[stp3 ss[i]] wx fun e w' => e = .returned (.int .i64 (Mt.mk ss[i] : Nat)) ∧ Below wx.heap.size wx w' := fun wx => makes_walk wx _
      have HMK := Lib.hid hmk
      have HLI := Lib.hid (fun wx => literal_walk wx ss[i])
      have hoki := okL_at ss 0 i hil HOK.out
      rw [Nat.zero_add] at hoki
      have HCO := Lib.hid (fun wx => copies_walk wx ss[i] _ hoki)
      clear hc hmk hoki
      unfold stp3 at HMK HLI HCO
      generalize Mt.mk ss[i] = m at *
      obtain ⟨x, hx⟩ : ∃ x, x = (ss[i]).1 := ⟨_, rfl⟩
      obtain ⟨y, hy⟩ : ∃ y, y = (ss[i]).2.1 := ⟨_, rfl⟩
      obtain ⟨z, hz3⟩ : ∃ z, z = (ss[i]).2.2 := ⟨_, rfl⟩
      rw [← hx] at c0 HMK HLI HCO
      rw [← hy] at c1 HMK HLI HCO
      rw [← hz3] at c2 HMK HLI HCO
      clear hx hy hz3
      generalize Mt.sizeL (ss.take i) = S at *
      have hs1 : (S : Int) + (m : Int) ≤ 1099511627776 := by omega
      have hf : ∀ w3 : World, w3 = wr.alloc (.cells #[.int .i64 (x : Int), .int .i64 (y : Int), .int .u8 (bi z)] 32) → w3.heap[wr.heap.size]? = some (.cells #[.int .i64 (x : Int), .int .i64 (y : Int), .int .u8 (bi z)] 32 (0, 0)) := fun w3 e => by rw [e]; exact heap_alloc_new wr _
      have HF := Lib.hid hf
      clear hf
      go_wp2_with fail
      refine (HLI.out _).mono ?_
      rintro e w2 ⟨rfl, hb2⟩
      have hr2 := (hb2.block _ (Array.getElem?_eq_some_iff.1 (HF.out _ rfl)).1).trans (HF.out _ rfl)
      have HB2 := Lib.hid ((HB.out.alloc HB.out.size (.cells #[.int .i64 (x : Int), .int .i64 (y : Int), .int .u8 (bi z)] 32)).trans (hb2.mono (Nat.le_trans HB.out.size (by simp))))
      have HR2 := Lib.hid hr2
      obtain ⟨d0, d1, d2, -⟩ := row3 hr2
      clear hb2 hr2 HLI
      by_cases hx0 : x = 0
      · subst hx0
        go_wp2_with fail
        refine (HMK.out _).mono ?_
        rintro e w3 ⟨rfl, hb3⟩
        have HB3 := Lib.hid (HB2.out.trans (hb3.mono HB2.out.size))
        clear hb3
        go_wp2_with fail
        refine ⟨⟨i + 1, hin, ?_, ?_, HB3.out⟩, ?_⟩
        · go_num
        · rw [HST.out]; go_num
        · simp only [intOf]; omega
      · have hxd : decide (x = 0) = false := decide_eq_false hx0
        go_wp2_with fail
        refine (HCO.out _ hx0).mono ?_
        rintro e w4 ⟨rfl, hb4⟩
        obtain ⟨e0, e1, e2, -⟩ := row3 ((hb4.block _ (Array.getElem?_eq_some_iff.1 HR2.out).1).trans HR2.out)
        have HB4 := Lib.hid (HB2.out.trans (hb4.mono HB2.out.size))
        clear hb4
        go_wp2_with fail
        refine (HMK.out _).mono ?_
        rintro e w3 ⟨rfl, hb3⟩
        have HB3 := Lib.hid (HB4.out.trans (hb3.mono HB4.out.size))
        clear hb3
        go_wp2_with fail
        refine ⟨⟨i + 1, hin, ?_, ?_, HB3.out⟩, ?_⟩
        · go_num
        · rw [HST.out]; go_num
        · simp only [intOf]; omega
    · have hini : (n : Int) ≤ (i : Int) := by omega
      obtain rfl : i = n := by omega
      go_wp2_with fail
      go_ret
      exact ⟨rfl, HB.out⟩
end Go.Proofs.Ytghphgpbgekoiaa
