/-
  readSize, readRecord.
-/
import Derived.Test.YtjgphicmkmdeiaaDoorPc
namespace Go.Proofs.YtjgphicmkmdeiaaDoor
open Go.RowKit Go.Maps

/-- readSize's answer: the size, what stands behind, the error. -/
def rsV : Except Nat (Nat × List UInt8) → Value
  | .error e => .tuple #[.int .i64 0, .string ⟨#[]⟩, .int .i64 (e : Int)]
  | .ok (n, b) => .tuple #[.int .i64 (n : Int), .string ⟨b.toArray⟩, .int .i64 0]
set_option maxRecDepth 100000 in
set_option maxHeartbeats 1000000 in
theorem rdSize_walk (s : ByteArray) (l : List UInt8) (hl : s.data.toList = l) (hm : l.length ≤ 1099511627776) (w : World) (hP : PxAt w) : Calls Tryd.prog 32 #[.string s] w fun e w' =>
    e = .returned (rsV (Px.rdSize l)) ∧ Below w.heap.size w w' := by
  have HC : Hid (Calls Tryd.prog 39 #[.string s, .string ⟨#[32]⟩] w _) := Lib.hid (scut_walk s l hl hm 32 w)
  have hlen : (Px.cut 32 l).1.length ≤ l.length := by
    rcases Px.cut_cases 32 l with ⟨_, h⟩ | ⟨a, b, _, h1, h2⟩
    · rw [h]; exact Nat.le_refl _
    · rw [h2, h1]; simp
  have hE : Px.rdSize l = match num (Px.cut 32 l).1 with
      | none => .error 5
      | some n => if n < 0 ∨ 16777216 < n then .error 5
        else if (Px.cut 32 l).2.2 = true then (if Px.isSz n.toNat = true then .ok (n.toNat, (Px.cut 32 l).2.1) else .error 5)
        else if Px.begSz n.toNat = true then .error 4 else .error 5 := rfl
  rw [hE]
  clear hE
  generalize Px.cut 32 l = R at *
  obtain ⟨T, B, F⟩ := R
  simp only at HC hlen ⊢
  have HN : Hid (∀ w1, Below w.heap.size w w1 → Calls Tryd.prog 21 #[.string ⟨T.toArray⟩] w1 fun e w' => e = .returned (.tuple #[.int .i64 ((num T).getD 0), .bool (num T).isSome]) ∧ Below w.heap.size w w') := Lib.hid (fun w1 hb =>
    (number_walk w1 ⟨T.toArray⟩ (by show T.toArray.size ≤ _; simp; omega) (hP.below hb (Nat.le_refl _))).mono fun _ _ ⟨h1, h2⟩ => ⟨h1, hb.trans (h2.mono hb.size)⟩)
  have HI : Hid (∀ (n : Nat) w1, n ≤ 16777216 → Below w.heap.size w w1 → Calls Tryd.prog 40 #[.int .i64 (n : Int)] w1 fun e w' => e = .returned (.bool (Px.isSz n)) ∧ Below w.heap.size w w') := Lib.hid (fun n w1 hn hb =>
    (isSz_walk w1 n (by omega) (hP.below hb (Nat.le_refl _))).mono fun _ _ ⟨h1, h2⟩ => ⟨h1, hb.trans (h2.mono hb.size)⟩)
  have HG : Hid (∀ (n : Nat) w1, n ≤ 16777216 → Below w.heap.size w w1 → Calls Tryd.prog 41 #[.int .i64 (n : Int)] w1 fun e w' => e = .returned (.bool (Px.begSz n)) ∧ Below w.heap.size w w') := Lib.hid (fun n w1 hn hb =>
    (begSz_walk w1 n hn (hP.below hb (Nat.le_refl _))).mono fun _ _ ⟨h1, h2⟩ => ⟨h1, hb.trans (h2.mono hb.size)⟩)
  obtain ⟨bt, hbt⟩ : ∃ b, (⟨T.toArray⟩ : ByteArray) = b := ⟨_, rfl⟩
  obtain ⟨bb, hbb⟩ : ∃ b, (⟨B.toArray⟩ : ByteArray) = b := ⟨_, rfl⟩
  rw [hbt] at HC HN
  rw [hbb] at HC
  have HBB := Lib.hid hbb
  clear hl hm hP hlen hbt hbb
  rcases hn : num T with _ | n
  · rw [hn] at HN
    simp only [Option.getD_none, Option.isSome_none] at HN ⊢
    clear hn HI HG
    show Calls _ _ _ _ fun e w' => e = .returned (.tuple #[.int .i64 0, .string ⟨#[]⟩, .int .i64 5]) ∧ _
    go_enter Tryd.func32, Tryd.ntmps32
    go_wp2_with (first
      | ((with_reducible refine HC.out.mono ?_); rintro e w1 ⟨rfl, hb⟩; have HN2 := Lib.hid (HN.out w1 hb); clear hb)
      | ((with_reducible refine HN2.out.mono ?_); rintro e w2 ⟨rfl, hb⟩; have HB := Lib.hid hb; clear hb))
    go_ret3
    exact ⟨rfl, HB.out⟩
  · rw [hn] at HN
    simp only [Option.getD_some, Option.isSome_some] at HN ⊢
    clear hn
    by_cases h1 : n < 0 ∨ 16777216 < n
    · rw [if_pos h1]
      clear HI HG
      show Calls _ _ _ _ fun e w' => e = .returned (.tuple #[.int .i64 0, .string ⟨#[]⟩, .int .i64 5]) ∧ _
      rcases (show n < 0 ∨ (¬ n < 0 ∧ 16777216 < n) by omega) with h2 | ⟨h2, h3⟩
      · have d1 : decide (n < 0) = true := decide_eq_true h2
        clear h1 h2
        go_enter Tryd.func32, Tryd.ntmps32
        go_wp2_with (first
          | ((with_reducible refine HC.out.mono ?_); rintro e w1 ⟨rfl, hb⟩; have HN2 := Lib.hid (HN.out w1 hb); clear hb)
          | ((with_reducible refine HN2.out.mono ?_); rintro e w2 ⟨rfl, hb⟩; have HB := Lib.hid hb; clear hb))
        go_ret3
        exact ⟨rfl, HB.out⟩
      · have d1 : decide (n < 0) = false := decide_eq_false h2
        have d2 : decide (16777216 < n) = true := decide_eq_true h3
        clear h1 h2 h3
        go_enter Tryd.func32, Tryd.ntmps32
        go_wp2_with (first
          | ((with_reducible refine HC.out.mono ?_); rintro e w1 ⟨rfl, hb⟩; have HN2 := Lib.hid (HN.out w1 hb); clear hb)
          | ((with_reducible refine HN2.out.mono ?_); rintro e w2 ⟨rfl, hb⟩; have HB := Lib.hid hb; clear hb))
        go_ret3
        exact ⟨rfl, HB.out⟩
    · rw [if_neg h1]
      obtain ⟨m, rfl⟩ : ∃ m : Nat, n = (m : Int) := ⟨n.toNat, by omega⟩
      have hm : m ≤ 16777216 := by omega
      have d1 : decide ((m : Int) < 0) = false := decide_eq_false (by omega)
      have d2 : decide (16777216 < (m : Int)) = false := decide_eq_false (by omega)
      rw [Int.toNat_natCast]
      have HI2 : Hid (∀ w1, Below w.heap.size w w1 → _) := Lib.hid (fun w1 => HI.out m w1 hm)
      have HG2 : Hid (∀ w1, Below w.heap.size w w1 → _) := Lib.hid (fun w1 => HG.out m w1 hm)
      generalize Px.isSz m = S at *
      generalize Px.begSz m = G at *
      clear h1 HI HG
      cases F
      · rw [if_neg (by simp)]
        clear HI2
        cases G
        · show Calls _ _ _ _ fun e w' => e = .returned (.tuple #[.int .i64 0, .string ⟨#[]⟩, .int .i64 5]) ∧ _
          go_enter Tryd.func32, Tryd.ntmps32
          go_wp2_with (first
            | ((with_reducible refine HC.out.mono ?_); rintro e w1 ⟨rfl, hb⟩; have HN2 := Lib.hid (HN.out w1 hb); clear hb)
            | ((with_reducible refine HN2.out.mono ?_); rintro e w2 ⟨rfl, hb⟩; have HG3 := Lib.hid (HG2.out w2 hb); clear hb)
            | ((with_reducible refine HG3.out.mono ?_); rintro e w3 ⟨rfl, hb⟩; have HB := Lib.hid hb; clear hb))
          go_ret3
          exact ⟨rfl, HB.out⟩
        · show Calls _ _ _ _ fun e w' => e = .returned (.tuple #[.int .i64 0, .string ⟨#[]⟩, .int .i64 4]) ∧ _
          go_enter Tryd.func32, Tryd.ntmps32
          go_wp2_with (first
            | ((with_reducible refine HC.out.mono ?_); rintro e w1 ⟨rfl, hb⟩; have HN2 := Lib.hid (HN.out w1 hb); clear hb)
            | ((with_reducible refine HN2.out.mono ?_); rintro e w2 ⟨rfl, hb⟩; have HG3 := Lib.hid (HG2.out w2 hb); clear hb)
            | ((with_reducible refine HG3.out.mono ?_); rintro e w3 ⟨rfl, hb⟩; have HB := Lib.hid hb; clear hb))
          go_ret3
          exact ⟨rfl, HB.out⟩
      · rw [if_pos rfl]
        clear HG2
        cases S
        · show Calls _ _ _ _ fun e w' => e = .returned (.tuple #[.int .i64 0, .string ⟨#[]⟩, .int .i64 5]) ∧ _
          go_enter Tryd.func32, Tryd.ntmps32
          go_wp2_with (first
            | ((with_reducible refine HC.out.mono ?_); rintro e w1 ⟨rfl, hb⟩; have HN2 := Lib.hid (HN.out w1 hb); clear hb)
            | ((with_reducible refine HN2.out.mono ?_); rintro e w2 ⟨rfl, hb⟩; have HG3 := Lib.hid (HI2.out w2 hb); clear hb)
            | ((with_reducible refine HG3.out.mono ?_); rintro e w3 ⟨rfl, hb⟩; have HB := Lib.hid hb; clear hb))
          go_ret3
          exact ⟨rfl, HB.out⟩
        · show Calls _ _ _ _ fun e w' => e = .returned (.tuple #[.int .i64 (m : Int), .string ⟨B.toArray⟩, .int .i64 0]) ∧ _
          rw [HBB.out]
          go_enter Tryd.func32, Tryd.ntmps32
          go_wp2_with (first
            | ((with_reducible refine HC.out.mono ?_); rintro e w1 ⟨rfl, hb⟩; have HN2 := Lib.hid (HN.out w1 hb); clear hb)
            | ((with_reducible refine HN2.out.mono ?_); rintro e w2 ⟨rfl, hb⟩; have HG3 := Lib.hid (HI2.out w2 hb); clear hb)
            | ((with_reducible refine HG3.out.mono ?_); rintro e w3 ⟨rfl, hb⟩; have HB := Lib.hid hb; clear hb))
          go_ret3
          exact ⟨rfl, HB.out⟩
end Go.Proofs.YtjgphicmkmdeiaaDoor
