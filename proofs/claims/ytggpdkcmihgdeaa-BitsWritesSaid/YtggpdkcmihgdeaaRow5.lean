/-
  Contracts of the document's own rows of bits: Get, Align, Bytes.
-/
import Derived.Test.YtggpdkcmihgdeaaRow4
namespace Go.Proofs.Ytggpdkcmihgdeaa
open Go.RowKit Bt

theorem Has.rowset {w : World} {F : Nat → Prop} {g n : Nat} {L : List Bool} (h : Has w F (.row g L n)) (m : Nat) : Turn F (.row g L m) w (w.setCell ⟨g, 1, none⟩ (.int .i64 (m : Int))) := by
  obtain ⟨rv, h1, h2, h3, h4⟩ := h
  have hne := h2.apart h1 (by decide)
  exact ⟨OnlyS.setCell _ _ _ _ h3, rv, (heap_setCell_same _ _ _ _ _ _ h1).trans rfl, h2.stays fun k hk => heap_setCell_other _ _ _ _ (fun e => hne (by rw [hk, e])), .inl h3, fun k hk => .inl (h4 k hk)⟩
theorem Same.trans {a b c : World} (h : Same a b) (k : Same b c) : Same a c := by
  obtain ⟨x, rfl⟩ := h; obtain ⟨y, rfl⟩ := k; exact ⟨x + y, by rw [World.drewN_drewN]⟩
set_option maxRecDepth 100000 in
set_option maxHeartbeats 800000 in
theorem qget_ok (w : World) (F : Nat → Prop) (g n k : Nat) (L : List Bool) (h : Has w F (.row g L n)) (hk : n + k ≤ L.length) (hlen : L.length ≤ 1099511627) (hK : k ≤ 57) :
    Calls Try.prog 29 #[.pointer (some ⟨g, 0, none⟩), .int .i64 (k : Int)] w (Turned (.tuple #[.int .u64 (num (segL L n k) : Nat), .int .i64 0]) F (.row g L (n + k)) w) := by
  have HL := Lib.hid (qleft_walk w F g n L h (by omega) hlen)
  have HH := Lib.hid h
  have HP : Hid (∀ W, Has W F (.row g L n) → Calls Try.prog 36 #[.pointer (some ⟨g, 0, none⟩), .int .i64 (k : Int)] W (QPost (.tuple #[.int .u64 (num (segL L n k) : Nat), .int .i64 (k : Int)]) W)) := Lib.hid fun W hW => qpeek_all W F g n L hW (by omega) hlen k hK (by omega)
  have h1 : (0 : Int) ≤ (k : Int) := by omega
  have h2 : (k : Int) ≤ 57 := by omega
  have hd : decide ((k : Int) < 0) = false := by simp
  have h3 : (k : Int) ≤ ((L.length - n : Nat) : Int) := by omega
  have hb : (n : Int) + (k : Int) ≤ 8796093022208 := by omega
  generalize L.length - n = left at *
  clear h hk hlen hK
  go_enter Try.func29, Try.ntmps29
  go_wp2_with fail
  refine HL.out.mono ?_
  rintro e w1 ⟨rfl, hS⟩
  have HS := Lib.hid hS
  clear hS HL
  go_wp2_with fail
  refine (HP.out w1 (HS.out.has HH.out)).mono ?_
  rintro e w2 ⟨rfl, hS⟩
  have HS2 := Lib.hid (HS.out.trans hS)
  clear hS HS HP
  generalize num (segL L n k) = x at *
  have H2 := Lib.hid (HS2.out.has HH.out)
  obtain ⟨p, cap, _, c1, _, hf⟩ := H2.out.w1
  have f1 := hf 1
  have HT := Lib.hid (HS2.out.before (H2.out.rowset (n + k)))
  clear hf H2 HS2 HH
  go_wp2_with fail
  go_ret2
  exact ⟨rfl, HT.out⟩
set_option maxHeartbeats 400000 in
theorem qget_lo (w : World) (p : Value) (m : Int) (hm : m < 0) :
    Calls Try.prog 29 #[p, .int .i64 m] w (QPost (.tuple #[.int .u64 0, .int .i64 1]) w) := by
  have hd : decide (m < 0) = true := by simpa using hm
  go_enter Try.func29, Try.ntmps29
  go_wp2_with fail
  go_ret2
  exact ⟨rfl, Same.refl _⟩
set_option maxHeartbeats 400000 in
theorem qget_hi (w : World) (p : Value) (m : Int) (hm : 57 < m) :
    Calls Try.prog 29 #[p, .int .i64 m] w (QPost (.tuple #[.int .u64 0, .int .i64 1]) w) := by
  have hd : decide (m < 0) = false := by simp; omega
  go_enter Try.func29, Try.ntmps29
  go_wp2_with fail
  go_ret2
  exact ⟨rfl, Same.refl _⟩
set_option maxHeartbeats 400000 in
theorem qget_short (w : World) (F : Nat → Prop) (g n : Nat) (m : Int) (L : List Bool) (h : Has w F (.row g L n)) (hn : n ≤ L.length) (hlen : L.length ≤ 1099511627) (h0 : 0 ≤ m) (h57 : m ≤ 57) (hs : ((L.length - n : Nat) : Int) < m) :
    Calls Try.prog 29 #[.pointer (some ⟨g, 0, none⟩), .int .i64 m] w (QPost (.tuple #[.int .u64 0, .int .i64 4]) w) := by
  have HL := Lib.hid (qleft_walk w F g n L h hn hlen)
  have hd : decide (m < 0) = false := by simpa using h0
  generalize L.length - n = left at *
  clear h
  go_enter Try.func29, Try.ntmps29
  go_wp2_with fail
  refine HL.out.mono ?_
  rintro e w1 ⟨rfl, hS⟩
  have HS := Lib.hid hS
  clear hS HL
  go_wp2_with fail
  go_ret2
  exact ⟨rfl, HS.out⟩
theorem qget_no (w : World) (F : Nat → Prop) (g n : Nat) (m : Int) (bs : List UInt8) (h : Has w F (.row g (bitsOf bs) n)) (hn : n ≤ 8 * bs.length) (hlen : bs.length ≤ 109951162) (hr : rerr bs n m ≠ 0) :
    Calls Try.prog 29 #[.pointer (some ⟨g, 0, none⟩), .int .i64 m] w (QPost (.tuple #[.int .u64 0, .int .i64 (rerr bs n m : Nat)]) w) := by
  unfold rerr at *
  by_cases h1 : m < 0
  · rw [if_pos (.inl h1)]; exact qget_lo w _ m h1
  by_cases h2 : 57 < m
  · rw [if_pos (.inr h2)]; exact qget_hi w _ m h2
  rw [if_neg (by omega)] at *
  by_cases h3 : (8 * bs.length : Int) < n + m
  · rw [if_pos h3]
    exact qget_short w F g n m _ h (by rw [bitsOf_length]; exact hn) (by rw [bitsOf_length]; omega) (by omega) (by omega) (by rw [bitsOf_length]; omega)
  · rw [if_neg h3] at hr; exact absurd rfl hr
def atOf (g : Nat) (w : World) : Nat := match w.cell? ⟨g, 1, none⟩ with | some (.int _ n) => n.toNat | _ => 0
theorem Has.atOf {w : World} {F : Nat → Prop} {g n : Nat} {L : List Bool} (h : Has w F (.row g L n)) : atOf g w = n := by
  obtain ⟨p, cap, _, c1, _⟩ := h.w1
  unfold Ytggpdkcmihgdeaa.atOf
  rw [c1]; simp
def AlignRel (F : Nat → Prop) (g n : Nat) (L : List Bool) (w wr : World) : Prop := ∃ j, n + j ≤ (n + 7) / 8 * 8 ∧ Turn F (.row g L (n + j)) w wr
set_option maxRecDepth 100000 in
set_option maxHeartbeats 800000 in
theorem qalign_walk (w : World) (F : Nat → Prop) (g n : Nat) (L : List Bool) (h : Has w F (.row g L n)) (hn : n ≤ 1099511627) :
    Calls Try.prog 32 #[.pointer (some ⟨g, 0, none⟩)] w (Turned (.tuple #[]) F (.row g L ((n + 7) / 8 * 8)) w) := by
  have HT0 : Hid (AlignRel F g n L w w) := Lib.hid ⟨0, by omega, Turn.refl h⟩
  have HN := Lib.hid hn
  clear h hn
  go_enter Try.func32, Try.ntmps32
  go_wp2_with fail
  go_loopw [7] (fun _ wr => AlignRel F g n L w wr) (fun _ wr => (8 - atOf g wr % 8) % 8)
  case atStart => exact HT0.out
  case round =>
    clear HT0
    obtain ⟨j, hj, hT⟩ := hrel
    have HT := Lib.hid hT
    obtain ⟨p, cap, _, c1, _, hf⟩ := hT.has.w1
    have f1 := hf 1
    have HAO := Lib.hid hT.has.atOf
    have hq1 : n + j ≤ 1099511700 := by have := HN.out; omega
    clear hT hf
    by_cases h8 : (n + j) % 8 = 0
    · have hpi : ((n + j : Nat) : Int) % 8 = 0 := by omega
      have HE : Hid (Turn F (.row g L ((n + 7) / 8 * 8)) w wr) := Lib.hid (by
        have := HT.out
        rwa [show n + j = (n + 7) / 8 * 8 by omega] at this)
      clear HT HAO
      generalize n + j = q at *
      go_wp2_with fail
      go_end0
      exact ⟨rfl, HE.out⟩
    · have hpi : (((n + j : Nat) : Int) % 8 != 0) = true := by rw [bne_iff_ne]; omega
      have HM : Hid ((8 - (n + j + 1) % 8) % 8 < (8 - (n + j) % 8) % 8 ∧ n + (j + 1) ≤ (n + 7) / 8 * 8) := Lib.hid (by omega)
      have HT2 := Lib.hid (HT.out.trans (HT.out.has.rowset (n + j + 1)))
      clear h8 hj HN HT
      have HR : Hid (∀ W, Turn F (.row g L (n + j + 1)) w W → AlignRel F g n L w W ∧ (8 - atOf g W % 8) % 8 < (8 - atOf g wr % 8) % 8) := Lib.hid fun W hW => ⟨⟨j + 1, HM.out.2, hW⟩, by rw [hW.has.atOf, HAO.out]; exact HM.out.1⟩
      clear HM HAO
      generalize n + j = q at *
      go_wp2_with fail
      exact HR.out _ HT2.out
def QBytesPost (F : Nat → Prop) (g n k : Nat) (L : List Bool) (w : World) (e : Ending) (w' : World) : Prop :=
  ∃ p cap, e = .returned (.tuple #[.slice p k cap, .int .i64 0]) ∧ Turn F (.row g L (n + k * 8)) w w' ∧ SlW w' (.slice p k cap) (((pack L).drop (n / 8)).take k)
end Go.Proofs.Ytggpdkcmihgdeaa
