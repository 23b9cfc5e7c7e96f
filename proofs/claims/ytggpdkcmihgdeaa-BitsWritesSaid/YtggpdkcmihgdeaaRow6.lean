/-
  Contracts of the document's own rows of bits: Bytes.
-/
import Derived.Test.YtggpdkcmihgdeaaRow5
namespace Go.Proofs.Ytggpdkcmihgdeaa
open Go.RowKit Bt

theorem h2lt {w : World} {rv : Value} {L : List Bool} (h : OwnL 0 w rv L) (i : Nat) (hi : rv.ownBlock = some i) : i < w.heap.size := (h.lt i hi).2
set_option maxRecDepth 100000 in
set_option maxHeartbeats 1000000 in
theorem qbytes_ok (w : World) (F : Nat → Prop) (g n k : Nat) (L : List Bool) (h : Has w F (.row g L n)) (h8 : n % 8 = 0) (hL8 : L.length % 8 = 0) (hk : n + k * 8 ≤ L.length) (hlen : L.length ≤ 1099511627) :
    Calls Try.prog 34 #[.pointer (some ⟨g, 0, none⟩), .int .i64 (k : Int)] w (QBytesPost F g n k L w) := by
  have HL := Lib.hid (qleft_walk w F g n L h (by omega) hlen)
  have HH := Lib.hid h
  obtain ⟨_, _, _, c1, _, _⟩ := h.w1
  have HD : Hid (∀ W, Has W F (.row g L n) → Calls Try.prog 22 #[.pointer (some ⟨g, 0, none⟩)] W (ClonePost (pack L) W)) := Lib.hid fun W hW => rdone_walk W F g n L hW hlen
  have hpi : (n : Int) % 8 = 0 := by omega
  have hk0 : (0 : Int) ≤ (k : Int) := by omega
  have hd : decide ((k : Int) < 0) = false := by simp
  have hl1 : L.length - n ≤ 1099511627 := by omega
  have hleft : (k : Int) ≤ ((L.length - n : Nat) : Int) / 8 := by omega
  have hb1 : (n : Int) + 8 * (k : Int) ≤ 8796093022208 := by omega
  have HE3 : Hid ((n : Int) + 8 * (k : Int) = ((n + k * 8 : Nat) : Int)) := Lib.hid (by omega)
  have HPK : Hid (n / 8 + k ≤ (pack L).length) := Lib.hid (by rw [pack_length]; omega)
  have hq0 : (0 : Int) ≤ (n : Int) / 8 := by omega
  generalize L.length - n = left at *
  clear h hk hlen h8 hL8
  go_enter Try.func34, Try.ntmps34
  go_wp2_with fail
  refine HL.out.mono ?_
  rintro e w1 ⟨rfl, hS⟩
  have HS := Lib.hid hS
  clear hS HL c1
  go_wp2_with fail
  refine (HD.out w1 (HS.out.has HH.out)).mono ?_
  rintro e w2 ⟨v, rfl, ho, hb⟩
  have H1 := HS.out.has HH.out
  have hlt1 : ∀ k, v.ownBlock = some k → w1.heap.size ≤ k := fun k hk => (ho.lt k hk).1
  have hg1 : g < w1.heap.size := by
    obtain ⟨rv, h1, _⟩ := H1
    exact (Array.getElem?_eq_some_iff.1 h1).1
  -- the row's own blocks are old ones
  obtain ⟨F2, hF2, hT2⟩ : ∃ F2 : Nat → Prop, Has w2 F2 (.row g L n) ∧ ∀ i, F2 i → F i := by
    obtain ⟨rv, h1, h2, h3, h4⟩ := H1
    refine ⟨fun i => F i ∧ i < w1.heap.size, ⟨rv, (hb.block g hg1).trans h1, h2.stays fun i hi => hb.block i (h2lt h2 i hi), ⟨h3, hg1⟩, fun i hi => ⟨h4 i hi, h2lt h2 i hi⟩⟩, fun i hi => hi.1⟩
  obtain ⟨_, _, _, c1, _, hf⟩ := hF2.w1
  have f1 := hf 1
  have HOnly : Hid (OnlyS F w w2) := Lib.hid (HS.out.only.trans (OnlyS.of_below hb))
  have HSet := Lib.hid (hF2.rowset (n + k * 8))
  have hne : v.ownBlock ≠ some g := fun e => by have := hlt1 g e; omega
  have ho3 : OwnB 0 (w2.setCell ⟨g, 1, none⟩ (.int .i64 ((n + k * 8 : Nat) : Int))) v (pack L) := (ho.le fun _ _ => Nat.zero_le _).stays fun i hi => heap_setCell_other _ _ _ _ (fun e => hne (by rw [hi, e]))
  obtain ⟨pv, cv, rfl⟩ := ho.toW.shape
  obtain ⟨sv, hsl, hsv⟩ := SlB_from ho3.toW (n / 8) (n / 8 + k) (by omega) HPK.out
  rw [show n / 8 + k - n / 8 = k by omega] at hsv
  have hkl : (((pack L).drop (n / 8)).take k).length = k := by have := HPK.out; simp; omega
  obtain ⟨ps, cs, rfl⟩ := hsv.shape
  have e1 : ((n / 8 : Nat) : Int) = (n : Int) / 8 := by omega
  have e2 : ((n / 8 + k : Nat) : Int) = (n : Int) / 8 + (k : Int) := by omega
  rw [e1, e2] at hsl
  rw [hkl] at hsl hsv
  have HQ : Hid (QBytesPost F g n k L w (.returned (.tuple #[.slice ps k cs, .int .i64 0])) (w2.setCell ⟨g, 1, none⟩ (.int .i64 ((n + k * 8 : Nat) : Int)))) := Lib.hid ⟨ps, cs, rfl, ⟨HOnly.out.trans (HSet.out.only.mono fun i _ hi => hT2 i hi), HSet.out.has.mono fun i hi => by
    have h1 := HOnly.out.size
    rcases hi with hi | hi
    · exact .inl (hT2 i hi)
    · exact .inr ⟨by omega, hi.2⟩⟩, hsv⟩
  clear hsv ho3 hne HSet HOnly hf hF2 hT2 hlt1 H1 ho hb HD HS HH e1 e2 hkl hg1
  generalize (pack L).length = pl at *
  go_wp2_with fail
  rw [HE3.out]
  go_ret2
  exact HQ.out
set_option maxHeartbeats 400000 in
theorem qbytes_lo (w : World) (p : Value) (m : Int) (hm : m < 0) :
    Calls Try.prog 34 #[p, .int .i64 m] w (QPost (.tuple #[.slice none 0 0, .int .i64 1]) w) := by
  have hd : decide (m < 0) = true := by simpa using hm
  go_enter Try.func34, Try.ntmps34
  go_wp2_with fail
  go_ret2
  exact ⟨rfl, Same.refl _⟩
set_option maxHeartbeats 400000 in
theorem qbytes_mid (w : World) (F : Nat → Prop) (g n : Nat) (m : Int) (L : List Bool) (h : Has w F (.row g L n)) (hm : 0 ≤ m) (h8 : n % 8 ≠ 0) :
    Calls Try.prog 34 #[.pointer (some ⟨g, 0, none⟩), .int .i64 m] w (QPost (.tuple #[.slice none 0 0, .int .i64 1]) w) := by
  obtain ⟨_, _, _, c1, _, _⟩ := h.w1
  have hd : decide (m < 0) = false := by simpa using hm
  have hpi : (((n : Int) % 8) != 0) = true := by rw [bne_iff_ne]; omega
  clear h h8
  go_enter Try.func34, Try.ntmps34
  go_wp2_with fail
  go_ret2
  exact ⟨rfl, Same.refl _⟩
set_option maxHeartbeats 400000 in
theorem qbytes_short (w : World) (F : Nat → Prop) (g n : Nat) (m : Int) (L : List Bool) (h : Has w F (.row g L n)) (hn : n ≤ L.length) (hlen : L.length ≤ 1099511627) (hm : 0 ≤ m) (h8 : n % 8 = 0) (hL8 : L.length % 8 = 0) (hk : (L.length : Int) < n + m * 8) :
    Calls Try.prog 34 #[.pointer (some ⟨g, 0, none⟩), .int .i64 m] w (QPost (.tuple #[.slice none 0 0, .int .i64 4]) w) := by
  have HL := Lib.hid (qleft_walk w F g n L h hn hlen)
  obtain ⟨_, _, _, c1, _, _⟩ := h.w1
  have hd : decide (m < 0) = false := by simpa using hm
  have hpi : (n : Int) % 8 = 0 := by omega
  have hl1 : L.length - n ≤ 1099511627 := by omega
  have hl : ((L.length - n : Nat) : Int) / 8 < m := by omega
  generalize L.length - n = left at *
  clear h h8 hL8 hk
  go_enter Try.func34, Try.ntmps34
  go_wp2_with fail
  refine HL.out.mono ?_
  rintro e w1 ⟨rfl, hS⟩
  have HS := Lib.hid hS
  clear hS HL
  go_wp2_with fail
  go_ret2
  exact ⟨rfl, HS.out⟩
end Go.Proofs.Ytggpdkcmihgdeaa
