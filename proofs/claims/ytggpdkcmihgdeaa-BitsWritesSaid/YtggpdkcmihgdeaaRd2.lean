/-
  Contracts of bits.Reader's Get, Peek, Skip, Align, Bytes, and NewReader.
-/
import Derived.Test.YtggpdkcmihgdeaaRd
namespace Go.Proofs.Ytggpdkcmihgdeaa
open Go.RowKit Bt

set_option maxRecDepth 100000 in
set_option maxHeartbeats 400000 in
theorem get_ok (w : World) (F : Nat → Prop) (g n k : Nat) (bs : List UInt8) (h : Has w F (.rd g bs n)) (hk : n + k ≤ 8 * bs.length) (hlen : bs.length ≤ 1099511627776) (hK : k ≤ 57) :
    Calls Try.prog 28 #[.pointer (some ⟨g, 0, none⟩), .int .i64 (k : Int)] w (Turned (.tuple #[.int .u64 (num (seg bs n k) : Nat), .int .i64 0]) F (.rd g bs (n + k)) w) := by
  have HR := Lib.hid (rrefusal_ok w F g n k bs h hk hlen hK)
  have HH := Lib.hid h
  have HX := Lib.hid hk
  have HL := Lib.hid hlen
  have HK := Lib.hid hK
  have hb : (n : Int) + (k : Int) ≤ 8796093022208 := by omega
  clear h hk hlen hK
  go_enter Try.func28, Try.ntmps28
  go_wp2_with fail
  refine HR.out.mono ?_
  rintro e w1 ⟨rfl, hS⟩
  have HS := Lib.hid hS
  clear hS
  have H1 := Lib.hid (HS.out.has HH.out)
  have c2 := H1.out.r2
  have f2 := H1.out.rfree 2
  go_wp2_with fail
  refine (number_walk w1 F g n k bs H1.out HX.out HL.out HK.out).mono ?_
  rintro e w' ⟨rfl, rfl⟩
  generalize num (seg bs n k) = x at *
  have HT := Lib.hid (HS.out.before (H1.out.rset (n + k)))
  clear HS H1 HX HL HK HH
  go_wp2_with fail
  go_ret2
  exact ⟨rfl, HT.out⟩
set_option maxHeartbeats 400000 in
theorem get_no (w : World) (p : Value) (m c : Int) (hc : (c != 0) = true) (HR : Calls Try.prog 47 #[p, .int .i64 m] w (QPost (.int .i64 c) w)) :
    Calls Try.prog 28 #[p, .int .i64 m] w (QPost (.tuple #[.int .u64 0, .int .i64 c]) w) := by
  have HR := Lib.hid HR
  go_enter Try.func28, Try.ntmps28
  go_wp2_with fail
  refine HR.out.mono ?_
  rintro e w1 ⟨rfl, hS⟩
  have HS := Lib.hid hS
  clear hS
  go_wp2_with fail
  go_ret2
  exact ⟨rfl, HS.out⟩
set_option maxHeartbeats 400000 in
theorem skip_ok (w : World) (F : Nat → Prop) (g n k : Nat) (bs : List UInt8) (h : Has w F (.rd g bs n)) (hk : n + k ≤ 8 * bs.length) (hlen : bs.length ≤ 1099511627776) (hK : k ≤ 57) :
    Calls Try.prog 30 #[.pointer (some ⟨g, 0, none⟩), .int .i64 (k : Int)] w (Turned (.int .i64 0) F (.rd g bs (n + k)) w) := by
  have HR := Lib.hid (rrefusal_ok w F g n k bs h hk hlen hK)
  have HH := Lib.hid h
  have hb : (n : Int) + (k : Int) ≤ 8796093022208 := by omega
  clear h hk hlen hK
  go_enter Try.func30, Try.ntmps30
  go_wp2_with fail
  refine HR.out.mono ?_
  rintro e w1 ⟨rfl, hS⟩
  have HS := Lib.hid hS
  clear hS
  have H1 := Lib.hid (HS.out.has HH.out)
  have c2 := H1.out.r2
  have f2 := H1.out.rfree 2
  have HT := Lib.hid (HS.out.before (H1.out.rset (n + k)))
  clear HS H1 HH
  go_wp2_with fail
  go_ret
  exact ⟨rfl, HT.out⟩
set_option maxHeartbeats 400000 in
theorem skip_no (w : World) (p : Value) (m c : Int) (hc : (c != 0) = true) (HR : Calls Try.prog 47 #[p, .int .i64 m] w (QPost (.int .i64 c) w)) :
    Calls Try.prog 30 #[p, .int .i64 m] w (QPost (.int .i64 c) w) := by
  have HR := Lib.hid HR
  go_enter Try.func30, Try.ntmps30
  go_wp2_with fail
  refine HR.out.mono ?_
  rintro e w1 ⟨rfl, hS⟩
  have HS := Lib.hid hS
  clear hS
  go_wp2_with fail
  go_ret
  exact ⟨rfl, HS.out⟩
/-- How many bits Peek tells. -/
def there (bs : List UInt8) (n : Nat) (m : Int) : Nat := min (brt m 57) (8 * bs.length - n)
theorem there_le (bs : List UInt8) (n : Nat) (m : Int) : there bs n m ≤ 57 ∧ there bs n m ≤ 8 * bs.length - n := by
  have := brt_le m 57
  unfold there; omega
set_option maxRecDepth 100000 in
set_option maxHeartbeats 400000 in
theorem peek_walk (w : World) (F : Nat → Prop) (g n : Nat) (m : Int) (bs : List UInt8) (h : Has w F (.rd g bs n)) (hn : n ≤ 8 * bs.length) (hlen : bs.length ≤ 1099511627776) :
    Calls Try.prog 35 #[.pointer (some ⟨g, 0, none⟩), .int .i64 m] w (QPost (.tuple #[.int .u64 (num (seg bs n (there bs n m)) : Nat), .int .i64 (there bs n m : Nat)]) w) := by
  have HU := Lib.hid (rusable_cell w g true h.r0)
  have HB := Lib.hid (brought_walk m 57 w)
  have HL := Lib.hid (rleft_walk w F g n bs h hn hlen)
  have HE : Hid (min ((brt m 57 : Nat) : Int) ((8 * bs.length - n : Nat) : Int) = ((there bs n m : Nat) : Int)) := Lib.hid (by unfold there; omega)
  have ht := there_le bs n m
  generalize brt m 57 = b at *
  generalize hd : 8 * bs.length - n = left at *
  have HN := Lib.hid fun w1 h1 => number_walk w1 F g n (there bs n m) bs h1 (by omega) hlen (by omega)
  generalize there bs n m = t at *
  have HH := Lib.hid h
  clear h hn hlen ht hd
  go_enter Try.func35, Try.ntmps35
  go_wp2_with fail
  refine HU.out.mono ?_
  rintro e w' ⟨rfl, rfl⟩
  go_wp2_with fail
  refine HB.out.mono ?_
  rintro e w' ⟨rfl, rfl⟩
  go_wp2_with fail
  refine HL.out.mono ?_
  rintro e w1 ⟨rfl, hS⟩
  have HS := Lib.hid hS
  clear hS
  go_wp2_with fail
  rw [HE.out]
  refine (HN.out w1 (HS.out.has HH.out)).mono ?_
  rintro e w' ⟨rfl, rfl⟩
  go_wp2_with fail
  go_ret2
  exact ⟨rfl, HS.out⟩
set_option maxHeartbeats 400000 in
theorem peek_dead (w : World) (p : Value) (m : Int) (HU : Calls Try.prog 50 #[p] w fun e w' => e = .returned (.bool false) ∧ w = w') :
    Calls Try.prog 35 #[p, .int .i64 m] w fun e w' => e = .returned (.tuple #[.int .u64 0, .int .i64 0]) ∧ w = w' := by
  have HU := Lib.hid HU
  go_enter Try.func35, Try.ntmps35
  go_wp2_with fail
  refine HU.out.mono ?_
  rintro e w' ⟨rfl, rfl⟩
  go_wp2_with fail
  go_ret2
  exact ⟨rfl, rfl⟩
set_option maxHeartbeats 400000 in
theorem ralign_walk (w : World) (F : Nat → Prop) (g n : Nat) (bs : List UInt8) (h : Has w F (.rd g bs n)) (hn : n ≤ 8 * bs.length) (hlen : bs.length ≤ 1099511627776) :
    Calls Try.prog 31 #[.pointer (some ⟨g, 0, none⟩)] w (Turned (.int .i64 0) F (.rd g bs ((n + 7) / 8 * 8)) w) := by
  have HU := Lib.hid (rusable_cell w g true h.r0)
  have c2 := h.r2
  have f2 := h.rfree 2
  have hn' : (n : Int) ≤ 8796093022208 := by omega
  have HT := Lib.hid (h.rset ((n + 7) / 8 * 8))
  have HE : Hid (((n : Int) + 8 - 1) / 8 * 8 = (((n + 7) / 8 * 8 : Nat) : Int)) := Lib.hid (by omega)
  clear h hn hlen
  go_enter Try.func31, Try.ntmps31
  go_wp2_with fail
  refine HU.out.mono ?_
  rintro e w' ⟨rfl, rfl⟩
  go_wp2_with fail
  rw [HE.out]
  go_ret
  exact ⟨rfl, HT.out⟩
set_option maxHeartbeats 400000 in
theorem ralign_dead (w : World) (p : Value) (HU : Calls Try.prog 50 #[p] w fun e w' => e = .returned (.bool false) ∧ w = w') :
    Calls Try.prog 31 #[p] w fun e w' => e = .returned (.int .i64 2) ∧ w = w' := by
  have HU := Lib.hid HU
  go_enter Try.func31, Try.ntmps31
  go_wp2_with fail
  refine HU.out.mono ?_
  rintro e w' ⟨rfl, rfl⟩
  go_wp2_with fail
  go_ret
  exact ⟨rfl, rfl⟩
theorem made_rd {w w1 : World} {v : Value} {bs : List UInt8} (ho : OwnB w.heap.size w1 v bs) (hb : Below w.heap.size w w1) : Has (w1.alloc (.cells #[.bool true, v, .int .i64 0] 69)) (fun k => w.heap.size ≤ k ∧ k < w1.heap.size + 1) (.rd w1.heap.size bs 0) := by
  refine ⟨v, (heap_alloc_new _ _).trans rfl, (ho.le fun _ _ => Nat.zero_le _).alloc _, ⟨hb.size, by omega⟩, fun k hk => ?_⟩
  have := ho.lt k hk
  omega
def NewPost (bs : List UInt8) (w : World) (e : Ending) (w' : World) : Prop := ∃ g, e = .returned (.pointer (some ⟨g, 0, none⟩)) ∧ Below w.heap.size w w' ∧ Has w' (fun k => w.heap.size ≤ k ∧ k < w'.heap.size) (.rd g bs 0)
set_option maxHeartbeats 400000 in
theorem newreader_walk (w : World) (v : Value) (bs : List UInt8) (hs : SlW w v bs) (hlen : bs.length ≤ 1099511627776) :
    Calls Try.prog 26 #[v] w (NewPost bs w) := by
  have HC := Lib.hid (clone_walk w v bs hs hlen)
  clear hs hlen
  go_enter Try.func26, Try.ntmps26
  go_wp2_with fail
  refine HC.out.mono ?_
  rintro e w1 ⟨v', rfl, ho, hb⟩
  have HQ : Hid (NewPost bs w (.returned (.pointer (some ⟨w1.heap.size, 0, none⟩))) (w1.alloc (.cells #[.bool true, v', .int .i64 0] 69))) := Lib.hid ⟨_, rfl, hb.alloc hb.size _, by simpa using made_rd ho hb⟩
  obtain ⟨p, cap, rfl⟩ := ho.toW.shape
  clear ho hb
  go_wp2_with fail
  go_ret
  exact HQ.out
end Go.Proofs.Ytggpdkcmihgdeaa
