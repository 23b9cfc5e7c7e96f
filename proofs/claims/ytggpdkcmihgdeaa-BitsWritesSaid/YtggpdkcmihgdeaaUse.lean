/-
  The calls' contracts over things of the call's own; the law's own wakes.
-/
import Derived.Test.YtggpdkcmihgdeaaWr
import Derived.Test.YtggpdkcmihgdeaaRd3
namespace Go.Proofs.Ytggpdkcmihgdeaa
open Go.RowKit Bt

def WsPost (v : Value) (base : Nat) (w : World) (l : List Thing) (e : Ending) (w' : World) : Prop := e = .returned v ∧ Ws base w' l ∧ Below base w w'
theorem ws_turn {base : Nat} {w : World} {l : List Thing} {f : FuncId} {args : Array Value} {v : Value} {t u : Thing} (hW : Ws base w l) (i : Nat) (hi : l[i]? = some t)
    (hc : ∀ F, Has w F t → Calls Try.prog f args w (Turned v F u w)) : Calls Try.prog f args w (WsPost v base w (l.set i u)) := by
  obtain ⟨F, hF, hn⟩ := hW.open i t hi
  exact (hc F hF).mono fun e w' ⟨he, hT⟩ => ⟨he, hn u w' hT⟩
theorem ws_same {base : Nat} {w : World} {l : List Thing} {f : FuncId} {args : Array Value} {v : Value} {t : Thing} (hW : Ws base w l) (i : Nat) (hi : l[i]? = some t)
    (hc : ∀ F, Has w F t → Calls Try.prog f args w (QPost v w)) : Calls Try.prog f args w (WsPost v base w l) := by
  obtain ⟨F, hF, _⟩ := hW.open i t hi
  exact (hc F hF).mono fun e w' ⟨he, hS⟩ => ⟨he, hW.later (hS.below _), hS.below _⟩
theorem ws_keep {base : Nat} {w : World} {l : List Thing} {f : FuncId} {args : Array Value} {v : Value} {t : Thing} (hW : Ws base w l) (i : Nat) (hi : l[i]? = some t)
    (hc : ∀ F, Has w F t → Calls Try.prog f args w fun e w' => e = .returned v ∧ w = w') : Calls Try.prog f args w fun e w' => e = .returned v ∧ w = w' := by
  obtain ⟨F, hF, _⟩ := hW.open i t hi
  exact hc F hF
def WsSl (bs : List UInt8) (base : Nat) (w : World) (l : List Thing) (e : Ending) (w' : World) : Prop := ∃ p cap, e = .returned (.slice p bs.length cap) ∧ Ws base w' (l ++ [.sl (.slice p bs.length cap) bs]) ∧ Below base w w'
theorem ws_clone {base : Nat} {w : World} {l : List Thing} {f : FuncId} {args : Array Value} {bs : List UInt8} (hW : Ws base w l)
    (hc : Calls Try.prog f args w (ClonePost bs w)) : Calls Try.prog f args w (WsSl bs base w l) := by
  refine hc.mono fun e w' ⟨v, he, ho, hb⟩ => ?_
  obtain ⟨p, cap, rfl⟩ := ho.toW.shape
  exact ⟨p, cap, he, hW.add hb (.sl _ bs) (fun k => w.heap.size ≤ k ∧ k < w'.heap.size) ⟨ho.le fun _ _ => Nat.zero_le _, ho.lt⟩ fun k hk => hk, hb.mono hW.size⟩
def WsNew (t : Nat → Thing) (base : Nat) (w : World) (l : List Thing) (e : Ending) (w' : World) : Prop := ∃ g, e = .returned (.pointer (some ⟨g, 0, none⟩)) ∧ Ws base w' (l ++ [t g]) ∧ Below base w w'
theorem ws_newreader {base : Nat} {w : World} {l : List Thing} {v : Value} {bs : List UInt8} (hW : Ws base w l) (hs : SlW w v bs) (hlen : bs.length ≤ 1099511627776) :
    Calls Try.prog 26 #[v] w (WsNew (fun g => .rd g bs 0) base w l) :=
  (newreader_walk w v bs hs hlen).mono fun _ _ ⟨g, he, hb, hh⟩ => ⟨g, he, hW.add hb _ _ hh fun _ hk => hk, hb.mono hW.size⟩
theorem ws_newwriter {base : Nat} {w : World} {l : List Thing} (hW : Ws base w l) :
    Calls Try.prog 9 #[] w (WsNew (fun g => .wr g []) base w l) :=
  (newwriter_walk w).mono fun e w' ⟨he, hw⟩ => by
    subst hw
    have hb : Below w.heap.size w (w.alloc (.cells #[.bool true, .slice none 0 0, .int .i64 0] 67)) := (Below.refl _ _).alloc (Nat.le_refl _) _
    exact ⟨_, he, hW.add hb _ _ (made_wr w) fun k hk => by
      have hk' : k = w.heap.size := hk
      subst hk'
      simp, hb.mono hW.size⟩
theorem ws_put {base : Nat} {w : World} {l : List Thing} (hW : Ws base w l) (i g : Nat) (L : List Bool) (n K : Nat) (hi : l[i]? = some (.wr g L)) (hlen : L.length + K ≤ 1099511627776) (hn : n < 18446744073709551616) (hK : K ≤ 57) (hf : n < 2 ^ K) :
    Calls Try.prog 10 #[.pointer (some ⟨g, 0, none⟩), .int .u64 (n : Int), .int .i64 (K : Int)] w (WsPost (.int .i64 0) base w (l.set i (.wr g (L ++ bitsN n K)))) :=
  ws_turn hW i hi fun F hF => put_ok w F g L n K hF hlen hn hK hf
theorem ws_code {base : Nat} {w : World} {l : List Thing} (hW : Ws base w l) (i g : Nat) (L : List Bool) (n K : Nat) (hi : l[i]? = some (.wr g L)) (hlen : L.length + K ≤ 1099511627776) (hn : n < 18446744073709551616) (hK : K ≤ 57) (hf : n < 2 ^ K) :
    Calls Try.prog 12 #[.pointer (some ⟨g, 0, none⟩), .int .u64 (n : Int), .int .i64 (K : Int)] w (WsPost (.int .i64 0) base w (l.set i (.wr g (L ++ (bitsN n K).reverse)))) :=
  ws_turn hW i hi fun F hF => code_ok w F g L n K hF hlen hn hK hf
theorem ws_len {base : Nat} {w : World} {l : List Thing} (hW : Ws base w l) (i g : Nat) (L : List Bool) (hi : l[i]? = some (.wr g L)) :
    Calls Try.prog 20 #[.pointer (some ⟨g, 0, none⟩)] w fun e w' => e = .returned (.int .i64 (L.length : Int)) ∧ w = w' :=
  ws_keep hW i hi fun F hF => wlen_walk w F g L hF
theorem ws_done {base : Nat} {w : World} {l : List Thing} (hW : Ws base w l) (i g : Nat) (L : List Bool) (hi : l[i]? = some (.wr g L)) (hlen : L.length ≤ 1099511627776) :
    Calls Try.prog 19 #[.pointer (some ⟨g, 0, none⟩)] w (WsSl (pack L) base w l) := by
  obtain ⟨F, hF, _⟩ := hW.open i _ hi
  exact ws_clone hW (done_walk w F g L hF hlen)
theorem ws_get {base : Nat} {w : World} {l : List Thing} (hW : Ws base w l) (i g n k : Nat) (bs : List UInt8) (hi : l[i]? = some (.rd g bs n)) (hk : n + k ≤ 8 * bs.length) (hlen : bs.length ≤ 1099511627776) (hK : k ≤ 57) :
    Calls Try.prog 28 #[.pointer (some ⟨g, 0, none⟩), .int .i64 (k : Int)] w (WsPost (.tuple #[.int .u64 (num (seg bs n k) : Nat), .int .i64 0]) base w (l.set i (.rd g bs (n + k)))) :=
  ws_turn hW i hi fun F hF => get_ok w F g n k bs hF hk hlen hK
theorem ws_get_no {base : Nat} {w : World} {l : List Thing} (hW : Ws base w l) (i g n : Nat) (m : Int) (bs : List UInt8) (hi : l[i]? = some (.rd g bs n)) (hn : n ≤ 8 * bs.length) (hlen : bs.length ≤ 1099511627776) (hr : rerr bs n m ≠ 0) :
    Calls Try.prog 28 #[.pointer (some ⟨g, 0, none⟩), .int .i64 m] w (WsPost (.tuple #[.int .u64 0, .int .i64 (rerr bs n m : Nat)]) base w l) :=
  ws_same hW i hi fun F hF => get_no w _ m _ (by rw [bne_iff_ne]; omega) (rrefusal_err w F g n m bs hF hn hlen)
theorem ws_left {base : Nat} {w : World} {l : List Thing} (hW : Ws base w l) (i g n : Nat) (bs : List UInt8) (hi : l[i]? = some (.rd g bs n)) (hn : n ≤ 8 * bs.length) (hlen : bs.length ≤ 1099511627776) :
    Calls Try.prog 37 #[.pointer (some ⟨g, 0, none⟩)] w (WsPost (.int .i64 ((8 * bs.length - n : Nat) : Int)) base w l) :=
  ws_same hW i hi fun F hF => rleft_walk w F g n bs hF hn hlen
def BoolPost (b : Bool) (w : World) (e : Ending) (w' : World) : Prop := e = .returned (.bool b) ∧ Below w.heap.size w w'
theorem slw_lit (w : World) (x : UInt8) (n : Int) (hx : n = bi x) : SlW (w.alloc (.cells #[.int .u8 n] 5)) (.slice (some ⟨w.heap.size, 0, none⟩) 1 1) [x] :=
  .inl ⟨w.heap.size, 0, 1, rfl, by simp, fun i hi => by
    obtain rfl : i = 0 := by simp at hi; omega
    rw [Nat.zero_add, hx]
    exact (cell_of_row _ _ _ _ _ _ (heap_alloc_new _ _)).trans rfl⟩
set_option maxRecDepth 100000 in
set_option maxHeartbeats 1000000 in
theorem wakes_walk (w : World) : Calls Try.prog 25 #[] w (BoolPost true w) := by
  have HW0 := Lib.hid (Ws.nil w)
  go_enter Try.func25, Try.ntmps25
  go_wp2_with fail
  refine (ws_newwriter HW0.out).mono ?_
  rintro e w1 ⟨g, rfl, hW, hb1⟩
  have HW1 := Lib.hid hW
  have HB1 := Lib.hid hb1
  clear hW hb1 HW0
  go_wp2_with fail
  refine (ws_put HW1.out 0 g [] 5 3 rfl (by decide) (by decide) (by decide) (by decide)).mono ?_
  rintro e w2 ⟨rfl, hW, hb⟩
  have HW2 := Lib.hid hW
  have HB2 := Lib.hid (HB1.out.trans hb)
  clear hW hb HW1 HB1
  go_wp2_with fail
  refine (ws_put HW2.out 0 g _ 1 1 rfl (by decide) (by decide) (by decide) (by decide)).mono ?_
  rintro e w3 ⟨rfl, hW, hb⟩
  have HW3 := Lib.hid hW
  have HB3 := Lib.hid (HB2.out.trans hb)
  clear hW hb HW2 HB2
  go_wp2_with fail
  refine (ws_code HW3.out 0 g _ 1 3 rfl (by decide) (by decide) (by decide) (by decide)).mono ?_
  rintro e w4 ⟨rfl, hW, hb⟩
  have HW4 : Hid (Ws w.heap.size w4 [.wr g [true, false, true, true, false, false, true]]) := Lib.hid hW
  have HB4 := Lib.hid (HB3.out.trans hb)
  clear hW hb HW3 HB3
  go_wp2_with fail
  refine (ws_len HW4.out 0 g _ rfl).mono ?_
  rintro e w' ⟨rfl, rfl⟩
  go_wp2_with fail
  refine (ws_done HW4.out 0 g _ rfl (by decide)).mono ?_
  rintro e w5 ⟨p, cap, rfl, hW, hb⟩
  have HW5 : Hid (Ws w.heap.size w5 [.wr g [true, false, true, true, false, false, true], .sl (.slice p 1 cap) [77]]) := Lib.hid hW
  have HB5 := Lib.hid (HB4.out.trans hb)
  clear hW hb HW4 HB4
  rw [show (pack [true, false, true, true, false, false, true]).length = 1 from rfl]
  go_wp2_with fail
  refine (ws_newreader HW5.out (HW5.out.sl 1 _ _ rfl) (by decide)).mono ?_
  rintro e w6 ⟨g2, rfl, hW, hb⟩
  have HW6 := Lib.hid hW
  have HB6 := Lib.hid (HB5.out.trans hb)
  clear hW hb HW5 HB5
  go_wp2_with fail
  refine (ws_get HW6.out 2 g2 0 3 [77] rfl (by decide) (by decide) (by decide)).mono ?_
  rintro e w7 ⟨rfl, hW, hb⟩
  have HW7 := Lib.hid hW
  have HB7 := Lib.hid (HB6.out.trans hb)
  clear hW hb HW6 HB6
  rw [show ((num (seg [77] 0 3) : Nat) : Int) = 5 from by decide]
  go_wp2_with fail
  refine (ws_get HW7.out 2 g2 3 4 [77] rfl (by decide) (by decide) (by decide)).mono ?_
  rintro e w8 ⟨rfl, hW, hb⟩
  have HW8 := Lib.hid hW
  have HB8 := Lib.hid (HB7.out.trans hb)
  clear hW hb HW7 HB7
  rw [show ((num (seg [77] 3 4) : Nat) : Int) = 9 from by decide]
  go_wp2_with fail
  refine (ws_get_no HW8.out 2 g2 7 2 [77] rfl (by decide) (by decide) (by decide)).mono ?_
  rintro e w9 ⟨rfl, hW, hb⟩
  have HW9 := Lib.hid hW
  have HB9 := Lib.hid (HB8.out.trans hb)
  clear hW hb HW8 HB8
  rw [show ((rerr [77] 7 2 : Nat) : Int) = 4 from by decide]
  go_wp2_with fail
  have HW10 := Lib.hid (HW9.out.later ((Below.refl _ _).alloc (Nat.le_refl _) (.cells #[.int .u8 77] 5)))
  have HB10 := Lib.hid (HB9.out.alloc HB9.out.size (.cells #[.int .u8 77] 5))
  refine (equal_walk _ _ _ [77] [77] (HW10.out.sl 1 _ _ rfl) (slw_lit w9 77 77 rfl)).mono ?_
  rintro e w' ⟨rfl, rfl⟩
  rw [show (([77] : List UInt8) == [77]) = true from rfl]
  clear HB9 HW9
  generalize w9.alloc (.cells #[.int .u8 77] 5) = w10 at *
  go_wp2_with fail
  refine (ws_left HW10.out 2 g2 7 [77] rfl (by decide) (by decide)).mono ?_
  rintro e w11 ⟨rfl, hW, hb⟩
  have HB11 := Lib.hid (HB10.out.trans hb)
  clear hW hb HW10 HB10
  rw [show ((8 * ([77] : List UInt8).length - 7 : Nat) : Int) = 1 from rfl]
  go_wp2_with fail
  go_ret
  exact ⟨rfl, HB11.out⟩
end Go.Proofs.Ytggpdkcmihgdeaa
