/-
  The law BitsWrites walked: the frame; what each kind of call's round owes.
-/
import Derived.Test.YtggpdkcmihgdeaaUse2
import Derived.Test.YtggpdkcmihgdeaaReads
import Derived.Test.YtggpdkcmihgdeaaRow7
import Derived.Deep.RegionHeld3
namespace Go.Proofs.Ytggpdkcmihgdeaa
open Go.RowKit Bt

def WritesRel (w : World) (g g3 La : Nat) (v : Value) (wr : World) : Prop := ∃ (i : Nat) (L : List Bool), i ≤ La ∧ i ≤ 60 ∧ v = .int .i64 (i : Int) ∧ L.length ≤ 200 * i ∧ Ws w.heap.size wr [.wr g L, .row g3 L 0] ∧ Below w.heap.size w wr
theorem row_cell {base g3 : Nat} {W : World} {l : List Thing} {L : List Bool} (hW : Ws base W l) (i : Nat) (h2 : l[i]? = some (.row g3 L 0)) : ∃ p cap, W.cell? ⟨g3, 0, none⟩ = some (.slice p L.length cap) := by
  obtain ⟨F2, H2, _⟩ := hW.open i _ h2
  obtain ⟨p, cap, c0, _⟩ := H2.w1
  exact ⟨p, cap, c0⟩
theorem ws_rdone {base g3 : Nat} {W : World} {l : List Thing} {L : List Bool} (hW : Ws base W l) (i : Nat) (hi : l[i]? = some (.row g3 L 0)) (hlen : L.length ≤ 1099511627) :
    Calls Try.prog 22 #[.pointer (some ⟨g3, 0, none⟩)] W (WsSl (pack L) base W l) := by
  obtain ⟨F, hF, _⟩ := hW.open i _ hi
  exact ws_clone hW (rdone_walk W F g3 0 L hF hlen)
theorem take_min20' (bs : List UInt8) (t : Nat) (ht : t = min bs.length 20) : bs.take t = bs.take 20 := by
  by_cases h : bs.length ≤ 20
  · rw [List.take_of_length_le h, List.take_of_length_le (by omega)]
  · rw [show t = 20 by omega]
def WsSl2 (bs : List UInt8) (base : Nat) (w : World) (l : List Thing) (e : Ending) (w' : World) : Prop := ∃ p cap, e = .returned (.slice p bs.length cap) ∧ Ws base w' (l ++ [.sl (.slice p bs.length cap) bs]) ∧ Below w.heap.size w w'
theorem ws_rdone2 {base g3 : Nat} {W : World} {l : List Thing} {L : List Bool} (hW : Ws base W l) (i : Nat) (hi : l[i]? = some (.row g3 L 0)) (hlen : L.length ≤ 1099511627) :
    Calls Try.prog 22 #[.pointer (some ⟨g3, 0, none⟩)] W (WsSl2 (pack L) base W l) := by
  obtain ⟨F, hF, _⟩ := hW.open i _ hi
  refine (rdone_walk W F g3 0 L hF hlen).mono fun e w' ⟨v, he, ho, hb⟩ => ?_
  obtain ⟨p, cap, rfl⟩ := ho.toW.shape
  exact ⟨p, cap, he, hW.add hb (.sl _ (pack L)) (fun k => W.heap.size ≤ k ∧ k < w'.heap.size) ⟨ho.le fun _ _ => Nat.zero_le _, ho.lt⟩ fun k hk => hk, hb⟩
theorem drew_below {W w' : World} {base : Nat} (h : Below W.drew.heap.size W.drew w') (hs : base ≤ W.heap.size) : Below base W w' := ⟨h.os, h.tape, h.output, h.size, fun k hk => h.block k (Nat.lt_of_lt_of_le hk hs)⟩
theorem Has.small {w : World} {F : Nat → Prop} {t : Thing} (h : Has w F t) : Has w (fun k => F k ∧ k < w.heap.size) t := by
  cases t with
  | wr g L => obtain ⟨rv, h1, h2, h3, h4⟩ := h; exact ⟨rv, h1, h2, ⟨h3, (Array.getElem?_eq_some_iff.1 h1).1⟩, fun k hk => ⟨h4 k hk, (h2.lt k hk).2⟩⟩
  | rd g L n => obtain ⟨rv, h1, h2, h3, h4⟩ := h; exact ⟨rv, h1, h2, ⟨h3, (Array.getElem?_eq_some_iff.1 h1).1⟩, fun k hk => ⟨h4 k hk, (h2.lt k hk).2⟩⟩
  | sl v bs => exact ⟨h.1, fun k hk => ⟨h.2 k hk, (h.1.lt k hk).2⟩⟩
  | row g L n => obtain ⟨rv, h1, h2, h3, h4⟩ := h; exact ⟨rv, h1, h2, ⟨h3, (Array.getElem?_eq_some_iff.1 h1).1⟩, fun k hk => ⟨h4 k hk, (h2.lt k hk).2⟩⟩
  | box g cs ty => exact ⟨h.1, h.2, (Array.getElem?_eq_some_iff.1 h.1).1⟩
theorem ws_turn_lt {base : Nat} {w : World} {l : List Thing} {f : FuncId} {args : Array Value} {v : Value} {t u : Thing} (hW : Ws base w l) (i : Nat) (hi : l[i]? = some t)
    (hc : ∀ F, Has w F t → (∀ k, F k → k < w.heap.size) → Calls Try.prog f args w (Turned v F u w)) : Calls Try.prog f args w (WsPost v base w (l.set i u)) := by
  obtain ⟨F, hF, hn⟩ := hW.open i t hi
  exact (hc _ hF.small fun k hk => hk.2).mono fun e w' ⟨he, hT⟩ => ⟨he, hn u w' ⟨hT.only.mono fun _ _ hk => hk.1, hT.has.mono fun k hk => hk.elim (fun h => .inl h.1) .inr⟩⟩
theorem ws_rput {base g3 : Nat} {W : World} {l : List Thing} {L : List Bool} (hW : Ws base W l) (i n K : Nat) (hi : l[i]? = some (.row g3 L 0)) (hlen : L.length + K ≤ 1099511627) (hn : n < 18446744073709551616) (hK : K ≤ 57) (hf : n < 2 ^ K) :
    Calls Try.prog 11 #[.pointer (some ⟨g3, 0, none⟩), .int .u64 (n : Int), .int .i64 (K : Int)] W (WsPost (.int .i64 0) base W (l.set i (.row g3 (L ++ bitsN n K) 0))) :=
  ws_turn hW i hi fun F hF => rput_ok W F g3 0 L n K hF (by omega) hn hK hf
theorem ws_rcode {base g3 : Nat} {W : World} {l : List Thing} {L : List Bool} (hW : Ws base W l) (i n K : Nat) (hi : l[i]? = some (.row g3 L 0)) (hlen : L.length + K ≤ 1099511627) (hn : n < 18446744073709551616) (hK : K ≤ 57) (hf : n < 2 ^ K) :
    Calls Try.prog 13 #[.pointer (some ⟨g3, 0, none⟩), .int .u64 (n : Int), .int .i64 (K : Int)] W (WsPost (.int .i64 0) base W (l.set i (.row g3 (L ++ (bitsN n K).reverse) 0))) :=
  ws_turn_lt hW i hi fun F hF hlt => rcode_ok W F g3 0 L n K hF hlt hlen hn hK hf
theorem ws_below {base : Nat} {W : World} {l : List Thing} {f : FuncId} {args : Array Value} {v : Value} (hW : Ws base W l) (hc : Calls Try.prog f args W (BelowPost v W)) : Calls Try.prog f args W (WsPost v base W l) :=
  hc.mono fun _ _ ⟨he, hb⟩ => ⟨he, hW.later hb, hb.mono hW.size⟩
theorem ws_eq {base : Nat} {W : World} {l : List Thing} {f : FuncId} {args : Array Value} {v : Value} (hW : Ws base W l) (hc : Calls Try.prog f args W fun e w' => e = .returned v ∧ W = w') : Calls Try.prog f args W (WsPost v base W l) :=
  hc.mono fun _ _ ⟨he, hb⟩ => by subst hb; exact ⟨he, hW, Below.refl _ _⟩
theorem rlay_no (w : World) (F : Nat → Prop) (g n0 : Nat) (L : List Bool) (v : Value) (h : Has w F (.row g L n0)) (h8 : L.length % 8 ≠ 0) :
    Calls Try.prog 18 #[.pointer (some ⟨g, 0, none⟩), v] w fun e w' => e = .returned (.int .i64 1) ∧ w = w' := by
  obtain ⟨p, cap, c0, _⟩ := h.w1
  have hpi : (((L.length : Int) % 8) != 0) = true := by rw [bne_iff_ne]; omega
  clear h h8
  generalize L.length = l at *
  go_enter Try.func18, Try.ntmps18
  go_wp2_with fail
  go_ret
  exact ⟨rfl, rfl⟩
def XorRel2 (w : World) (l0 : List Thing) (dv : Value) (dl : Nat) (v : Value) (wr : World) : Prop := ∃ i : Nat, i ≤ dl ∧ v = .int .i64 (i : Int) ∧ ∃ ob : List UInt8, ob.length = dl ∧ Ws w.heap.size wr (l0 ++ [.sl dv ob]) ∧ Below w.heap.size w wr
def CaseOf (k : Nat) (what : Int) : Prop := match k with
  | 0 => what = 0
  | 1 => what = 1
  | 2 => what = 2
  | 3 => what = 3
  | _ => what ≠ 0 ∧ what ≠ 1 ∧ what ≠ 2 ∧ what ≠ 3
theorem caseOf (what : Int) : ∃ k, CaseOf k what := by
  by_cases h0 : what = 0
  · exact ⟨0, h0⟩
  by_cases h1 : what = 1
  · exact ⟨1, h1⟩
  by_cases h2 : what = 2
  · exact ⟨2, h2⟩
  by_cases h3 : what = 3
  · exact ⟨3, h3⟩
  exact ⟨4, h0, h1, h2, h3⟩
set_option maxRecDepth 100000 in
set_option maxHeartbeats 16000000 in
/-- What the walk asks of a round, one kind of call at a time: taken from the walk itself. -/
def Leaf : {P : Nat → Prop // (∀ k, P k) → ∀ (w : World) (pa : Option Addr) (ca : Nat) (acts : List A) (_ : AsAt w (.slice pa acts.length ca) acts) (_ : acts.length ≤ 9223372036854775807), Calls Try.prog 3 #[.slice pa acts.length ca] w (BoolPost true w)} := by
  refine ⟨?P, fun hP => ?_⟩
  rotate_left
  · intro w pa ca acts ha hlen
    have HW0 := Lib.hid (Ws.nil w)
    have HA := Lib.hid ha
    obtain ⟨La, hla⟩ : ∃ La, La = acts.length := ⟨_, rfl⟩
    rw [← hla] at HA hlen ⊢
    have HLA := Lib.hid hla
    clear ha hla
    go_enter Try.func3, Try.ntmps3
    go_wp2_with fail
    refine (ws_newwriter HW0.out).mono ?_
    rintro e w1 ⟨g, rfl, hW, hb⟩
    have hwb : Below w1.heap.size w1 (w1.alloc (.cells #[.slice none 0 0, .int .i64 0] 28)) := (Below.refl _ _).alloc (Nat.le_refl _) _
    have HW1 : Hid (Ws w.heap.size (w1.alloc (.cells #[.slice none 0 0, .int .i64 0] 28)) [.wr g [], .row w1.heap.size [] 0]) := Lib.hid (hW.add hwb _ _ (made_row w1) fun k hk => by
      have hk' : k = w1.heap.size := hk
      subst hk'
      simp)
    have HB1 := Lib.hid (hb.trans (hwb.mono hb.size))
    clear hW hb hwb HW0
    go_wp2_with fail
    generalize w1.alloc (.cells #[.slice none 0 0, .int .i64 0] 28) = w2 at *
    generalize w1.heap.size = g3 at *
    go_loopw [5, 6, 7, 8, 9, 10, 11, 12, 13, 19] (fun _ _ _ _ _ _ _ _ _ v wr => WritesRel w g g3 La v wr) (fun _ _ _ _ _ _ _ _ _ v _ => 60 - (intOf v).toNat)
    case atStart => exact ⟨0, [], Nat.zero_le _, by omega, rfl, by simp, HW1.out, HB1.out⟩
    case round =>
      clear HW1 HB1
      obtain ⟨j, L, hj, hj60, rfl, hLl, hW, hb⟩ := hrel
      by_cases hlt : j < La ∧ j < 60
      · obtain ⟨hlt1, hlt2⟩ := hlt
        have hji : (j : Int) < (La : Int) := by omega
        have hj6 : ((j : Int) == 60) = false := by rw [beq_eq_false_iff_ne]; omega
        have HAr := Lib.hid (HA.out.below hb)
        obtain ⟨x, hx⟩ : ∃ x, acts[j]? = some x := ⟨acts[j]'(by rw [← HLA.out]; exact hlt1), List.getElem?_eq_getElem _⟩
        obtain ⟨ga, oa, ca', e1, e2, e3⟩ | ⟨e1, e2⟩ := HAr.out
        rotate_left
        · have := HLA.out; rw [e2] at this; simp at this; omega
        obtain ⟨rfl, e4, rfl⟩ : pa = some ⟨ga, oa, none⟩ ∧ La = acts.length ∧ ca = ca' := by simpa using e1
        obtain ⟨hn0, c0, c1, c2, c3, _⟩ := e3 j x hx
        obtain ⟨what, m, N, bv, bb⟩ := x
        simp only at hn0 c0 c1 c2 c3
        have hsx : SlW w bv bb := HA.out.sl j _ hx
        obtain ⟨pb, cb, rfl⟩ := hsx.shape
        obtain ⟨tt, ht⟩ : ∃ tt, tt = min bb.length 20 := ⟨_, rfl⟩
        have hti : min (bb.length : Int) 20 = (tt : Int) := by omega
        have sl2 := slice_to pb bb.length cb tt bb hsx (by omega)
        have HSB : Hid (SlW w (.slice pb tt cb) (bb.take 20)) := Lib.hid (by rw [← take_min20' bb tt ht]; exact hsx.take tt (by omega))
        have HBL : Hid ((bb.take 20).length = tt) := Lib.hid (by simp; omega)
        have ht20 : tt ≤ 20 := by omega
        have hwb : Below wr.heap.size wr (wr.alloc (.cells #[.int .i64 what, .int .i64 m, .int .u64 (N : Int), .slice pb bb.length cb] 32)) := (Below.refl _ _).alloc (Nat.le_refl _) _
        have HW5 := Lib.hid (hW.add hwb (.box wr.heap.size #[.int .i64 what, .int .i64 m, .int .u64 (N : Int), .slice pb bb.length cb] 32) (fun k => k = wr.heap.size) ⟨heap_alloc_new wr _, rfl⟩ (fun k hk => by
          have hk' : k = wr.heap.size := hk
          subst hk'
          simp))
        have HB5 := Lib.hid (hb.trans (hwb.mono hb.size))
        have HN0 := Lib.hid hn0
        have HLL : Hid (L.length ≤ 200 * j ∧ j < 60) := Lib.hid ⟨hLl, hlt2⟩
        have HQQ : Hid (∀ L' w', L'.length ≤ L.length + 200 → Ws w.heap.size w' [.wr g L', .row g3 L' 0] → Below w.heap.size w w' → WritesRel w g g3 La (.int .i64 ((j : Int) + 1)) w' ∧ 60 - (intOf (.int .i64 ((j : Int) + 1))).toNat < 60 - (intOf (.int .i64 (j : Int))).toNat) := Lib.hid fun L' w' h1 h2 h3 => ⟨⟨j + 1, L', hlt1, hlt2, by go_num, by omega, h2, h3⟩, by simp [intOf]; omega⟩
        clear e1 e2 e3 e4 hx HAr hW hb hwb hn0 hlt1 hsx ht hLl
        generalize bb.take 20 = B at *
        generalize bb.length = lb at *
        obtain ⟨k, hk⟩ := caseOf what
        have HK := Lib.hid hk
        clear hk
        rename_i K aK right
        clear aK right
        revert w ca acts La w1 g K w2 g3 wr u2 u5 u6 u7 u8 u9 u10 u11 u12 u13 u20 u21 u22 u23 u24 u25 u26 u27 u28 u29 u30 u31 u32 u33 u34 u35 u36 u37 u38 u39 u40 u41 u42 u43 u44 u45 u46 u47 u48 u49 u50 u51 u52 u53 u54 u55 u56 u57 u58 u59 u60 u61 u62 u63 u64 u65 u66 u67 u68 u69 u70 u71 u72 u73 u74 u75 u76 u77 u78 u79 u80 u81 u82 u83 u84 u85 u86 u87 u88 u89 u90 u91 u92 u93 u94 u95 u96 u97 u98 u99 u100 u101 u102 u103 u104 u105 u106 u107 u108 u109 u110 u111 u112 u113 u114 u115 u116 u117 u118 u119 u120 u121 u122 u123 u124 u125 u126 u127 u128 u129 u130 u131 u132 u133 u134 u135 u136 u137 u138 j L ga oa what m N bb pb cb tt B lb
        exact hP k
      · by_cases hl1 : j < La
        · have h60 : (60 : Nat) ≤ j := by omega
          obtain rfl : j = 60 := by omega
          have hji : (60 : Int) < (La : Int) := by omega
          have HAr := Lib.hid (HA.out.below hb)
          obtain ⟨x, hx⟩ : ∃ x, acts[60]? = some x := ⟨acts[60]'(by rw [← HLA.out]; exact hl1), List.getElem?_eq_getElem _⟩
          obtain ⟨ga, oa, ca', e1, e2, e3⟩ | ⟨e1, e2⟩ := HAr.out
          rotate_left
          · have := HLA.out; rw [e2] at this; simp at this; omega
          obtain ⟨rfl, e4, rfl⟩ : pa = some ⟨ga, oa, none⟩ ∧ La = acts.length ∧ ca = ca' := by simpa using e1
          obtain ⟨hn0, c0, c1, c2, c3, _⟩ := e3 60 x hx
          obtain ⟨what, m, N, bv, bb⟩ := x
          simp only at hn0 c0 c1 c2 c3
          have hsx : SlW w bv bb := HA.out.sl 60 _ hx
          obtain ⟨pb, cb, rfl⟩ := hsx.shape
          have HBx : Hid (Below w.heap.size w (wr.alloc (.cells #[.int .i64 what, .int .i64 m, .int .u64 (N : Int), .slice pb bb.length cb] 32))) := Lib.hid (hb.trans (((Below.refl _ _).alloc (Nat.le_refl _) _).mono hb.size))
          clear e1 e2 e3 e4 hx HAr hW hb hn0 hlt h60 hl1 hsx
          generalize bb.length = lb at *
          go_wp2_with fail
          refine (wakes_walk _).mono ?_
          rintro e we ⟨rfl, hb⟩
          have HQ : Hid (BoolPost true w (.returned (.bool true)) we) := Lib.hid ⟨rfl, HBx.out.trans (hb.mono HBx.out.size)⟩
          clear hb HBx
          go_wp2_with fail
          go_ret
          exact HQ.out
        · have hji : (La : Int) ≤ (j : Int) := by omega
          have HBx := Lib.hid hb
          clear hb hW hlt
          go_wp2_with fail
          refine (wakes_walk wr).mono ?_
          rintro e we ⟨rfl, hb⟩
          have HQ : Hid (BoolPost true w (.returned (.bool true)) we) := Lib.hid ⟨rfl, HBx.out.trans (hb.mono HBx.out.size)⟩
          clear hb HBx
          go_wp2_with fail
          go_ret
          exact HQ.out
end Go.Proofs.Ytggpdkcmihgdeaa
