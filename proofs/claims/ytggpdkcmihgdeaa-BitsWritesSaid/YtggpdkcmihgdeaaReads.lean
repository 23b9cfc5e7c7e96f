/-
  The law BitsReads walked.
-/
import Derived.Test.YtggpdkcmihgdeaaUse2
import Derived.Test.YtggpdkcmihgdeaaRow6
import Derived.Test.YtggpdkcmihgdeaaActs
namespace Go.Proofs.Ytggpdkcmihgdeaa
open Go.RowKit Bt

theorem seg_segL (bs : List UInt8) (n k : Nat) (h : n + k ≤ 8 * bs.length) : segL (bitsOf bs) n k = seg bs n k := (seg_eq bs n k h).symm
theorem same_drewN (W : World) (m : Nat) : Same W (W.drewN m) := ⟨m, rfl⟩
/-- What both tell behind an act. -/
theorem rd_facts {base g2 g3 n : Nat} {W : World} {l : List Thing} {B : List UInt8} (hW : Ws base W l) (h1 : l[1]? = some (.rd g2 B n)) (h2 : l[2]? = some (.row g3 (bitsOf B) n)) (hn : n ≤ 8 * B.length) (hlen : B.length ≤ 200) :
    (∀ m, Calls Try.prog 37 #[.pointer (some ⟨g2, 0, none⟩)] (W.drewN m) fun e w' => e = .returned (.int .i64 ((8 * B.length - n : Nat) : Int)) ∧ ∃ m', w' = (W.drewN m).drewN m') ∧
    (∀ m, Calls Try.prog 38 #[.pointer (some ⟨g3, 0, none⟩)] (W.drewN m) fun e w' => e = .returned (.int .i64 ((8 * B.length - n : Nat) : Int)) ∧ ∃ m', w' = (W.drewN m).drewN m') ∧
    (∀ m, Calls Try.prog 39 #[.pointer (some ⟨g2, 0, none⟩)] (W.drewN m) fun e w' => e = .returned (.int .i64 (n : Int)) ∧ w' = W.drewN m) ∧
    W.cell? ⟨g3, 1, none⟩ = some (.int .i64 (n : Int)) := by
  obtain ⟨F1, H1, _⟩ := hW.open 1 _ h1
  obtain ⟨F2, H2, _⟩ := hW.open 2 _ h2
  refine ⟨fun m => ?_, fun m => ?_, fun m => ?_, ?_⟩
  · exact rleft_walk (W.drewN m) F1 g2 n B ((same_drewN W m).has H1) hn (by omega)
  · have := qleft_walk (W.drewN m) F2 g3 n (bitsOf B) ((same_drewN W m).has H2) (by rw [bitsOf_length]; exact hn) (by rw [bitsOf_length]; omega)
    rwa [bitsOf_length] at this
  · exact (rat_walk (W.drewN m) F1 g2 n B ((same_drewN W m).has H1)).mono fun e w' ⟨he, hw⟩ => ⟨he, hw.symm⟩
  · obtain ⟨_, _, _, c1, _⟩ := H2.w1
    exact c1
theorem eq_facts {W : World} {v u : Value} {a : List UInt8} (h : SlW W v a) (k : SlW W u a) : ∀ m, Calls Try.prog 21 #[v, u] (W.drewN m) fun e w' => e = .returned (.bool true) ∧ w' = W.drewN m := fun m => by
  have hb : Below W.heap.size W (W.drewN m) := Same.below ⟨m, rfl⟩ _
  refine (equal_walk (W.drewN m) v u a a (h.below hb (Nat.le_refl _)) (k.below hb (Nat.le_refl _))).mono fun e w' ⟨he, hw⟩ => ⟨?_, hw.symm⟩
  rw [he, beq_self_eq_true]
theorem nil_read (W : World) : SlW W (.slice none 0 0) [] := .inr ⟨none, rfl, rfl⟩
theorem rerr_zero {bs : List UInt8} {n : Nat} {m : Int} (h : rerr bs n m = 0) : ∃ k : Nat, m = (k : Int) ∧ k ≤ 57 ∧ n + k ≤ 8 * bs.length := by
  unfold rerr at h
  by_cases h1 : m < 0 ∨ 57 < m
  · rw [if_pos h1] at h; omega
  · rw [if_neg h1] at h
    by_cases h2 : (8 * bs.length : Int) < n + m
    · rw [if_pos h2] at h; omega
    · exact ⟨m.toNat, by omega, by omega, by omega⟩
theorem qbytes_no (w : World) (F : Nat → Prop) (g n : Nat) (m : Int) (bs : List UInt8) (c : Int) (h : Has w F (.row g (bitsOf bs) n)) (hn : n ≤ 8 * bs.length) (hlen : bs.length ≤ 200)
    (hc : (m < 0 ∧ c = 1) ∨ (0 ≤ m ∧ n % 8 ≠ 0 ∧ c = 1) ∨ (0 ≤ m ∧ n % 8 = 0 ∧ 8 * bs.length < n + m * 8 ∧ c = 4)) :
    Calls Try.prog 34 #[.pointer (some ⟨g, 0, none⟩), .int .i64 m] w (QPost (.tuple #[.slice none 0 0, .int .i64 c]) w) := by
  rcases hc with ⟨h1, rfl⟩ | ⟨h1, h2, rfl⟩ | ⟨h1, h2, h3, rfl⟩
  · exact qbytes_lo w _ m h1
  · exact qbytes_mid w F g n m _ h h1 h2
  · exact qbytes_short w F g n m _ h (by rw [bitsOf_length]; exact hn) (by rw [bitsOf_length]; omega) h1 h2 (by rw [bitsOf_length]; omega) (by rw [bitsOf_length]; exact_mod_cast h3)
theorem bytes_cases (bs : List UInt8) (n : Nat) (m : Int) : (∃ k : Nat, m = (k : Int) ∧ n % 8 = 0 ∧ n + k * 8 ≤ 8 * bs.length) ∨ ∃ c : Int, (m < 0 ∧ c = 1) ∨ (0 ≤ m ∧ n % 8 ≠ 0 ∧ c = 1) ∨ (0 ≤ m ∧ n % 8 = 0 ∧ 8 * bs.length < n + m * 8 ∧ c = 4) := by
  by_cases h1 : m < 0
  · exact .inr ⟨1, .inl ⟨h1, rfl⟩⟩
  by_cases h2 : n % 8 = 0
  · by_cases h3 : (8 * bs.length : Int) < n + m * 8
    · exact .inr ⟨4, .inr (.inr ⟨by omega, h2, h3, rfl⟩)⟩
    · exact .inl ⟨m.toNat, by omega, h2, by omega⟩
  · exact .inr ⟨1, .inr (.inl ⟨by omega, h2, rfl⟩)⟩
structure ReadsIn (w : World) (ov : Value) (g2 g3 : Nat) (B : List UInt8) (n : Nat) (wr : World) : Prop where
  ws : ∃ ob, Ws w.heap.size wr [.sl ov ob, .rd g2 B n, .row g3 (bitsOf B) n]
  below : Below w.heap.size w wr
  le : n ≤ 8 * B.length
def ReadsRel (w : World) (ov : Value) (g2 g3 L : Nat) (B : List UInt8) (v : Value) (wr : World) : Prop := ∃ i n : Nat, i ≤ L ∧ i ≤ 60 ∧ v = .int .i64 (i : Int) ∧ ReadsIn w ov g2 g3 B n wr
def XorRel (w : World) (ov : Value) (g2 g3 ol : Nat) (B : List UInt8) (v : Value) (wr : World) : Prop := ∃ i : Nat, i ≤ ol ∧ v = .int .i64 (i : Int) ∧ ∃ ob : List UInt8, ob.length = ol ∧ Ws w.heap.size wr [.sl ov ob, .rd g2 B 0, .row g3 (bitsOf B) 0] ∧ Below w.heap.size w wr
/-- A byte of a slice of the call's own is set. -/
theorem Ws.setb {base : Nat} {w : World} {l : List Thing} (h : Ws base w l) (i : Nat) (v : Value) (bs : List UInt8) (hi : l[i]? = some (.sl v bs)) (k : Nat) (hk : k < bs.length) :
    ∃ g cap, v = .slice (some ⟨g, 0, none⟩) bs.length cap ∧ w.cell? ⟨g, k, none⟩ = some (.int .u8 (bi (bs.getD k 0))) ∧ w.frozen? ⟨g, k, none⟩ = false ∧ ∀ x, Ws base (w.setCell ⟨g, k, none⟩ (.int .u8 (bi x))) (l.set i (.sl v (bs.set k x))) ∧ Below base w (w.setCell ⟨g, k, none⟩ (.int .u8 (bi x))) := by
  obtain ⟨F, hF, hn⟩ := h.open i _ hi
  obtain ⟨g, cap, rfl, _, _, _, _, h1, h2, h3⟩ := hF.1.spot (by omega)
  have hfg : F g := hF.2 g rfl
  refine ⟨g, cap, rfl, h1 k hk, h2 k, fun x => hn _ _ ⟨OnlyS.setCell _ _ _ _ hfg, h3 k x hk, fun j hj => .inl (hF.2 j hj)⟩⟩
set_option maxRecDepth 100000 in
set_option maxHeartbeats 16000000 in
theorem reads_walk (w : World) (p : Option Addr) (cap : Nat) (bs : List UInt8) (pa : Option Addr) (ca : Nat) (acts : List A) (hs : SlW w (.slice p bs.length cap) bs) (ha : AsAt w (.slice pa acts.length ca) acts) (hlen : acts.length ≤ 9223372036854775807) :
    Calls Try.prog 4 #[.slice p bs.length cap, .slice pa acts.length ca] w (BoolPost true w) := by
  have HW0 := Lib.hid (Ws.nil w)
  obtain ⟨l, hl⟩ : ∃ l, l = min bs.length 200 := ⟨_, rfl⟩
  have hmi : min (bs.length : Int) 200 = (l : Int) := by omega
  have hl1 : l ≤ bs.length := by omega
  have hl2 : l ≤ 200 := by omega
  have sl := slice_to p bs.length cap l bs hs hl1
  have HS : Hid (SlW w (.slice p l cap) (bs.take l)) := Lib.hid (hs.take l hl1)
  have HL : Hid ((bs.take l).length = l) := Lib.hid (by simp; omega)
  have HA := Lib.hid ha
  obtain ⟨La, hla⟩ : ∃ La, La = acts.length := ⟨_, rfl⟩
  rw [← hla] at HA hlen ⊢
  have HLA := Lib.hid hla
  clear ha hla hs hl hl1
  generalize bs.take l = B at *
  have HB200 : Hid (B.length ≤ 200) := Lib.hid (by rw [HL.out]; exact hl2)
  go_enter Try.func4, Try.ntmps4
  go_wp2_with fail
  refine (ws_clone HW0.out (clone_walk w _ B HS.out (by have := HB200.out; omega))).mono ?_
  rintro e w1 ⟨po, co, rfl, hW, hb⟩
  rw [HL.out] at hW ⊢
  have HW1 : Hid (Ws w.heap.size w1 [.sl (.slice po l co) B]) := Lib.hid hW
  have HB1 := Lib.hid hb
  clear hW hb HW0 sl hmi
  go_wp2_with fail
  refine (ws_newreader HW1.out (HW1.out.sl 0 _ _ rfl) (by have := HB200.out; omega)).mono ?_
  rintro e w2 ⟨g2, rfl, hW, hb⟩
  have HW2 : Hid (Ws w.heap.size w2 [.sl (.slice po l co) B, .rd g2 B 0]) := Lib.hid hW
  have HB2 := Lib.hid (HB1.out.trans hb)
  clear hW hb HW1 HB1
  go_wp2_with fail
  refine (of_walk w2 _ B (HS.out.below HB2.out (Nat.le_refl _)) (by have := HB200.out; omega)).mono ?_
  rintro e w3 ⟨g3, rfl, hb, hh⟩
  have HW3 : Hid (Ws w.heap.size w3 [.sl (.slice po l co) B, .rd g2 B 0, .row g3 (bitsOf B) 0]) := Lib.hid (HW2.out.add hb _ _ hh fun k hk => hk)
  have HB3 : Hid (Below w.heap.size w w3) := Lib.hid (HB2.out.trans (hb.mono HB2.out.size))
  clear hb hh HW2 HB2
  go_wp2_with fail
  go_loopw [8, 34] (fun _ v wr => XorRel w (.slice po l co) g2 g3 l B v wr) (fun _ v _ => l - (intOf v).toNat)
  case atStart => exact ⟨0, Nat.zero_le _, rfl, B, HL.out, HW3.out, HB3.out⟩
  case round =>
    clear HW3 HB3
    obtain ⟨i, hi, rfl, ob, hob, hW, hb⟩ := hrel
    have HWr := Lib.hid hW
    have HBr := Lib.hid hb
    have HOB := Lib.hid hob
    clear hW hb hob
    by_cases hlt : i < l
    · have hii : (i : Int) < (l : Int) := by omega
      obtain ⟨go, cc, e1, hc, hf, hset⟩ := HWr.out.setb 0 _ ob rfl i (by rw [HOB.out]; exact hlt)
      obtain ⟨rfl, rfl⟩ : po = some ⟨go, 0, none⟩ ∧ co = cc := by
        have := Value.slice.inj e1
        exact ⟨this.1, this.2.2⟩
      obtain ⟨y, hy⟩ : ∃ y, y = ob.getD i 0 ^^^ 255 := ⟨_, rfl⟩
      have hx : bits .xor .u8 (bi (ob.getD i 0)) 255 = bi y := by
        have := u8_xor_nat (ob.getD i 0).toNat 255 (UInt8.toNat_lt _) (by decide)
        rw [hy]; unfold bi; rw [UInt8.toNat_xor]; exact this
      have HQ : Hid (XorRel w (.slice (some ⟨go, 0, none⟩) l co) g2 g3 l B (.int .i64 ((i : Int) + 1)) (wr.setCell ⟨go, i, none⟩ (.int .u8 (bi y)))) := Lib.hid ⟨i + 1, hlt, by go_num, ob.set i y, by rw [List.length_set, HOB.out], (hset y).1, HBr.out.trans (hset y).2⟩
      clear e1 hset HWr HBr hy HOB
      generalize ob.getD i 0 = x at *
      go_wp2_with fail
      exact ⟨HQ.out, by simp [intOf]; omega⟩
    · obtain rfl : l = i := by omega
      have HI0 : Hid (ReadsIn w (.slice po l co) g2 g3 B 0 wr) := Lib.hid ⟨⟨ob, HWr.out⟩, HBr.out, Nat.zero_le _⟩
      clear HWr HBr HOB hlt
      go_wp2_with fail
      go_loopw [9, 10, 11, 12, 13, 14, 15, 16, 17, 18, 19, 20, 46] (fun _ _ _ _ _ _ _ _ _ _ _ _ v wr => ReadsRel w (.slice po l co) g2 g3 La B v wr) (fun _ _ _ _ _ _ _ _ _ _ _ _ v _ => 60 - (intOf v).toNat)
      case atStart => exact ⟨0, 0, Nat.zero_le _, by omega, rfl, HI0.out⟩
      case round =>
        clear HI0
        obtain ⟨j, n, hj, hj60, rfl, hI⟩ := hrel
        have HI := Lib.hid hI
        clear hI
        by_cases hlt : j < La ∧ j < 60
        · obtain ⟨hlt1, hlt2⟩ := hlt
          have hji : (j : Int) < (La : Int) := by omega
          have hj6 : ((j : Int) == 60) = false := by rw [beq_eq_false_iff_ne]; omega
          have HAr := Lib.hid (HA.out.below HI.out.below)
          obtain ⟨x, hx⟩ : ∃ x, acts[j]? = some x := ⟨acts[j]'(by rw [← HLA.out]; exact hlt1), List.getElem?_eq_getElem _⟩
          obtain ⟨ga, oa, ca', e1, e2, e3⟩ | ⟨e1, e2⟩ := HAr.out
          rotate_left
          · have := HLA.out; rw [e2] at this; simp at this; omega
          obtain ⟨rfl, e4, rfl⟩ : pa = some ⟨ga, oa, none⟩ ∧ La = acts.length ∧ ca = ca' := by simpa using e1
          obtain ⟨hn0, c0, c1, c2, c3, _⟩ := e3 j x hx
          obtain ⟨what, m, N, bv, bb⟩ := x
          simp only at hn0 c0 c1 c2 c3
          have hsx : SlW w bv bb := HA.out.sl j _ hx
          obtain ⟨pb, cb, rfl⟩ := hsx.shape
          clear hsx
          obtain ⟨⟨ob, hW⟩, hb, hle⟩ := HI.out
          have HLE := Lib.hid hle
          have hwb : Below wr.heap.size wr (wr.alloc (.cells #[.int .i64 what, .int .i64 m, .int .u64 (N : Int), .slice pb bb.length cb] 32)) := (Below.refl _ _).alloc (Nat.le_refl _) _
          have HW5 := Lib.hid (hW.add hwb (.box wr.heap.size #[.int .i64 what, .int .i64 m, .int .u64 (N : Int), .slice pb bb.length cb] 32) (fun k => k = wr.heap.size) ⟨heap_alloc_new wr _, rfl⟩ (fun k hk => by
            have hk' : k = wr.heap.size := hk
            subst hk'
            simp))
          have HB5 := Lib.hid (hb.trans (hwb.mono hb.size))
          have HQQ : Hid (∀ n' w', n' ≤ 8 * B.length → (∃ ob, Ws w.heap.size w' [.sl (.slice po l co) ob, .rd g2 B n', .row g3 (bitsOf B) n']) → Below w.heap.size w w' → ReadsRel w (.slice po l co) g2 g3 La B (.int .i64 ((j : Int) + 1)) w' ∧ 60 - (intOf (.int .i64 ((j : Int) + 1))).toNat < 60 - (intOf (.int .i64 (j : Int))).toNat) := Lib.hid fun n' w' h1 h2 h3 => ⟨⟨j + 1, n', hlt1, hlt2, by go_num, ⟨h2, h3, h1⟩⟩, by simp [intOf]; omega⟩
          clear e1 e2 e3 e4 hx HAr HI hW hb hle hwb hn0 hlt1
          generalize bb.length = lb at *
          by_cases h0 : what = 0
          · subst h0
            by_cases hr : rerr B n m = 0
            · obtain ⟨k, rfl, hk57, hkn⟩ := rerr_zero hr
              have HKN := Lib.hid hkn
              clear hr hkn
              go_wp2_with fail
              generalize wr.alloc (.cells #[.int .i64 0, .int .i64 (k : Int), .int .u64 (N : Int), .slice pb lb cb] 32) = w5 at *
              generalize wr.heap.size = gx at *
              refine (ws_get HW5.out 1 g2 n k B rfl HKN.out (by have := HB200.out; omega) hk57).mono ?_
              rintro e w6 ⟨rfl, hW, hb⟩
              have HW6 := Lib.hid hW
              have HB6 := Lib.hid (HB5.out.trans hb)
              have hcx : w6.cell? ⟨gx, 1, none⟩ = some (.int .i64 (k : Int)) := HW6.out.box 3 gx _ 32 rfl 1
              clear hW hb HW5 HB5
              go_wp2_with fail
              refine (ws_turn HW6.out 2 rfl fun F hF => qget_ok w6 F g3 n k (bitsOf B) hF (by rw [bitsOf_length]; exact HKN.out) (by rw [bitsOf_length]; have := HB200.out; omega) hk57).mono ?_
              rintro e w7 ⟨rfl, hW, hb⟩
              rw [seg_segL B n k HKN.out]
              have HW7 := Lib.hid hW
              have HB7 := Lib.hid (HB6.out.trans hb)
              clear hW hb HW6 HB6 hcx
              have HKL := Lib.hid HKN.out
              clear HKN hk57
              generalize num (seg B n k) = xx at *
              obtain ⟨q1, q2, q3, q4⟩ := rd_facts HW7.out rfl rfl HKL.out HB200.out
              have q5 := eq_facts (nil_read w7) (nil_read w7)
              have Q1 := Lib.hid q1
              have Q2 := Lib.hid q2
              have Q3 := Lib.hid q3
              have Q5 := Lib.hid q5
              have HR := Lib.hid fun (W : World) (hS : Same w7 W) => HQQ.out (n + k) W HKL.out ⟨ob, (HW7.out.take 3).later (hS.below _)⟩ (HB7.out.trans (hS.below _))
              clear q1 q2 q3 q5 HQQ HW7 HB7 c0 c1 c2 c3
              generalize 8 * B.length - (n + k) = left at *
              go_wp2_with fail
              go_quiet (first | (go_at_call 21; exact Calls.quiet_of_same (Q5.out _)) | (go_at_call 37; exact Calls.quiet_of (Q1.out _)) | (go_at_call 38; exact Calls.quiet_of (Q2.out _)) | (go_at_call 39; exact Calls.quiet_of_same (Q3.out _)))
              go_wp2_with fail
              exact HR.out _ ⟨nq, rfl⟩
            · have HR0 := Lib.hid hr
              clear hr
              go_wp2_with fail
              generalize wr.alloc (.cells #[.int .i64 0, .int .i64 m, .int .u64 (N : Int), .slice pb lb cb] 32) = w5 at *
              generalize wr.heap.size = gx at *
              refine (ws_get_no HW5.out 1 g2 n m B rfl HLE.out (by have := HB200.out; omega) HR0.out).mono ?_
              rintro e w6 ⟨rfl, hW, hb⟩
              have HW6 := Lib.hid hW
              have HB6 := Lib.hid (HB5.out.trans hb)
              have hcx : w6.cell? ⟨gx, 1, none⟩ = some (.int .i64 m) := HW6.out.box 3 gx _ 32 rfl 1
              clear hW hb HW5 HB5
              go_wp2_with fail
              refine (ws_same HW6.out 2 rfl fun F hF => qget_no w6 F g3 n m B hF HLE.out (by have := HB200.out; omega) HR0.out).mono ?_
              rintro e w7 ⟨rfl, hW, hb⟩
              have HW7 := Lib.hid hW
              have HB7 := Lib.hid (HB6.out.trans hb)
              clear hW hb HW6 HB6 hcx
              clear HR0
              generalize rerr B n m = rr at *
              obtain ⟨q1, q2, q3, q4⟩ := rd_facts HW7.out rfl rfl HLE.out HB200.out
              have q5 := eq_facts (nil_read w7) (nil_read w7)
              have Q1 := Lib.hid q1
              have Q2 := Lib.hid q2
              have Q3 := Lib.hid q3
              have Q5 := Lib.hid q5
              have HR := Lib.hid fun (W : World) (hS : Same w7 W) => HQQ.out (n) W HLE.out ⟨ob, (HW7.out.take 3).later (hS.below _)⟩ (HB7.out.trans (hS.below _))
              clear q1 q2 q3 q5 HQQ HW7 HB7 c0 c1 c2 c3
              generalize 8 * B.length - (n) = left at *
              go_wp2_with fail
              go_quiet (first | (go_at_call 21; exact Calls.quiet_of_same (Q5.out _)) | (go_at_call 37; exact Calls.quiet_of (Q1.out _)) | (go_at_call 38; exact Calls.quiet_of (Q2.out _)) | (go_at_call 39; exact Calls.quiet_of_same (Q3.out _)))
              go_wp2_with fail
              exact HR.out _ ⟨nq, rfl⟩
          by_cases h1 : what = 1
          · subst h1
            by_cases hr : rerr B n m = 0
            · obtain ⟨k, rfl, hk57, hkn⟩ := rerr_zero hr
              have HKN := Lib.hid hkn
              clear hr hkn
              go_wp2_with fail
              generalize wr.alloc (.cells #[.int .i64 1, .int .i64 (k : Int), .int .u64 (N : Int), .slice pb lb cb] 32) = w5 at *
              generalize wr.heap.size = gx at *
              refine (ws_skip HW5.out 1 g2 n k B rfl HKN.out (by have := HB200.out; omega) hk57).mono ?_
              rintro e w6 ⟨rfl, hW, hb⟩
              have HW6 := Lib.hid hW
              have HB6 := Lib.hid (HB5.out.trans hb)
              have hcx : w6.cell? ⟨gx, 1, none⟩ = some (.int .i64 (k : Int)) := HW6.out.box 3 gx _ 32 rfl 1
              clear hW hb HW5 HB5
              go_wp2_with fail
              refine (ws_turn HW6.out 2 rfl fun F hF => qget_ok w6 F g3 n k (bitsOf B) hF (by rw [bitsOf_length]; exact HKN.out) (by rw [bitsOf_length]; have := HB200.out; omega) hk57).mono ?_
              rintro e w7 ⟨rfl, hW, hb⟩
              rw [seg_segL B n k HKN.out]
              have HW7 := Lib.hid hW
              have HB7 := Lib.hid (HB6.out.trans hb)
              clear hW hb HW6 HB6 hcx
              have HKL := Lib.hid HKN.out
              clear HKN hk57
              generalize num (seg B n k) = xx at *
              obtain ⟨q1, q2, q3, q4⟩ := rd_facts HW7.out rfl rfl HKL.out HB200.out
              have q5 := eq_facts (nil_read w7) (nil_read w7)
              have Q1 := Lib.hid q1
              have Q2 := Lib.hid q2
              have Q3 := Lib.hid q3
              have Q5 := Lib.hid q5
              have HR := Lib.hid fun (W : World) (hS : Same w7 W) => HQQ.out (n + k) W HKL.out ⟨ob, (HW7.out.take 3).later (hS.below _)⟩ (HB7.out.trans (hS.below _))
              clear q1 q2 q3 q5 HQQ HW7 HB7 c0 c1 c2 c3
              generalize 8 * B.length - (n + k) = left at *
              go_wp2_with fail
              go_quiet (first | (go_at_call 21; exact Calls.quiet_of_same (Q5.out _)) | (go_at_call 37; exact Calls.quiet_of (Q1.out _)) | (go_at_call 38; exact Calls.quiet_of (Q2.out _)) | (go_at_call 39; exact Calls.quiet_of_same (Q3.out _)))
              go_wp2_with fail
              exact HR.out _ ⟨nq, rfl⟩
            · have HR0 := Lib.hid hr
              clear hr
              go_wp2_with fail
              generalize wr.alloc (.cells #[.int .i64 1, .int .i64 m, .int .u64 (N : Int), .slice pb lb cb] 32) = w5 at *
              generalize wr.heap.size = gx at *
              refine (ws_skip_no HW5.out 1 g2 n m B rfl HLE.out (by have := HB200.out; omega) HR0.out).mono ?_
              rintro e w6 ⟨rfl, hW, hb⟩
              have HW6 := Lib.hid hW
              have HB6 := Lib.hid (HB5.out.trans hb)
              have hcx : w6.cell? ⟨gx, 1, none⟩ = some (.int .i64 m) := HW6.out.box 3 gx _ 32 rfl 1
              clear hW hb HW5 HB5
              go_wp2_with fail
              refine (ws_same HW6.out 2 rfl fun F hF => qget_no w6 F g3 n m B hF HLE.out (by have := HB200.out; omega) HR0.out).mono ?_
              rintro e w7 ⟨rfl, hW, hb⟩
              have HW7 := Lib.hid hW
              have HB7 := Lib.hid (HB6.out.trans hb)
              clear hW hb HW6 HB6 hcx
              clear HR0
              generalize rerr B n m = rr at *
              obtain ⟨q1, q2, q3, q4⟩ := rd_facts HW7.out rfl rfl HLE.out HB200.out
              have q5 := eq_facts (nil_read w7) (nil_read w7)
              have Q1 := Lib.hid q1
              have Q2 := Lib.hid q2
              have Q3 := Lib.hid q3
              have Q5 := Lib.hid q5
              have HR := Lib.hid fun (W : World) (hS : Same w7 W) => HQQ.out (n) W HLE.out ⟨ob, (HW7.out.take 3).later (hS.below _)⟩ (HB7.out.trans (hS.below _))
              clear q1 q2 q3 q5 HQQ HW7 HB7 c0 c1 c2 c3
              generalize 8 * B.length - (n) = left at *
              go_wp2_with fail
              go_quiet (first | (go_at_call 21; exact Calls.quiet_of_same (Q5.out _)) | (go_at_call 37; exact Calls.quiet_of (Q1.out _)) | (go_at_call 38; exact Calls.quiet_of (Q2.out _)) | (go_at_call 39; exact Calls.quiet_of_same (Q3.out _)))
              go_wp2_with fail
              exact HR.out _ ⟨nq, rfl⟩
          by_cases h2 : what = 2
          · subst h2
            go_wp2_with fail
            generalize wr.alloc (.cells #[.int .i64 2, .int .i64 m, .int .u64 (N : Int), .slice pb lb cb] 32) = w5 at *
            generalize wr.heap.size = gx at *
            refine (ws_ralign HW5.out 1 g2 n B rfl HLE.out (by have := HB200.out; omega)).mono ?_
            rintro e w6 ⟨rfl, hW, hb⟩
            have HW6 := Lib.hid hW
            have HB6 := Lib.hid (HB5.out.trans hb)
            have hcx : w6.cell? ⟨gx, 1, none⟩ = some (.int .i64 m) := HW6.out.box 3 gx _ 32 rfl 1
            clear hW hb HW5 HB5
            go_wp2_with fail
            refine (ws_turn HW6.out 2 rfl fun F hF => qalign_walk w6 F g3 n (bitsOf B) hF (by have := HLE.out; have := HB200.out; omega)).mono ?_
            rintro e w7 ⟨rfl, hW, hb⟩
            have HW7 := Lib.hid hW
            have HB7 := Lib.hid (HB6.out.trans hb)
            clear hW hb HW6 HB6 hcx
            have HL2 : Hid ((n + 7) / 8 * 8 ≤ 8 * B.length) := Lib.hid (by have := HLE.out; omega)
            obtain ⟨q1, q2, q3, q4⟩ := rd_facts HW7.out rfl rfl HL2.out HB200.out
            have q5 := eq_facts (nil_read w7) (nil_read w7)
            have Q1 := Lib.hid q1
            have Q2 := Lib.hid q2
            have Q3 := Lib.hid q3
            have Q5 := Lib.hid q5
            have HR := Lib.hid fun (W : World) (hS : Same w7 W) => HQQ.out ((n + 7) / 8 * 8) W HL2.out ⟨ob, (HW7.out.take 3).later (hS.below _)⟩ (HB7.out.trans (hS.below _))
            clear q1 q2 q3 q5 HQQ HW7 HB7 c0 c1 c2 c3
            generalize 8 * B.length - ((n + 7) / 8 * 8) = left at *
            go_wp2_with fail
            go_quiet (first | (go_at_call 21; exact Calls.quiet_of_same (Q5.out _)) | (go_at_call 37; exact Calls.quiet_of (Q1.out _)) | (go_at_call 38; exact Calls.quiet_of (Q2.out _)) | (go_at_call 39; exact Calls.quiet_of_same (Q3.out _)))
            go_wp2_with fail
            exact HR.out _ ⟨nq, rfl⟩
          by_cases h3 : what = 3
          · subst h3
            rcases bytes_cases B n m with ⟨k, rfl, hk8, hkn⟩ | ⟨cc, hcc⟩
            · have HKN := Lib.hid hkn
              have HK8 := Lib.hid hk8
              clear hk8 hkn
              go_wp2_with fail
              generalize wr.alloc (.cells #[.int .i64 3, .int .i64 (k : Int), .int .u64 (N : Int), .slice pb lb cb] 32) = w5 at *
              generalize wr.heap.size = gx at *
              refine (ws_rbytes HW5.out 1 g2 n k B rfl HK8.out HKN.out (by have := HB200.out; omega)).mono ?_
              rintro e w6 ⟨p1, cap1, rfl, hW, hb⟩
              have hkl : ((B.drop (n / 8)).take k).length = k := by have := HKN.out; simp; omega
              rw [hkl] at hW ⊢
              have HW6 := Lib.hid hW
              have HB6 := Lib.hid (HB5.out.trans hb)
              have hcx : w6.cell? ⟨gx, 1, none⟩ = some (.int .i64 (k : Int)) := HW6.out.box 3 gx _ 32 rfl 1
              clear hW hb HW5 HB5 hkl
              go_wp2_with fail
              obtain ⟨F, hF, hnx⟩ := HW6.out.open 2 _ rfl
              refine (qbytes_ok w6 F g3 n k (bitsOf B) hF HK8.out (by rw [bitsOf_length]; omega) (by rw [bitsOf_length]; exact HKN.out) (by rw [bitsOf_length]; have := HB200.out; omega)).mono ?_
              rintro e w7 ⟨p2, cap2, rfl, hT, hsd⟩
              rw [pack_bitsOf] at hsd
              obtain ⟨hW, hb⟩ := hnx _ w7 hT
              have HW7 := Lib.hid hW
              have HB7 := Lib.hid (HB6.out.trans hb)
              have hsc := HW7.out.sl 4 _ _ rfl
              have HKL := Lib.hid HKN.out
              clear hW hb HW6 HB6 hcx hF hnx hT HKN HK8
              obtain ⟨q1, q2, q3, q4⟩ := rd_facts HW7.out rfl rfl HKL.out HB200.out
              have q5 := eq_facts hsc hsd
              have Q1 := Lib.hid q1
              have Q2 := Lib.hid q2
              have Q3 := Lib.hid q3
              have Q5 := Lib.hid q5
              have HR := Lib.hid fun (W : World) (hS : Same w7 W) => HQQ.out (n + k * 8) W HKL.out ⟨ob, (HW7.out.take 3).later (hS.below _)⟩ (HB7.out.trans (hS.below _))
              clear hsc hsd q1 q2 q3 q5 HQQ HW7 HB7 c0 c1 c2 c3
              generalize 8 * B.length - (n + k * 8) = left at *
              go_wp2_with fail
              go_quiet (first | (go_at_call 21; exact Calls.quiet_of_same (Q5.out _)) | (go_at_call 37; exact Calls.quiet_of (Q1.out _)) | (go_at_call 38; exact Calls.quiet_of (Q2.out _)) | (go_at_call 39; exact Calls.quiet_of_same (Q3.out _)))
              go_wp2_with fail
              exact HR.out _ ⟨nq, rfl⟩
            · have HCC := Lib.hid hcc
              clear hcc
              go_wp2_with fail
              generalize wr.alloc (.cells #[.int .i64 3, .int .i64 m, .int .u64 (N : Int), .slice pb lb cb] 32) = w5 at *
              generalize wr.heap.size = gx at *
              refine (ws_rbytes_no HW5.out 1 g2 n m B cc rfl HLE.out (by have := HB200.out; omega) HCC.out).mono ?_
              rintro e w6 ⟨rfl, hW, hb⟩
              have HW6 := Lib.hid hW
              have HB6 := Lib.hid (HB5.out.trans hb)
              have hcx : w6.cell? ⟨gx, 1, none⟩ = some (.int .i64 m) := HW6.out.box 3 gx _ 32 rfl 1
              clear hW hb HW5 HB5
              go_wp2_with fail
              refine (ws_same HW6.out 2 rfl fun F hF => qbytes_no w6 F g3 n m B cc hF HLE.out HB200.out HCC.out).mono ?_
              rintro e w7 ⟨rfl, hW, hb⟩
              have HW7 := Lib.hid hW
              have HB7 := Lib.hid (HB6.out.trans hb)
              clear hW hb HW6 HB6 hcx
              clear HCC
              obtain ⟨q1, q2, q3, q4⟩ := rd_facts HW7.out rfl rfl HLE.out HB200.out
              have q5 := eq_facts (nil_read w7) (nil_read w7)
              have Q1 := Lib.hid q1
              have Q2 := Lib.hid q2
              have Q3 := Lib.hid q3
              have Q5 := Lib.hid q5
              have HR := Lib.hid fun (W : World) (hS : Same w7 W) => HQQ.out (n) W HLE.out ⟨ob, (HW7.out.take 3).later (hS.below _)⟩ (HB7.out.trans (hS.below _))
              clear q1 q2 q3 q5 HQQ HW7 HB7 c0 c1 c2 c3
              generalize 8 * B.length - (n) = left at *
              go_wp2_with fail
              go_quiet (first | (go_at_call 21; exact Calls.quiet_of_same (Q5.out _)) | (go_at_call 37; exact Calls.quiet_of (Q1.out _)) | (go_at_call 38; exact Calls.quiet_of (Q2.out _)) | (go_at_call 39; exact Calls.quiet_of_same (Q3.out _)))
              go_wp2_with fail
              exact HR.out _ ⟨nq, rfl⟩
          by_cases h4 : what = 4
          · subst h4
            go_wp2_with fail
            generalize wr.alloc (.cells #[.int .i64 4, .int .i64 m, .int .u64 (N : Int), .slice pb lb cb] 32) = w5 at *
            generalize wr.heap.size = gx at *
            refine (ws_peek HW5.out 1 g2 n m B rfl HLE.out (by have := HB200.out; omega)).mono ?_
            rintro e w6 ⟨rfl, hW, hb⟩
            have HW6 := Lib.hid hW
            have HB6 := Lib.hid (HB5.out.trans hb)
            have hcx : w6.cell? ⟨gx, 1, none⟩ = some (.int .i64 m) := HW6.out.box 3 gx _ 32 rfl 1
            clear hW hb HW5 HB5
            go_wp2_with fail
            refine (ws_same HW6.out 2 rfl fun F hF => qpeek_walk w6 F g3 n m (bitsOf B) hF (by rw [bitsOf_length]; exact HLE.out) (by rw [bitsOf_length]; have := HB200.out; omega)).mono ?_
            rintro e w7 ⟨rfl, hW, hb⟩
            rw [show thereL (bitsOf B) n m = there B n m by unfold thereL there; rw [bitsOf_length], seg_segL B n _ (by have := there_le B n m; have := HLE.out; omega)]
            have HW7 := Lib.hid hW
            have HB7 := Lib.hid (HB6.out.trans hb)
            clear hW hb HW6 HB6 hcx
            generalize num (seg B n (there B n m)) = xx at *
            generalize there B n m = tt at *
            obtain ⟨q1, q2, q3, q4⟩ := rd_facts HW7.out rfl rfl HLE.out HB200.out
            have q5 := eq_facts (nil_read w7) (nil_read w7)
            have Q1 := Lib.hid q1
            have Q2 := Lib.hid q2
            have Q3 := Lib.hid q3
            have Q5 := Lib.hid q5
            have HR := Lib.hid fun (W : World) (hS : Same w7 W) => HQQ.out (n) W HLE.out ⟨ob, (HW7.out.take 3).later (hS.below _)⟩ (HB7.out.trans (hS.below _))
            clear q1 q2 q3 q5 HQQ HW7 HB7 c0 c1 c2 c3
            generalize 8 * B.length - (n) = left at *
            go_wp2_with fail
            go_quiet (first | (go_at_call 21; exact Calls.quiet_of_same (Q5.out _)) | (go_at_call 37; exact Calls.quiet_of (Q1.out _)) | (go_at_call 38; exact Calls.quiet_of (Q2.out _)) | (go_at_call 39; exact Calls.quiet_of_same (Q3.out _)))
            go_wp2_with fail
            exact HR.out _ ⟨nq, rfl⟩
          have b0 : (what == 0) = false := beq_eq_false_iff_ne.2 h0
          have b1 : (what == 1) = false := beq_eq_false_iff_ne.2 h1
          have b2 : (what == 2) = false := beq_eq_false_iff_ne.2 h2
          have b3 : (what == 3) = false := beq_eq_false_iff_ne.2 h3
          have b4 : (what == 4) = false := beq_eq_false_iff_ne.2 h4
          clear h0 h1 h2 h3 h4
          obtain ⟨q1, q2, q3, q4⟩ := rd_facts HW5.out rfl rfl HLE.out HB200.out
          have q5 := eq_facts (nil_read (wr.alloc (.cells #[.int .i64 what, .int .i64 m, .int .u64 (N : Int), .slice pb lb cb] 32))) (nil_read _)
          have Q1 := Lib.hid q1
          have Q2 := Lib.hid q2
          have Q3 := Lib.hid q3
          have Q5 := Lib.hid q5
          have HR := Lib.hid fun (W : World) (hS : Same (wr.alloc (.cells #[.int .i64 what, .int .i64 m, .int .u64 (N : Int), .slice pb lb cb] 32)) W) => HQQ.out n W HLE.out ⟨ob, (HW5.out.take 3).later (hS.below _)⟩ (HB5.out.trans (hS.below _))
          clear q1 q2 q3 q5 HQQ HW5 HB5
          generalize 8 * B.length - n = left at *
          go_wp2_with fail
          go_quiet (first | (go_at_call 21; exact Calls.quiet_of_same (Q5.out _)) | (go_at_call 37; exact Calls.quiet_of (Q1.out _)) | (go_at_call 38; exact Calls.quiet_of (Q2.out _)) | (go_at_call 39; exact Calls.quiet_of_same (Q3.out _)))
          go_wp2_with fail
          exact HR.out _ ⟨nq, rfl⟩
        · by_cases hl1 : j < La
          · have h60 : (60 : Nat) ≤ j := by omega
            obtain rfl : j = 60 := by omega
            have hji : (60 : Int) < (La : Int) := by omega
            have HAr := Lib.hid (HA.out.below HI.out.below)
            obtain ⟨x, hx⟩ : ∃ x, acts[60]? = some x := ⟨acts[60]'(by rw [← HLA.out]; exact hl1), List.getElem?_eq_getElem _⟩
            obtain ⟨ga, oa, ca', e1, e2, e3⟩ | ⟨e1, e2⟩ := HAr.out
            rotate_left
            · have := HLA.out; rw [e2] at this; simp at this; omega
            obtain ⟨rfl, e4, rfl⟩ : pa = some ⟨ga, oa, none⟩ ∧ La = acts.length ∧ ca = ca' := by simpa using e1
            obtain ⟨hn0, c0, c1, c2, c3, _⟩ := e3 60 x hx
            obtain ⟨what, m, N, bv, bb⟩ := x
            simp only at hn0 c0 c1 c2 c3
            have hsx : SlW w bv bb := HA.out.sl 60 _ hx
            obtain ⟨pb, cb, rfl⟩ := hsx.shape
            clear hsx
            have HBx : Hid (Below w.heap.size w (wr.alloc (.cells #[.int .i64 what, .int .i64 m, .int .u64 (N : Int), .slice pb bb.length cb] 32))) := Lib.hid (HI.out.below.trans (((Below.refl _ _).alloc (Nat.le_refl _) _).mono HI.out.below.size))
            clear e1 e2 e3 e4 hx HAr HI hn0 hlt h60 hl1
            generalize bb.length = lb at *
            have c1' : wr.cell? ⟨ga, oa + 60 * 4 + 1, none⟩ = some (.int .i64 m) := c1
            go_wp2_with fail
            refine (wakes_walk _).mono ?_
            rintro e we ⟨rfl, hb⟩
            have HQ : Hid (BoolPost true w (.returned (.bool true)) we) := Lib.hid ⟨rfl, HBx.out.trans (hb.mono HBx.out.size)⟩
            clear hb HBx
            go_wp2_with fail
            go_ret
            exact HQ.out
          · have hji : (La : Int) ≤ (j : Int) := by omega
            have HBx := Lib.hid HI.out.below
            clear HI hlt
            go_wp2_with fail
            refine (wakes_walk wr).mono ?_
            rintro e we ⟨rfl, hb⟩
            have HQ : Hid (BoolPost true w (.returned (.bool true)) we) := Lib.hid ⟨rfl, HBx.out.trans (hb.mono HBx.out.size)⟩
            clear hb HBx
            go_wp2_with fail
            go_ret
            exact HQ.out
end Go.Proofs.Ytggpdkcmihgdeaa
