/-
  Merged, in the order in which they build: Rdr2 Src Src2 Src3.
-/
import Derived.Deep.RegionHeld3
import Derived.Lib.MinMax
import Derived.Test.YtefeilgbofphjaaDoorMg1
/-
  Contracts of bits.Reader's Get (of one bit), Align, Bytes, and NewReader.
-/
namespace Go.Proofs.YtefeilgbofphjaaDoor
open Go.RowKit

set_option maxHeartbeats 400000 in
theorem rrefusal (w : World) (g n : Nat) (v : Value) (bs : List UInt8) (h : RdAt w g v bs n) :
    Calls Tryd.prog 76 #[.pointer (some ⟨g, 0, none⟩), .int .i64 1] w (QPost (.int .i64 (if n < 8 * bs.length then 0 else 4)) w) := by
  have HU := Lib.hid (rusable w g true h.c0)
  have HL := Lib.hid (rleft w g n v bs h)
  obtain ⟨left, hl⟩ : ∃ left, left = 8 * bs.length - n := ⟨_, rfl⟩
  rw [← hl] at HL
  by_cases hn : n < 8 * bs.length
  · rw [if_pos hn]
    have h3 : (1 : Int) ≤ (left : Int) := by omega
    clear h hn hl
    go_enter Tryd.func76, Tryd.ntmps76
    go_wp2_with fail
    refine HU.out.mono ?_
    rintro e w' ⟨rfl, rfl⟩
    go_wp2_with fail
    refine HL.out.mono ?_
    rintro e w' ⟨rfl, hS⟩
    have HS := Lib.hid hS
    clear hS
    go_wp2_with fail
    go_ret
    exact ⟨rfl, HS.out⟩
  · rw [if_neg hn]
    obtain rfl : left = 0 := by omega
    clear h hn hl
    go_enter Tryd.func76, Tryd.ntmps76
    go_wp2_with fail
    refine HU.out.mono ?_
    rintro e w' ⟨rfl, rfl⟩
    go_wp2_with fail
    refine HL.out.mono ?_
    rintro e w' ⟨rfl, hS⟩
    have HS := Lib.hid hS
    clear hS
    go_wp2_with fail
    go_ret
    exact ⟨rfl, HS.out⟩
/-- Get of one bit. -/
def GetPost (g : Nat) (v : Value) (bs : List UInt8) (n : Nat) (w : World) (e : Ending) (w' : World) : Prop :=
  OnlyS (· = g) w w' ∧ if n < 8 * bs.length then e = .returned (.tuple #[.int .u64 ((bitAt bs n).toNat : Nat), .int .i64 0]) ∧ RdAt w' g v bs (n + 1)
  else e = .returned (.tuple #[.int .u64 0, .int .i64 4]) ∧ RdAt w' g v bs n
set_option maxRecDepth 100000 in
set_option maxHeartbeats 400000 in
theorem get_walk (w : World) (g n : Nat) (v : Value) (bs : List UInt8) (h : RdAt w g v bs n) :
    Calls Tryd.prog 58 #[.pointer (some ⟨g, 0, none⟩), .int .i64 1] w (GetPost g v bs n w) := by
  have HR := rrefusal w g n v bs h
  have HH := Lib.hid h
  have hb := h.small
  have hb2 := h.le
  by_cases hn : n < 8 * bs.length
  · rw [if_pos hn] at HR
    have HR := Lib.hid HR
    have HN := Lib.hid hn
    have hni : (n : Int) ≤ 8796093022208 := by omega
    clear h hb hb2 hn
    go_enter Tryd.func58, Tryd.ntmps58
    go_wp2_with fail
    refine HR.out.mono ?_
    rintro e w1 ⟨rfl, hS⟩
    have HS := Lib.hid hS
    have H1 := Lib.hid (HH.out.same hS)
    clear hS
    have c2 := H1.out.c2
    have f2 := H1.out.free 2
    go_wp2_with fail
    refine (rnumber w1 g n v bs H1.out HN.out).mono ?_
    rintro e w' ⟨rfl, rfl⟩
    have H2 := Lib.hid (H1.out.set (n + 1) (by have := HN.out; omega))
    have HO : Hid (OnlyS (· = g) w (w1.setCell ⟨g, 2, none⟩ (.int .i64 ((n + 1 : Nat) : Int)))) := Lib.hid (HS.out.before (OnlyS.setCell _ _ _ _ rfl))
    obtain ⟨x, hx⟩ : ∃ x, x = (bitAt bs n).toNat := ⟨_, rfl⟩
    rw [← hx]
    have HX := Lib.hid hx
    clear hx
    go_wp2_with fail
    go_ret2
    exact ⟨HO.out, by rw [if_pos HN.out, ← HX.out]; exact ⟨rfl, H2.out⟩⟩
  · rw [if_neg hn] at HR
    have HR := Lib.hid HR
    have HN := Lib.hid hn
    clear h hb hb2 hn
    go_enter Tryd.func58, Tryd.ntmps58
    go_wp2_with fail
    refine HR.out.mono ?_
    rintro e w1 ⟨rfl, hS⟩
    have HS := Lib.hid hS
    have H1 := Lib.hid (HH.out.same hS)
    clear hS
    go_wp2_with fail
    go_ret2
    exact ⟨HS.out.only, by rw [if_neg HN.out]; exact ⟨rfl, H1.out⟩⟩
set_option maxHeartbeats 400000 in
theorem ralign (w : World) (g n : Nat) (v : Value) (bs : List UInt8) (h : RdAt w g v bs n) :
    Calls Tryd.prog 79 #[.pointer (some ⟨g, 0, none⟩)] w fun e w' => e = .returned (.int .i64 0) ∧ OnlyS (· = g) w w' ∧ RdAt w' g v bs ((n + 7) / 8 * 8) := by
  have HU := Lib.hid (rusable w g true h.c0)
  have c2 := h.c2
  have f2 := h.free 2
  have hb := h.small
  have hb2 := h.le
  have hn' : (n : Int) ≤ 8796093022208 := by omega
  have HT := Lib.hid (h.set ((n + 7) / 8 * 8) (by omega))
  have HO : Hid (OnlyS (· = g) w (w.setCell ⟨g, 2, none⟩ (.int .i64 (((n + 7) / 8 * 8 : Nat) : Int)))) := Lib.hid (OnlyS.setCell _ _ _ _ rfl)
  have HE : Hid (((n : Int) + 8 - 1) / 8 * 8 = (((n + 7) / 8 * 8 : Nat) : Int)) := Lib.hid (by omega)
  clear h hb hb2
  go_enter Tryd.func79, Tryd.ntmps79
  go_wp2_with fail
  refine HU.out.mono ?_
  rintro e w' ⟨rfl, rfl⟩
  go_wp2_with fail
  rw [HE.out]
  go_ret
  exact ⟨rfl, HO.out, HT.out⟩
def RBytesPost (g : Nat) (v : Value) (bs : List UInt8) (n k : Nat) (w : World) (e : Ending) (w' : World) : Prop :=
  ∃ u, e = .returned (.tuple #[u, .int .i64 0]) ∧ OnlyS (· = g) w w' ∧ RdAt w' g v bs (n + k * 8) ∧ w'.ownsRow w.heap.size 5 1 u k (bl ((bs.drop (n / 8)).take k))
set_option maxRecDepth 100000 in
set_option maxHeartbeats 600000 in
theorem rbytes_ok (w : World) (g n k : Nat) (v : Value) (bs : List UInt8) (h : RdAt w g v bs n) (h8 : n % 8 = 0) (hk : n + k * 8 ≤ 8 * bs.length) :
    Calls Tryd.prog 80 #[.pointer (some ⟨g, 0, none⟩), .int .i64 (k : Int)] w (RBytesPost g v bs n k w) := by
  have HU := Lib.hid (rusable w g true h.c0)
  have HL := Lib.hid (rleft w g n v bs h)
  have c2 := h.c2
  have HH := Lib.hid h
  obtain ⟨p, cap, rfl⟩ := h.sl.shape
  rw [bl_length] at *
  obtain ⟨p', hsl, _⟩ := cut23 h.sl (n / 8) (n / 8 + k) (by omega) (by omega)
  have HSL := Lib.hid hsl
  have hb := h.small
  have hpi : (n : Int) % 8 = 0 := by omega
  have hk0 : (0 : Int) ≤ (k : Int) := by omega
  have hd0 : decide ((k : Int) < 0) = false := by simp
  have hleft : (k : Int) ≤ ((8 * bs.length - n : Nat) : Int) / 8 := by omega
  have hb1 : (n : Int) + (k : Int) * 8 ≤ 8796093022208 := by omega
  have e1 : ((n / 8 : Nat) : Int) = (n : Int) / 8 := by omega
  have e2 : ((n / 8 + k : Nat) : Int) = (n : Int) / 8 + (k : Int) := by omega
  have e3 : n / 8 + k - n / 8 = k := by omega
  rw [e1, e2, e3] at hsl
  have HE3 : Hid ((n : Int) + (k : Int) * 8 = ((n + k * 8 : Nat) : Int)) := Lib.hid (by omega)
  have hq0 : (0 : Int) ≤ (n : Int) / 8 := by omega
  have hl1 : 8 * bs.length - n ≤ 8796093022208 := by omega
  have HK : Hid (n / 8 + k ≤ bs.length) := Lib.hid (by omega)
  have HK2 : Hid (n + k * 8 ≤ 8 * bs.length) := Lib.hid hk
  have HLn : Hid (((bs.drop (n / 8)).take k).length = k) := Lib.hid (by simp; omega)
  have HB := Lib.hid hb
  clear h h8 hk hb e1 e2 e3
  generalize 8 * bs.length - n = left at *
  go_enter Tryd.func80, Tryd.ntmps80
  go_wp2_with fail
  refine HU.out.mono ?_
  rintro e w' ⟨rfl, rfl⟩
  go_wp2_with fail
  refine HL.out.mono ?_
  rintro e w1 ⟨rfl, hS⟩
  have H1 := Lib.hid (HH.out.same hS)
  have HS := Lib.hid hS
  clear hS c2
  have c1 := H1.out.c1
  have c2 := H1.out.c2
  have f2 := H1.out.free 2
  go_wp2_with fail
  rw [HE3.out]
  have H2 := Lib.hid (H1.out.set (n + k * 8) HK2.out)
  have HO2 : Hid (OnlyS (· = g) w (w1.setCell ⟨g, 2, none⟩ (.int .i64 ((n + k * 8 : Nat) : Int)))) := Lib.hid (HS.out.before (OnlyS.setCell _ _ _ _ rfl))
  generalize w1.setCell ⟨g, 2, none⟩ (.int .i64 ((n + k * 8 : Nat) : Int)) = w2 at *
  have HSV : Hid (SlV w2 (.slice p' k (cap - n / 8)) (bl ((bs.drop (n / 8)).take k))) := Lib.hid (by
    obtain ⟨p2, hsl2, hs2, _⟩ := cut23 H2.out.sl (n / 8) (n / 8 + k) (by omega) (by have := HK.out; omega)
    have := (HSL.out w2).symm.trans (hsl2 w2)
    have e : p' = p2 := by simpa using this
    rw [e]
    rw [show n / 8 + k - n / 8 = k by omega, bl_drop, bl_take] at hs2
    exact hs2)
  refine (clone_walk w2 _ _ HSV.out (by rw [HLn.out]; have := HK.out; have := HB.out; omega)).mono ?_
  rintro e w3 ⟨v', rfl, ho, hb⟩
  rw [HLn.out] at ho
  have HQ : Hid (RBytesPost g (.slice p bs.length cap) bs n k w (.returned (.tuple #[v', .int .i64 0])) w3) := Lib.hid ⟨v', rfl, HO2.out.trans (OnlyS.of_below hb), H2.out.only (S := fun _ => False) (OnlyS.of_below hb) (fun h => h) (fun _ _ _ _ _ h => h), own_le ho (by intro j hj; have := own_lt ho j hj; have := HO2.out.size; omega)⟩
  have hsh := (own_toV ho).shape
  rw [bl_length, HLn.out] at hsh
  obtain ⟨p', c', rfl⟩ := hsh
  clear ho hb hsl
  go_wp2_with fail
  go_ret2
  exact HQ.out
set_option maxHeartbeats 400000 in
theorem rbytes_short (w : World) (g n : Nat) (v : Value) (bs : List UInt8) (h : RdAt w g v bs n) (h8 : n % 8 = 0) (hk : 8 * bs.length ≤ n) :
    Calls Tryd.prog 80 #[.pointer (some ⟨g, 0, none⟩), .int .i64 1] w (QPost (.tuple #[.slice none 0 0, .int .i64 4]) w) := by
  have HU := Lib.hid (rusable w g true h.c0)
  have HL := Lib.hid (rleft w g n v bs h)
  have c2 := h.c2
  have hpi : (n : Int) % 8 = 0 := by omega
  rw [show 8 * bs.length - n = 0 by omega] at HL
  clear h h8 hk
  go_enter Tryd.func80, Tryd.ntmps80
  go_wp2_with fail
  refine HU.out.mono ?_
  rintro e w' ⟨rfl, rfl⟩
  go_wp2_with fail
  refine HL.out.mono ?_
  rintro e w1 ⟨rfl, hS⟩
  have HS := Lib.hid hS
  clear hS
  go_wp2_with fail
  go_ret2
  exact ⟨rfl, HS.out⟩
/-- A reader of these bytes, made anew. -/
def NewRPost (bs : List UInt8) (w : World) (e : Ending) (w' : World) : Prop :=
  ∃ g v, e = .returned (.pointer (some ⟨g, 0, none⟩)) ∧ Below w.heap.size w w' ∧ RdAt w' g v bs 0 ∧ w.heap.size ≤ g ∧ ∀ p m cap, v = .slice (some p) m cap → 0 < m → w.heap.size ≤ p.block
theorem own_block {base : Nat} {e : TypeId} {w : World} {v : Value} {n : Nat} {l : List Value} (h : w.ownsRow base e 1 v n l) {p : Addr} {m cap : Nat} (hv : v = .slice (some p) m cap) : v.ownBlock = some p.block := by
  subst hv
  obtain ⟨h0, ⟨h1, h2⟩ | ⟨g, c, cur, h1, h2, h3⟩⟩ := h
  · cases h1
  · cases h1; rfl
set_option maxHeartbeats 400000 in
theorem newreader_walk (w : World) (v : Value) (bs : List UInt8) (hs : SlV w v (bl bs)) (hlen : bs.length ≤ 1099511627776) :
    Calls Tryd.prog 55 #[v] w (NewRPost bs w) := by
  have HC := Lib.hid (clone_walk w v bs hs hlen)
  have HL := Lib.hid hlen
  clear hs hlen
  go_enter Tryd.func55, Tryd.ntmps55
  go_wp2_with fail
  refine HC.out.mono ?_
  rintro e w1 ⟨v', rfl, ho, hb⟩
  have HQ : Hid (NewRPost bs w (.returned (.pointer (some ⟨w1.heap.size, 0, none⟩))) (w1.alloc (.cells #[.bool true, v', .int .i64 0] 98))) := Lib.hid ⟨w1.heap.size, v', rfl, hb.alloc hb.size _, ⟨(heap_alloc_new _ _).trans rfl, own_toV (World.ownsRow.alloc ho _), Nat.zero_le _, HL.out, fun p m cap e h0 => by have := own_lt ho _ (own_block ho e); omega⟩, hb.size, fun p m cap e h0 => (own_lt ho _ (own_block ho e)).1⟩
  obtain ⟨p, cap, rfl⟩ := (own_toV ho).shape
  rw [bl_length] at HQ ⊢
  clear ho hb
  go_wp2_with fail
  go_ret
  exact HQ.out
end Go.Proofs.YtefeilgbofphjaaDoor
/-
  The source of bits: fill, the closure that hands bits on, align, bytes, left.
-/
namespace Go.Proofs.YtefeilgbofphjaaDoor
open Go.RowKit

/-- A source: its piece, and the rest behind it. O: its own blocks; B: what came in lies below. -/
structure SrcP (w : World) (B : Nat) (O : Nat → Prop) (g gp : Nat) (pv : Value) (pb : List UInt8) (n : Nat) (rv : Value) (rb : List UInt8) : Prop where
  row : w.heap[g]? = some (.cells #[.pointer (some ⟨gp, 0, none⟩), rv] 84 (0, 0))
  rd : RdAt w gp pv pb n
  rest : SlV w rv (bl rb)
  small : rb.length ≤ 1099511627776
  og : O g
  op : O gp
  ne : g ≠ gp
  ov : ∀ p m cap, pv = .slice (some p) m cap → 0 < m → O p.block ∧ p.block ≠ g
  below : ∀ p m cap, rv = .slice (some p) m cap → 0 < m → p.block < B
  own : ∀ i, O i → B ≤ i ∧ i < w.heap.size
/-- What is left. -/
def left (pb : List UInt8) (n : Nat) (rb : List UInt8) : List Bool := (Inf.bits pb).drop n ++ Inf.bits rb
def SrcAt (w : World) (B : Nat) (O : Nat → Prop) (g : Nat) (r : List Bool) : Prop :=
  ∃ gp pv pb n rv rb, SrcP w B O g gp pv pb n rv rb ∧ r = left pb n rb
/-- New blocks alone come to one's own. -/
def Grew (w : World) (O O' : Nat → Prop) : Prop := ∀ i, O' i → O i ∨ w.heap.size ≤ i
theorem Grew.refl (w : World) (O : Nat → Prop) : Grew w O O := fun _ h => .inl h
theorem Grew.trans {w w' : World} {O P Q : Nat → Prop} (h : Grew w O P) (k : Grew w' P Q) (hs : w.heap.size ≤ w'.heap.size) : Grew w O Q := fun i hi => by
  rcases k i hi with h1 | h1
  · exact h i h1
  · exact .inr (Nat.le_trans hs h1)
namespace SrcP
variable {w w' : World} {B : Nat} {O : Nat → Prop} {g gp n : Nat} {pv rv : Value} {pb rb : List UInt8}
theorem c0 (h : SrcP w B O g gp pv pb n rv rb) : w.cell? ⟨g, 0, none⟩ = some (.pointer (some ⟨gp, 0, none⟩)) := cell_of_row _ _ _ _ _ _ h.row
theorem c1 (h : SrcP w B O g gp pv pb n rv rb) : w.cell? ⟨g, 1, none⟩ = some rv := cell_of_row _ _ _ _ _ _ h.row
theorem free (h : SrcP w B O g gp pv pb n rv rb) (o : Nat) : w.frozen? ⟨g, o, none⟩ = false := frozen_of_row _ _ _ _ _ h.row
theorem lt (h : SrcP w B O g gp pv pb n rv rb) : g < w.heap.size := (Array.getElem?_eq_some_iff.1 h.row).1
/-- Whatever leaves its own blocks and what lies below B. -/
theorem only {S : Nat → Prop} (h : SrcP w B O g gp pv pb n rv rb) (ho : OnlyS S w w') (hS : ∀ i, S i → ¬ O i ∧ B ≤ i) : SrcP w' B O g gp pv pb n rv rb :=
  ⟨(ho.block g h.lt (fun hs => (hS _ hs).1 h.og)).trans h.row, h.rd.only ho (fun hs => (hS _ hs).1 h.op) (fun p m cap e h0 hs => (hS _ hs).1 (h.ov p m cap e h0).1),
    h.rest.only ho (fun p m cap e h0 hs => by have := h.below p m cap e h0; have := (hS _ hs).2; omega), h.small, h.og, h.op, h.ne, h.ov, h.below, fun i hi => ⟨(h.own i hi).1, Nat.lt_of_lt_of_le (h.own i hi).2 ho.size⟩⟩
/-- Its piece is read on. -/
theorem read {m : Nat} (h : SrcP w B O g gp pv pb n rv rb) (ho : OnlyS (· = gp) w w') (hr : RdAt w' gp pv pb m) : SrcP w' B O g gp pv pb m rv rb :=
  ⟨(ho.block g h.lt (fun e => h.ne e)).trans h.row, hr, h.rest.only ho (fun p m cap e h0 hs => by have := h.below p m cap e h0; have := (h.own _ h.op).1; omega), h.small, h.og, h.op, h.ne, h.ov, h.below, fun i hi => ⟨(h.own i hi).1, Nat.lt_of_lt_of_le (h.own i hi).2 ho.size⟩⟩
end SrcP
theorem bit8_length (x : UInt8) : (Inf.bit8 x).length = 8 := by simp [Inf.bit8]
theorem bits_length (b : List UInt8) : (Inf.bits b).length = 8 * b.length := by
  unfold Inf.bits
  induction b with
  | nil => rfl
  | cons x t ih => rw [List.flatMap_cons, List.length_append, ih, bit8_length, List.length_cons]; omega
theorem bits_append (a b : List UInt8) : Inf.bits (a ++ b) = Inf.bits a ++ Inf.bits b := by simp [Inf.bits]
theorem bits_cons (x : UInt8) (t : List UInt8) : Inf.bits (x :: t) = Inf.bit8 x ++ Inf.bits t := by simp [Inf.bits]
theorem bits_getD : ∀ (b : List UInt8) (k : Nat), k < 8 * b.length → (Inf.bits b).getD k false = bitAt b k
  | [], k, h => by simp at h
  | x :: t, k, h => by
    rw [bits_cons]
    rcases Nat.lt_or_ge k 8 with h8 | h8
    · rw [List.getD_eq_getElem?_getD, List.getElem?_append_left (by rw [bit8_length]; exact h8), ← List.getD_eq_getElem?_getD]
      unfold bitAt
      rw [show k / 8 = 0 by omega, show k % 8 = k by omega]
      simp [Inf.bit8, h8]
    · rw [List.getD_eq_getElem?_getD, List.getElem?_append_right (by rw [bit8_length]; exact h8), bit8_length, ← List.getD_eq_getElem?_getD, bits_getD t (k - 8) (by simp at h; omega)]
      unfold bitAt
      rw [show k / 8 = (k - 8) / 8 + 1 by omega, show k % 8 = (k - 8) % 8 by omega, List.getD_cons_succ]
theorem left_length (pb : List UInt8) (n : Nat) (rb : List UInt8) : (left pb n rb).length = 8 * pb.length - n + 8 * rb.length := by
  unfold left; rw [List.length_append, List.length_drop, bits_length, bits_length]
theorem left_next (pb : List UInt8) (n : Nat) (rb : List UInt8) (h : n < 8 * pb.length) : left pb n rb = bitAt pb n :: left pb (n + 1) rb := by
  unfold left
  rw [List.drop_eq_getElem_cons (by rw [bits_length]; exact h), List.cons_append]
  congr 1
  rw [← bits_getD pb n h]
  simp [bits_length, h]
theorem left_drop (pb : List UInt8) (n k : Nat) (rb : List UInt8) (h : n + k ≤ 8 * pb.length) : (left pb n rb).drop k = left pb (n + k) rb := by
  unfold left
  rw [List.drop_append_of_le_length (by rw [List.length_drop, bits_length]; omega), List.drop_drop]
theorem left_fill (pb : List UInt8) (n m : Nat) (rb : List UInt8) (h : 8 * pb.length ≤ n) : left pb n rb = left (rb.take m) 0 (rb.drop m) := by
  unfold left
  rw [List.drop_eq_nil_of_le (by rw [bits_length]; exact h), List.nil_append, List.drop_zero, ← bits_append, List.take_append_drop]
/-- What fill leaves. -/
def FillPost (B : Nat) (O : Nat → Prop) (g : Nat) (r : List Bool) (w : World) (e : Ending) (w' : World) : Prop :=
  e = .returned (.tuple #[]) ∧ ∃ O' gp pv pb n rv rb, SrcP w' B O' g gp pv pb n rv rb ∧ r = left pb n rb ∧ (8 * pb.length ≤ n → rb = []) ∧ OnlyS O w w' ∧ Grew w O O'
theorem fill_new {w w1 w2 : World} {B g gp n g2 l cap m : Nat} {O : Nat → Prop} {pv v2 : Value} {pb rb : List UInt8} {p p' : Option Addr} {r : List Bool} (h : SrcP w1 B O g gp pv pb n (.slice p l cap) rb) (hn : 8 * pb.length ≤ n) (hr : r = left pb n rb) (ho : OnlyS O w w1) (hsz : w.heap.size ≤ w1.heap.size) (hm : m = min l 1024) (hl : l = rb.length)
    (hb2 : Below w1.heap.size w1 w2) (hr2 : RdAt w2 g2 v2 (rb.take m) 0) (hg2 : w1.heap.size ≤ g2) (hv2 : ∀ (p : Addr) (m cap : Nat), v2 = .slice (some p) m cap → 0 < m → w1.heap.size ≤ p.block)
    (hs : SlV w1 (.slice p' (l - m) (cap - m)) (bl (rb.drop m))) (hp : ∀ b, p' = some b → ∃ a, p = some a ∧ a.block = b.block) :
    FillPost B O g r w (.returned (.tuple #[])) ((w2.setCell ⟨g, 0, none⟩ (.pointer (some ⟨g2, 0, none⟩))).setCell ⟨g, 1, none⟩ (.slice p' (l - m) (cap - m))) := by
  have hglt := h.lt
  have hne : g ≠ g2 := by omega
  have ho2 : OnlyS (· = g) w2 ((w2.setCell ⟨g, 0, none⟩ (.pointer (some ⟨g2, 0, none⟩))).setCell ⟨g, 1, none⟩ (.slice p' (l - m) (cap - m))) := OnlyS.trans (S := (· = g)) (OnlyS.setCell _ _ _ _ rfl) (OnlyS.setCell _ _ _ _ rfl)
  have hB := (h.own _ h.og).1
  have hrow2 : w2.heap[g]? = some (.cells #[.pointer (some ⟨gp, 0, none⟩), .slice p l cap] 84 (0, 0)) := (hb2.block g hglt).trans h.row
  have hbel : ∀ q k c, Value.slice p' (l - m) (cap - m) = .slice (some q) k c → 0 < k → q.block < B := fun q k c e h0 => by
    cases e
    obtain ⟨a, ha, hab⟩ := hp q rfl
    have := h.below a l cap (by rw [ha]) (by omega)
    omega
  refine ⟨rfl, fun i => O i ∨ (w1.heap.size ≤ i ∧ i < w2.heap.size), g2, v2, rb.take m, 0, .slice p' (l - m) (cap - m), rb.drop m, ⟨?_, ?_, ?_, ?_, .inl h.og, .inr ⟨hg2, hr2.lt⟩, hne, ?_, hbel, ?_⟩, ?_, ?_, ?_, ?_⟩
  · rw [heap_setCell_same _ _ _ _ _ _ (heap_setCell_same _ _ _ _ _ _ hrow2)]; rfl
  · exact hr2.only ho2 (fun e => hne e.symm) (fun q k c e h0 hq => by have := hv2 q k c e h0; omega)
  · exact (hs.below hb2 (Nat.le_refl _)).only ho2 (fun q k c e h0 hq => by have := hbel q k c e h0; omega)
  · have := h.small; simp; omega
  · intro q k c e h0
    have h1 := hv2 q k c e h0
    have h2 : q.block < w2.heap.size := by
      rcases hr2.sl with ⟨gz, o, cap', h3, _, h5⟩ | ⟨q', h3, _⟩
      · rw [e] at h3; cases h3
        exact h5.lt h0
      · rw [e] at h3; cases h3; omega
    exact ⟨.inr ⟨h1, h2⟩, by omega⟩
  · intro i hi
    rcases hi with hi | ⟨h1, h2⟩
    · have := h.own i hi; have := hb2.size; have := ho2.size; omega
    · have := ho2.size; omega
  · rw [hr]; exact left_fill pb n m rb hn
  · intro h0
    rw [List.drop_eq_nil_iff]
    simp at h0
    omega
  · exact ho.trans' ((OnlyS.of_below hb2 : OnlyS (· = g) w1 w2).trans ho2) (fun i hi => by rw [hi]; exact .inl h.og)
  · intro i hi
    rcases hi with hi | ⟨h1, _⟩
    · exact .inl hi
    · exact .inr (by omega)
set_option maxRecDepth 100000 in
set_option maxHeartbeats 1000000 in
theorem fill_walk (w : World) (B : Nat) (O : Nat → Prop) (g : Nat) (r : List Bool) (h : SrcAt w B O g r) :
    Calls Tryd.prog 57 #[.pointer (some ⟨g, 0, none⟩)] w (FillPost B O g r w) := by
  obtain ⟨gp, pv, pb, n, rv, rb, hP, hr⟩ := h
  have HP := Lib.hid hP
  have HR := Lib.hid hr
  have c0 := hP.c0
  have HL := Lib.hid (rleft w gp n pv pb hP.rd)
  by_cases hn : n < 8 * pb.length
  · obtain ⟨k, hk⟩ : ∃ k, k = 8 * pb.length - n := ⟨_, rfl⟩
    rw [← hk] at HL
    have h0 : ((k : Int) == 0) = false := by simp; omega
    have HQ : Hid (∀ w', Same w w' → FillPost B O g r w (.returned (.tuple #[])) w') := Lib.hid fun w' hs => ⟨rfl, O, gp, pv, pb, n, rv, rb, hP.only (S := fun _ => False) hs.only (fun _ h => h.elim), HR.out, fun h => by omega, hs.only, Grew.refl _ _⟩
    clear hP hr hn hk
    go_enter Tryd.func57, Tryd.ntmps57
    go_wp2_with fail
    refine HL.out.mono ?_
    rintro e w1 ⟨rfl, hS⟩
    have HS := Lib.hid (HQ.out _ hS)
    clear hS
    go_wp2_with fail
    go_end0
    exact HS.out
  · rw [show 8 * pb.length - n = 0 by omega] at HL
    have HN := Lib.hid hn
    clear hP hr hn
    go_enter Tryd.func57, Tryd.ntmps57
    go_wp2_with fail
    refine HL.out.mono ?_
    rintro e w1 ⟨rfl, hS⟩
    have H1 := Lib.hid (HP.out.only (S := fun _ => False) hS.only (fun _ h => h.elim))
    have HO1 : Hid (OnlyS O w w1) := Lib.hid hS.only
    clear hS c0
    have c0 := H1.out.c0
    have c1 := H1.out.c1
    obtain ⟨p, cap, rfl⟩ := H1.out.rest.shape
    rw [bl_length] at c1
    obtain ⟨l, hl⟩ : ∃ l, l = rb.length := ⟨_, rfl⟩
    rw [← hl] at c1
    have HLn := Lib.hid hl
    have hsm : l ≤ 1099511627776 := by rw [hl]; exact H1.out.small
    obtain ⟨m, hm⟩ : ∃ m, m = min l 1024 := ⟨_, rfl⟩
    have hmi : min (l : Int) 1024 = (m : Int) := by omega
    clear hl
    have HM := Lib.hid hm
    clear hm
    go_wp2_with fail
    have HT := Lib.hid (to23 (n := l) (by have := H1.out.rest; rw [bl_length, ← HLn.out] at this; exact this) m (by have := HM.out; omega))
    have ht := HT.out
    obtain ⟨p', hf, hfs, hfb⟩ := from23 (n := l) (by have := H1.out.rest; rw [bl_length, ← HLn.out] at this; exact this) m (by have := HM.out; omega)
    have HF := Lib.hid hf
    have f0 := H1.out.free 0
    have f1 := H1.out.free 1
    have HW : Hid (∀ W, OnlyS (fun _ => False) w1 W → Calls Tryd.prog 55 #[.slice p m cap] W (NewRPost (rb.take m) W)) := Lib.hid fun W hW => newreader_walk W (.slice p m cap) (rb.take m) (by have := slv_heap H1.out.rest hW; rw [bl_length, ← HLn.out] at this; rw [← bl_take]; exact this.take m (by have := HM.out; omega)) (by have := H1.out.small; simp; omega)
    have HFS := Lib.hid hfs
    have HFB := Lib.hid hfb
    clear hfs hfb
    have hglt := H1.out.lt
    go_region_law (first | (go_simp; go_at_call 55; refine (HW.out _ (OnlyS.drew _)).mono ?_; rintro e w2 ⟨g2, v2, rfl, hb2, hr2, hg2, hv2⟩; have c1' := (hb2.cell (p := ⟨g, 1, none⟩) hglt).trans c1; have c0' := (hb2.cell (p := ⟨g, 0, none⟩) hglt).trans c0; have f0' := (hb2.frozen (p := ⟨g, 0, none⟩) hglt).trans f0; have f1' := (hb2.frozen (p := ⟨g, 1, none⟩) hglt).trans f1))
    all_goals go_end0
    all_goals exact fill_new (by have := H1.out; rw [bl_length, ← HLn.out] at this; exact this) (by have := HN.out; omega) HR.out HO1.out HO1.out.size HM.out HLn.out ⟨hb2.os, hb2.tape, hb2.output, hb2.size, hb2.block⟩ hr2 hg2 hv2 (by rw [← bl_drop]; exact HFS.out) HFB.out

end Go.Proofs.YtefeilgbofphjaaDoor
/-
  The closure that hands bits on; align, bytes, left; how a source is made.
-/
namespace Go.Proofs.YtefeilgbofphjaaDoor
open Go.RowKit
theorem OnlyS.drewN {S : Nat → Prop} (w : World) (n : Nat) : OnlyS S w (w.drewN n) := ⟨rfl, rfl, rfl, Nat.le_refl _, fun _ _ _ => rfl⟩
/-- One value in a block of its own. -/
def BoxAt (w : World) (g : Nat) (x : Value) (T : TypeId) : Prop := w.heap[g]? = some (.cells #[x] T (0, 0))
theorem BoxAt.cell {w : World} {g : Nat} {x : Value} {T : TypeId} (h : BoxAt w g x T) : w.cell? ⟨g, 0, none⟩ = some x := cell_of_row _ _ _ _ _ _ h
theorem BoxAt.free {w : World} {g : Nat} {x : Value} {T : TypeId} (h : BoxAt w g x T) : w.frozen? ⟨g, 0, none⟩ = false := frozen_of_row _ _ _ _ _ h
theorem BoxAt.lt {w : World} {g : Nat} {x : Value} {T : TypeId} (h : BoxAt w g x T) : g < w.heap.size := (Array.getElem?_eq_some_iff.1 h).1
theorem BoxAt.only {S : Nat → Prop} {w w' : World} {g : Nat} {x : Value} {T : TypeId} (h : BoxAt w g x T) (ho : OnlyS S w w') (hg : ¬ S g) : BoxAt w' g x T := (ho.block g h.lt hg).trans h
theorem BoxAt.set {w : World} {g : Nat} {x : Value} {T : TypeId} (h : BoxAt w g x T) (y : Value) : BoxAt (w.setCell ⟨g, 0, none⟩ y) g y T := (heap_setCell_same _ _ _ _ _ _ h).trans rfl
theorem BoxAt.new (w : World) (x : Value) (T : TypeId) : BoxAt (w.alloc (.cells #[x] T)) w.heap.size x T := heap_alloc_new _ _
theorem SrcAt.only {w w' : World} {B g : Nat} {O S : Nat → Prop} {r : List Bool} (h : SrcAt w B O g r) (ho : OnlyS S w w') (hS : ∀ i, S i → ¬ O i ∧ B ≤ i) : SrcAt w' B O g r := by
  obtain ⟨gp, pv, pb, n, rv, rb, hP, hr⟩ := h
  exact ⟨gp, pv, pb, n, rv, rb, hP.only ho hS, hr⟩
theorem SrcAt.own {w : World} {B g : Nat} {O : Nat → Prop} {r : List Bool} (h : SrcAt w B O g r) : ∀ i, O i → B ≤ i ∧ i < w.heap.size := by
  obtain ⟨gp, pv, pb, n, rv, rb, hP, hr⟩ := h
  exact hP.own
theorem Grew.not {w : World} {O O' : Nat → Prop} (h : Grew w O O') {i : Nat} (h1 : ¬ O i) (h2 : i < w.heap.size) : ¬ O' i := fun hi => by
  rcases h i hi with h3 | h3
  · exact h1 h3
  · omega
/-- A source, and the closure over it. -/
structure HandAt (w : World) (B : Nat) (O : Nat → Prop) (gb g : Nat) (r : List Bool) : Prop where
  box : BoxAt w gb (.pointer (some ⟨g, 0, none⟩)) 65
  out : ¬ O gb
  ge : B ≤ gb
  src : SrcAt w B O g r
theorem HandAt.only {w w' : World} {B gb g : Nat} {O S : Nat → Prop} {r : List Bool} (h : HandAt w B O gb g r) (ho : OnlyS S w w') (hS : ∀ i, S i → ¬ O i ∧ B ≤ i) (hb : ¬ S gb) : HandAt w' B O gb g r :=
  ⟨h.box.only ho hb, h.out, h.ge, h.src.only ho hS⟩
theorem HandAt.next {w w' : World} {B gb g : Nat} {O O' : Nat → Prop} {r r' : List Bool} (h : HandAt w B O gb g r) (hs : SrcAt w' B O' g r') (ho : OnlyS O w w') (hg : Grew w O O') : HandAt w' B O' gb g r' :=
  ⟨h.box.only ho h.out, hg.not h.out h.box.lt, h.ge, hs⟩
/-- What a call of the closure tells, and what is left. -/
def BitPost (B : Nat) (O : Nat → Prop) (gb g : Nat) (r : List Bool) (w : World) (e : Ending) (w' : World) : Prop :=
  e = .returned (.tuple #[.int .u32 ((r.headD false).toNat : Nat), .int .i64 (if r = [] then 4 else 0)]) ∧ ∃ O', HandAt w' B O' gb g r.tail ∧ OnlyS O w w' ∧ Grew w O O'
theorem wrap_b32 (b : Bool) : ((b.toNat : Nat) : Int) % 4294967296 = ((b.toNat : Nat) : Int) := by cases b <;> rfl
set_option maxRecDepth 100000 in
set_option maxHeartbeats 1000000 in
theorem bit_walk (w : World) (B : Nat) (O : Nat → Prop) (gb g : Nat) (r : List Bool) (h : HandAt w B O gb g r) :
    Calls Tryd.prog 56 #[.pointer (some ⟨gb, 0, none⟩)] w (BitPost B O gb g r w) := by
  have HH := Lib.hid h
  have hb := h.box.cell
  clear h
  go_enter Tryd.func56, Tryd.ntmps56
  go_wp2_with fail
  refine (fill_walk w B O g r HH.out.src).mono ?_
  rintro e w1 ⟨rfl, O1, gp, pv, pb, n, rv, rb, hP, hr, hf, ho, hg⟩
  have HP := Lib.hid hP
  have HO := Lib.hid ho
  have HG := Lib.hid hg
  have HR := Lib.hid hr
  have HF := Lib.hid hf
  have hb1 := (HH.out.box.only ho HH.out.out).cell
  have c0 := hP.c0
  clear hP hr hf ho hg hb
  go_wp2_with fail
  refine (get_walk w1 gp n pv pb HP.out.rd).mono ?_
  rintro e w2 ⟨ho, hp⟩
  have HO2 := Lib.hid ho
  have HOO : Hid (OnlyS O w w2) := Lib.hid (HO.out.trans' ho (fun i hi => by rw [hi]; exact HG.out _ HP.out.op))
  clear ho
  by_cases hn : n < 8 * pb.length
  · rw [if_pos hn] at hp
    obtain ⟨rfl, hrd⟩ := hp
    have HQ : Hid (BitPost B O gb g r w (.returned (.tuple #[.int .u32 ((bitAt pb n).toNat : Nat), .int .i64 0])) w2) := Lib.hid (by
      have e1 := left_next pb n rb hn
      rw [← HR.out] at e1
      refine ⟨by rw [e1]; rfl, O1, HH.out.next ⟨gp, pv, pb, n + 1, rv, rb, HP.out.read HO2.out hrd, by rw [e1]; rfl⟩ HOO.out HG.out, HOO.out, HG.out⟩)
    have HW := Lib.hid (wrap_b32 (bitAt pb n))
    obtain ⟨x, hx⟩ : ∃ x, x = (bitAt pb n).toNat := ⟨_, rfl⟩
    rw [← hx] at HQ HW ⊢
    clear hx hrd hn
    go_wp2_with fail
    rw [HW.out]
    go_ret2
    exact HQ.out
  · rw [if_neg hn] at hp
    obtain ⟨rfl, hrd⟩ := hp
    have HQ : Hid (BitPost B O gb g r w (.returned (.tuple #[.int .u32 0, .int .i64 4])) w2) := Lib.hid (by
      have hrb := HF.out (by omega)
      have e1 : r = [] := by
        apply List.eq_nil_of_length_eq_zero
        rw [HR.out, left_length, hrb]
        simp; omega
      have e2 : left pb n rb = [] := by rw [← HR.out, e1]
      refine ⟨by rw [e1]; rfl, O1, HH.out.next ⟨gp, pv, pb, n, rv, rb, HP.out.read HO2.out hrd, by rw [e1, e2]; rfl⟩ HOO.out HG.out, HOO.out, HG.out⟩)
    clear hrd hn
    go_wp2_with fail
    go_ret2
    exact HQ.out
/-- Passing over the bits that are left in the byte. -/
theorem left_align (pb : List UInt8) (n : Nat) (rb : List UInt8) (h : n ≤ 8 * pb.length) : (left pb n rb).drop ((left pb n rb).length % 8) = left pb ((n + 7) / 8 * 8) rb := by
  rw [left_length, left_drop _ _ _ _ (by omega)]
  congr 1
  omega
set_option maxRecDepth 100000 in
set_option maxHeartbeats 1000000 in
theorem align_walk (w : World) (B : Nat) (O : Nat → Prop) (g : Nat) (r : List Bool) (h : SrcAt w B O g r) :
    Calls Tryd.prog 60 #[.pointer (some ⟨g, 0, none⟩)] w fun e w' => e = .returned (.tuple #[]) ∧ SrcAt w' B O g (r.drop (r.length % 8)) ∧ OnlyS O w w' := by
  obtain ⟨gp, pv, pb, n, rv, rb, hP, hr⟩ := h
  have HP := Lib.hid hP
  have HR := Lib.hid hr
  have c0 := hP.c0
  clear hP hr
  go_enter Tryd.func60, Tryd.ntmps60
  go_wp2_with fail
  refine (ralign w gp n pv pb HP.out.rd).mono ?_
  rintro e w1 ⟨rfl, ho, hrd⟩
  have HQ : Hid (SrcAt w1 B O g (r.drop (r.length % 8)) ∧ OnlyS O w w1) := Lib.hid ⟨⟨gp, pv, pb, _, rv, rb, HP.out.read ho hrd, by rw [HR.out]; exact left_align pb n rb HP.out.rd.le⟩, ho.mono (fun i _ hi => by rw [hi]; exact HP.out.op)⟩
  clear ho hrd
  go_wp2_with fail
  refine (must_ok w1).mono ?_
  rintro e w2 ⟨rfl, rfl⟩
  go_wp2_with fail
  go_end0
  exact ⟨rfl, HQ.out⟩
set_option maxRecDepth 100000 in
set_option maxHeartbeats 1000000 in
theorem left_walk (w : World) (B : Nat) (O : Nat → Prop) (g : Nat) (r : List Bool) (h : SrcAt w B O g r) :
    Calls Tryd.prog 21 #[.pointer (some ⟨g, 0, none⟩)] w fun e w' => e = .returned (.int .i64 ((r.length / 8 : Nat) : Int)) ∧ OnlyS (fun _ => False) w w' := by
  obtain ⟨gp, pv, pb, n, rv, rb, hP, hr⟩ := h
  have HL : Hid (∀ m, Calls Tryd.prog 32 #[.pointer (some ⟨gp, 0, none⟩)] (w.drewN m) fun e w' => e = .returned (.int .i64 ((8 * pb.length - n : Nat) : Int)) ∧ ∃ k, w' = (w.drewN m).drewN k) := Lib.hid fun m => rleft _ gp n pv pb (hP.rd.same ⟨m, rfl⟩)
  have c0 := hP.c0
  have c1 := hP.c1
  obtain ⟨p, cap, rfl⟩ := hP.rest.shape
  rw [bl_length] at c1
  have h1 := hP.small
  have h2 := hP.rd.small
  have HE : Hid ((rb.length : Int) + ((8 * pb.length - n : Nat) : Int) / 8 = ((r.length / 8 : Nat) : Int)) := Lib.hid (by rw [hr, left_length]; omega)
  have hl1 : 8 * pb.length - n ≤ 8796093022208 := by omega
  clear hP hr h2
  generalize 8 * pb.length - n = k at *
  generalize rb.length = l at *
  go_enter Tryd.func21, Tryd.ntmps21
  go_wp2_with fail
  go_quiet (first | (go_at_call 32; exact Calls.quiet_of (HL.out _)))
  go_wp2_with fail
  rw [HE.out]
  go_ret
  exact ⟨rfl, OnlyS.drewN _ _⟩
end Go.Proofs.YtefeilgbofphjaaDoor
/-
  Bytes out of a source; how a source is made.
-/
namespace Go.Proofs.YtefeilgbofphjaaDoor
open Go.RowKit
theorem val_testBits : ∀ (k n : Nat), Inf.val ((List.range k).map fun i => n.testBit i) = n % 2 ^ k
  | 0, n => by simp [Inf.val, Nat.mod_one]
  | k + 1, n => by
    rw [List.range_succ, List.map_append, List.map_singleton, Inf.val_snoc, val_testBits k n, List.length_map, List.length_range, Nat.pow_succ]
    have h1 : (n.testBit k).toNat = n / 2 ^ k % 2 := (bit_at n k).symm
    rw [h1, Nat.mod_mul]
    rw [Nat.mul_comm (n / 2 ^ k % 2)]
theorem val_bit8 (x : UInt8) : Inf.val (Inf.bit8 x) = x.toNat := by
  unfold Inf.bit8
  rw [val_testBits]
  have := x.toNat_lt
  omega
theorem byts_bits : ∀ (b : List UInt8) (k : Nat) (rest : List Bool), k ≤ b.length → Inf.byts k (Inf.bits b ++ rest) = b.take k
  | b, 0, _, _ => by simp [Inf.byts]
  | [], k + 1, _, h => by simp at h
  | x :: t, k + 1, rest, h => by
    have e : Inf.bits (x :: t) ++ rest = Inf.bit8 x ++ (Inf.bits t ++ rest) := by rw [bits_cons, List.append_assoc]
    have e1 : (Inf.bit8 x ++ (Inf.bits t ++ rest)).take 8 = Inf.bit8 x := by rw [List.take_append_of_le_length (by rw [bit8_length]; omega)]; exact List.take_of_length_le (by rw [bit8_length]; omega)
    have e2 : (Inf.bit8 x ++ (Inf.bits t ++ rest)).drop 8 = Inf.bits t ++ rest := by rw [List.drop_append_of_le_length (by rw [bit8_length]; omega), List.drop_eq_nil_of_le (by rw [bit8_length]; omega), List.nil_append]
    rw [e, Inf.byts, e1, e2, val_bit8, byts_bits t k rest (by simpa using h), List.take_succ_cons]
    congr 1
    simp
theorem bits_drop8 : ∀ (b : List UInt8) (q : Nat), (Inf.bits b).drop (8 * q) = Inf.bits (b.drop q)
  | b, 0 => by simp
  | [], q + 1 => by simp [Inf.bits]
  | x :: t, q + 1 => by
    have h8 := bit8_length x
    rw [bits_cons, List.drop_succ_cons, ← bits_drop8 t q, show 8 * (q + 1) = (Inf.bit8 x).length + 8 * q by omega, List.drop_append, List.drop_eq_nil_of_le (by omega), List.nil_append]
    congr 1
    omega
theorem left_byts (pb : List UInt8) (n k : Nat) (rb : List UInt8) (h8 : n % 8 = 0) (hk : n + k * 8 ≤ 8 * pb.length) : Inf.byts k (left pb n rb) = (pb.drop (n / 8)).take k := by
  unfold left
  rw [show n = 8 * (n / 8) by omega, bits_drop8, byts_bits _ _ _ (by simp; omega), show 8 * (n / 8) / 8 = n / 8 by omega]
def BytesPost (B : Nat) (O : Nat → Prop) (g : Nat) (r : List Bool) (most : Nat) (w : World) (e : Ending) (w' : World) : Prop :=
  OnlyS O w w' ∧ if r = [] then e = pan 4 else ∃ k u O', 0 < k ∧ k ≤ most ∧ 8 * k ≤ r.length ∧ e = .returned u ∧ w'.ownsRow w.heap.size 5 1 u k (bl (Inf.byts k r)) ∧ SrcAt w' B O' g (r.drop (8 * k)) ∧ Grew w O O' ∧ ∀ j, u.ownBlock = some j → ¬ O' j
theorem bytes_end {w w1 w2 w3 : World} {B g gp n t most : Nat} {O O1 : Nat → Prop} {r : List Bool} {pv rv u : Value} {pb rb : List UInt8} (hP : SrcP w1 B O1 g gp pv pb n rv rb) (ho : OnlyS O w w1) (hg : Grew w O O1) (hr : r = left pb n rb) (h8 : n % 8 = 0) (ht : 0 < t ∧ t ≤ most ∧ n + t * 8 ≤ 8 * pb.length)
    (hq : OnlyS (fun _ => False) w1 w2) (ho3 : OnlyS (· = gp) w2 w3) (hr3 : RdAt w3 gp pv pb (n + t * 8)) (hu3 : w3.ownsRow w2.heap.size 5 1 u t (bl ((pb.drop (n / 8)).take t))) : BytesPost B O g r most w (.returned u) w3 := by
  have hrl := left_length pb n rb
  rw [← hr] at hrl
  have ho13 : OnlyS (· = gp) w1 w3 := OnlyS.trans (hq.mono (fun _ _ h => h.elim)) ho3
  have hs : w.heap.size ≤ w2.heap.size := Nat.le_trans ho.size hq.size
  refine ⟨ho.trans' ho13 (fun i hi => by rw [hi]; exact hg _ hP.op), ?_⟩
  rw [if_neg (by intro e; rw [e] at hrl; simp at hrl; omega)]
  refine ⟨t, u, O1, ht.1, ht.2.1, by omega, rfl, ?_, ⟨gp, pv, pb, n + t * 8, rv, rb, hP.read ho13 hr3, ?_⟩, hg, ?_⟩
  · rw [hr, left_byts pb n t rb h8 ht.2.2]
    exact own_le hu3 (fun j hj => by have := (own_lt hu3 j hj).1; omega)
  · rw [hr, left_drop _ _ _ _ (by omega), Nat.mul_comm]
  · intro j hj hO
    have := (own_lt hu3 j hj).1
    have := (hP.own j hO).2
    have := hq.size
    omega
set_option maxRecDepth 100000 in
set_option maxHeartbeats 1000000 in
theorem bytes_walk (w : World) (B : Nat) (O : Nat → Prop) (g : Nat) (r : List Bool) (most : Nat) (h : SrcAt w B O g r) (h8 : r.length % 8 = 0) (hm : 0 < most) (hm2 : most ≤ 65535) :
    Calls Tryd.prog 62 #[.pointer (some ⟨g, 0, none⟩), .int .i64 (most : Int)] w (BytesPost B O g r most w) := by
  have HF := Lib.hid (fill_walk w B O g r h)
  clear h
  go_enter Tryd.func62, Tryd.ntmps62
  go_wp2_with fail
  refine HF.out.mono ?_
  rintro e w1 ⟨rfl, O1, gp, pv, pb, n, rv, rb, hP, hr, hf, ho, hg⟩
  clear HF
  have HP := Lib.hid hP
  have HO := Lib.hid ho
  have HG := Lib.hid hg
  have HR := Lib.hid hr
  have HF := Lib.hid hf
  have c0 := hP.c0
  have h1 := hP.rd.small
  have h2 := hP.rd.le
  have hn8 : n % 8 = 0 := by rw [hr, left_length] at h8; omega
  obtain ⟨k, hk⟩ : ∃ k, k = 8 * pb.length - n := ⟨_, rfl⟩
  have hk1 : k ≤ 8796093022208 := by omega
  have HL : Hid (∀ W, OnlyS (fun _ => False) w1 W → Calls Tryd.prog 32 #[.pointer (some ⟨gp, 0, none⟩)] W (QPost (.int .i64 (k : Int)) W)) := Lib.hid fun W hW => by rw [hk]; exact rleft W gp n pv pb (hP.rd.only hW (fun h => h) (fun _ _ _ _ _ h => h))
  by_cases hn : n < 8 * pb.length
  · obtain ⟨t, ht⟩ : ∃ t, t = min most (k / 8) := ⟨_, rfl⟩
    have HT : Hid (0 < t ∧ t ≤ most ∧ n + t * 8 ≤ 8 * pb.length) := Lib.hid (by omega)
    have hmx : max 1 (min (most : Int) (IntKind.i64.wrap ((k : Int) / 8))) = (t : Int) := by rw [show IntKind.i64.wrap ((k : Int) / 8) = (k : Int) / 8 from IntWalk.i64_in _ (by omega)]; omega
    have HB : Hid (∀ W, OnlyS (fun _ => False) w1 W → Calls Tryd.prog 80 #[.pointer (some ⟨gp, 0, none⟩), .int .i64 (t : Int)] W (RBytesPost gp pv pb n t W)) := Lib.hid fun W hW => rbytes_ok W gp n t pv pb (hP.rd.only hW (fun h => h) (fun _ _ _ _ _ h => h)) hn8 HT.out.2.2
    have HN8 := Lib.hid hn8
    have HLn : Hid ((bl ((pb.drop (n / 8)).take t)).length = t) := Lib.hid (by simp; omega)
    clear hP hr hf ho hg h1 h2 hn8 h8 hk ht hm hn
    go_wp2_with fail
    go_region_held3 (fun w' => w'.cell? ⟨g, 0, none⟩ = some (.pointer (some ⟨gp, 0, none⟩))) (first | exact c0 | exact c2' | exact c3') (first | (go_at_call 32; refine (HL.out _ (OnlyS.drew _)).mono ?_; rintro e w2 ⟨rfl, hs2⟩; have c2' := (hs2.only (S := fun _ => False)).cell c0 (fun h => h); have HS2 := Lib.hid hs2; clear hs2) | (go_at_call 80; have hq : OnlyS (fun _ => False) w1 w2 := OnlyS.trans (OnlyS.drew w1) HS2.out.only; refine (HB.out _ hq).mono ?_; rintro e w3 ⟨u, rfl, ho3, hr3, hu3⟩; have c3' := ho3.cell c2' HP.out.ne; have HO3 := Lib.hid ho3; have HR3 := Lib.hid hr3; obtain ⟨pu, cu, hsh⟩ := (own_toV hu3).shape; rw [HLn.out] at hsh; have HU3 := Lib.hid hu3; clear ho3 hr3 hu3; subst hsh))
    go_wp2_with fail
    refine (must_ok _).mono ?_
    rintro e w4 ⟨rfl, rfl⟩
    go_wp2_with fail
    go_ret
    exact bytes_end HP.out HO.out HG.out HR.out HN8.out HT.out hq HO3.out HR3.out HU3.out
  · have hr0 : r = [] := by
      apply List.eq_nil_of_length_eq_zero
      rw [hr, left_length, hf (by omega)]
      simp; omega
    have hmx : max 1 (min (most : Int) (IntKind.i64.wrap ((k : Int) / 8))) = 1 := by
      rw [show IntKind.i64.wrap ((k : Int) / 8) = (k : Int) / 8 from IntWalk.i64_in _ (by omega)]; omega
    have HB : Hid (∀ W, OnlyS (fun _ => False) w1 W → Calls Tryd.prog 80 #[.pointer (some ⟨gp, 0, none⟩), .int .i64 1] W (QPost (.tuple #[.slice none 0 0, .int .i64 4]) W)) := Lib.hid fun W hW => rbytes_short W gp n pv pb (hP.rd.only hW (fun h => h) (fun _ _ _ _ _ h => h)) hn8 (by omega)
    have HR0 := Lib.hid hr0
    clear hP hr hf ho hg h1 h2 hn8 h8 hk hm hn hr0 HR
    go_wp2_with fail
    go_region_held3 (fun w' => w'.cell? ⟨g, 0, none⟩ = some (.pointer (some ⟨gp, 0, none⟩))) (first | exact c0 | exact c2' | exact c3') (first | (go_at_call 32; refine (HL.out _ (OnlyS.drew _)).mono ?_; rintro e w2 ⟨rfl, hs2⟩; have c2' := (hs2.only (S := fun _ => False)).cell c0 (fun h => h); have HS2 := Lib.hid hs2; clear hs2) | (go_at_call 80; have hq : OnlyS (fun _ => False) w1 w2 := OnlyS.trans (OnlyS.drew w1) HS2.out.only; refine (HB.out _ hq).mono ?_; rintro e w3 ⟨rfl, ho3⟩; have c3' := (ho3.only (S := fun _ => False)).cell c2' (fun h => h); have HO3 := Lib.hid ho3; clear ho3))
    go_wp2_with fail
    refine (must_no _ 4 (by decide)).mono ?_
    rintro e w4 ⟨rfl, rfl⟩
    go_wp2_with fail
    exact ⟨rfl, HO.out.trans ((OnlyS.trans hq HO3.out.only).mono (fun _ _ h => h.elim)), by rw [if_pos HR0.out]⟩
set_option maxRecDepth 100000 in
set_option maxHeartbeats 1000000 in
/-- A source that was made anew. -/
theorem sourceOf_walk (w : World) (v : Value) (b : List UInt8) (hv : SlV w v (bl b)) (hlen : b.length ≤ 1099511627776) (hbl : ∀ p m cap, v = .slice (some p) m cap → 0 < m → p.block < w.heap.size) :
    Calls Tryd.prog 38 #[v] w fun e w' => ∃ g, e = .returned (.pointer (some ⟨g, 0, none⟩)) ∧ Below w.heap.size w w' ∧ SrcAt w' w.heap.size (fun i => w.heap.size ≤ i ∧ i < w'.heap.size) g (Inf.bits b) := by
  have HV := Lib.hid hv
  have HL := Lib.hid hlen
  have HB := Lib.hid hbl
  obtain ⟨pz, cz, rfl⟩ := hv.shape
  clear hv hlen hbl
  rw [bl_length] at *
  go_enter Tryd.func38, Tryd.ntmps38
  go_wp2_with fail
  refine (newreader_walk w (.slice none 0 0) [] (SlV.nil _ _) (by simp)).mono ?_
  rintro e w1 ⟨gp, pv, rfl, hb, hr, hg, hpv⟩
  have HQ : Hid (∃ g, (.returned (.pointer (some ⟨w1.heap.size, 0, none⟩)) : Ending) = .returned (.pointer (some ⟨g, 0, none⟩)) ∧ Below w.heap.size w (w1.alloc (.cells #[.pointer (some ⟨gp, 0, none⟩), .slice pz b.length cz] 84)) ∧ SrcAt (w1.alloc (.cells #[.pointer (some ⟨gp, 0, none⟩), .slice pz b.length cz] 84)) w.heap.size (fun i => w.heap.size ≤ i ∧ i < (w1.alloc (.cells #[.pointer (some ⟨gp, 0, none⟩), .slice pz b.length cz] 84)).heap.size) g (Inf.bits b)) := Lib.hid (by
    have hs := hb.size
    have hlt := hr.lt
    have ha : OnlyS (fun _ => False) w1 (w1.alloc (.cells #[.pointer (some ⟨gp, 0, none⟩), .slice pz b.length cz] 84)) := OnlyS.alloc _ _
    refine ⟨w1.heap.size, rfl, hb.alloc hs _, gp, pv, [], 0, .slice pz b.length cz, b, ⟨heap_alloc_new _ _, hr.only ha (fun h => h) (fun _ _ _ _ _ h => h), ?_, HL.out, ⟨hs, by simp⟩, ⟨hg, by simp; omega⟩, by omega, ?_, HB.out, fun i hi => hi⟩, ?_⟩
    · exact slv_heap (HV.out.below hb (Nat.le_refl _)) ha
    · intro p m cap e h0
      have hb0 := hr.sl
      rw [e] at hb0
      have := hb0.len
      simp at this; omega
    · simp [left, Inf.bits])
  clear hb hr hg hpv HV HL HB
  go_wp2_with fail
  go_ret
  exact HQ.out
end Go.Proofs.YtefeilgbofphjaaDoor
