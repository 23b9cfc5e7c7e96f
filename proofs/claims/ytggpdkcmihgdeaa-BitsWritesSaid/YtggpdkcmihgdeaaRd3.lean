/-
  Contracts of (*bits.Reader).Bytes.
-/
import Derived.Test.YtggpdkcmihgdeaaRd2
namespace Go.Proofs.Ytggpdkcmihgdeaa
open Go.RowKit Bt

def RBytesPost (F : Nat → Prop) (g n k : Nat) (bs : List UInt8) (w : World) (e : Ending) (w' : World) : Prop :=
  ∃ v, e = .returned (.tuple #[v, .int .i64 0]) ∧ OnlyS F w w' ∧ Has w' F (.rd g bs (n + k * 8)) ∧ OwnB w.heap.size w' v ((bs.drop (n / 8)).take k)
theorem rset_has {w : World} {F : Nat → Prop} {g n : Nat} {bs : List UInt8} (h : Has w F (.rd g bs n)) (m : Nat) : Has (w.setCell ⟨g, 2, none⟩ (.int .i64 (m : Int))) F (.rd g bs m) := by
  obtain ⟨rv, h1, h2, h3, h4⟩ := h
  have hne := h2.apart h1 (by decide)
  exact ⟨rv, (heap_setCell_same _ _ _ _ _ _ h1).trans rfl, h2.stays fun k hk => heap_setCell_other _ _ _ _ (fun e => hne (by rw [hk, e])), h3, h4⟩
theorem Same.only {F : Nat → Prop} {a b : World} (h : Same a b) : OnlyS F a b := OnlyS.of_below (h.below _)
theorem Has.rlt {w : World} {F : Nat → Prop} {g n : Nat} {bs : List UInt8} (h : Has w F (.rd g bs n)) : g < w.heap.size := by
  obtain ⟨rv, h1, _⟩ := h
  exact (Array.getElem?_eq_some_iff.1 h1).1
/-- The part that is told, where the row stands. -/
theorem rpart {w : World} {F : Nat → Prop} {g n k : Nat} {bs : List UInt8} {p : Option Addr} {cap : Nat} (h : Has w F (.rd g bs n)) (hc : w.cell? ⟨g, 1, none⟩ = some (.slice p bs.length cap)) {q : Nat} (hk : q + k ≤ bs.length) :
    ∃ sv, (∀ w', (Instr.sliceAt 30 (.slice p bs.length cap) (some (.int .i64 (q : Int))) (some (.int .i64 ((q + k : Nat) : Int))) none).run Try.prog w' = .ok sv w') ∧ SlW w sv ((bs.drop q).take k) := by
  obtain ⟨rv, h1, h2, _⟩ := h
  obtain rfl : rv = .slice p bs.length cap := by
    have := (cell_of_row w g 1 _ 69 (0, 0) h1).symm.trans hc
    simpa [wcs] using this
  obtain ⟨sv, h3, h4⟩ := SlB_from h2.toW q (q + k) (by omega) hk
  rw [show q + k - q = k by omega] at h4
  exact ⟨sv, h3, h4⟩
set_option maxRecDepth 100000 in
set_option maxHeartbeats 600000 in
theorem rbytes_ok (w : World) (F : Nat → Prop) (g n k : Nat) (bs : List UInt8) (h : Has w F (.rd g bs n)) (h8 : n % 8 = 0) (hk : n + k * 8 ≤ 8 * bs.length) (hlen : bs.length ≤ 1099511627776) (hF : ∀ i, F i → i < w.heap.size) :
    Calls Try.prog 33 #[.pointer (some ⟨g, 0, none⟩), .int .i64 (k : Int)] w (RBytesPost F g n k bs w) := by
  have HU := Lib.hid (rusable_cell w g true h.r0)
  have HL := Lib.hid (rleft_walk w F g n bs h (by omega) hlen)
  have c2 := h.r2
  have HH := Lib.hid h
  obtain ⟨rv, h1, h2, h3, h4⟩ := h
  obtain ⟨p, cap, rfl⟩ := h2.toW.shape
  have HC1 : Hid (∀ W : World, W.heap[g]? = w.heap[g]? → W.cell? ⟨g, 1, none⟩ = some (.slice p bs.length cap)) := Lib.hid fun W hW => cell_of_row _ _ _ _ _ _ (hW.trans h1)
  obtain ⟨sv, hsl, _⟩ := rpart (k := k) (q := n / 8) HH.out (HC1.out w rfl) (by omega)
  have HSL := Lib.hid hsl
  have HF := Lib.hid hF
  have hpi : (n : Int) % 8 = 0 := by omega
  have hk0 : (0 : Int) ≤ (k : Int) := by omega
  have hd0 : decide ((k : Int) < 0) = false := by simp
  have hleft : (k : Int) ≤ ((8 * bs.length - n : Nat) : Int) / 8 := by omega
  have hb1 : (n : Int) + (k : Int) * 8 ≤ 8796093022208 := by omega
  have e1 : ((n / 8 : Nat) : Int) = (n : Int) / 8 := by omega
  have e2 : ((n / 8 + k : Nat) : Int) = (n : Int) / 8 + (k : Int) := by omega
  rw [e1, e2] at hsl
  have HE3 : Hid ((n : Int) + (k : Int) * 8 = ((n + k * 8 : Nat) : Int)) := Lib.hid (by omega)
  have hq0 : (0 : Int) ≤ (n : Int) / 8 := by omega
  have hl1 : 8 * bs.length - n ≤ 8796093022208 := by omega
  have HLen := Lib.hid hlen
  have HK : Hid (n / 8 + k ≤ bs.length) := Lib.hid (by omega)
  clear h1 h2 h3 h4 h8 hk hlen hF e1 e2
  generalize 8 * bs.length - n = left at *
  go_enter Try.func33, Try.ntmps33
  go_wp2_with fail
  refine HU.out.mono ?_
  rintro e w' ⟨rfl, rfl⟩
  go_wp2_with fail
  refine HL.out.mono ?_
  rintro e w1 ⟨rfl, hS⟩
  have H1 := Lib.hid (hS.has HH.out)
  have hheap : w1.heap = w.heap := by obtain ⟨nq, rfl⟩ := hS; rfl
  have HS := Lib.hid hS
  clear hS c2
  have c1 := HC1.out w1 (by rw [hheap])
  have c2 := H1.out.r2
  have f2 := H1.out.rfree 2
  have HP := Lib.hid hheap
  clear hheap
  go_wp2_with fail
  rw [HE3.out]
  have H2 := Lib.hid (rset_has H1.out (n + k * 8))
  have HO2 : Hid (OnlyS F w (w1.setCell ⟨g, 2, none⟩ (.int .i64 ((n + k * 8 : Nat) : Int)))) := Lib.hid (HS.out.only.trans (OnlyS.setCell _ _ _ _ (by obtain ⟨_, _, _, h3, _⟩ := H1.out; exact h3)))
  have c3 : (w1.setCell ⟨g, 2, none⟩ (.int .i64 ((n + k * 8 : Nat) : Int))).cell? ⟨g, 1, none⟩ = some (.slice p bs.length cap) := by
    have := c1
    go_simp
  have hsz : (w1.setCell ⟨g, 2, none⟩ (.int .i64 ((n + k * 8 : Nat) : Int))).heap.size = w.heap.size := by simp [World.setCell, HP.out]
  generalize w1.setCell ⟨g, 2, none⟩ (.int .i64 ((n + k * 8 : Nat) : Int)) = w2 at *
  obtain ⟨sv', hsl', hsv⟩ := rpart (k := k) (q := n / 8) H2.out c3 HK.out
  obtain rfl : sv = sv' := by
    have := (HSL.out w2).symm.trans (hsl' w2)
    simpa using this
  refine (clone_walk w2 sv _ hsv (by have := HLen.out; simp; omega)).mono ?_
  rintro e w3 ⟨v', rfl, ho, hb⟩
  have HQ : Hid (RBytesPost F g n k bs w (.returned (.tuple #[v', .int .i64 0])) w3) := Lib.hid ⟨v', rfl, HO2.out.trans (OnlyS.of_below hb), H2.out.stays fun i hi => hb.block i (by rw [hsz]; exact HF.out i hi), by rw [← hsz]; exact ho⟩
  obtain ⟨p', c', rfl⟩ := ho.toW.shape
  generalize (List.take k (List.drop (n / 8) bs)).length = ln at HQ ⊢
  clear hsl' hsv ho hb c3 hsz hsl
  go_wp2_with fail
  go_ret2
  exact HQ.out
theorem fin_err (w : World) (c : Int) : QPost (.tuple #[.slice none 0 0, .int .i64 c]) w (.returned (.tuple #[.slice none 0 0, .int .i64 c])) w := ⟨rfl, Same.refl _⟩
set_option maxHeartbeats 400000 in
theorem rbytes_lo (w : World) (F : Nat → Prop) (g n : Nat) (m : Int) (bs : List UInt8) (h : Has w F (.rd g bs n)) (hm : m < 0) :
    Calls Try.prog 33 #[.pointer (some ⟨g, 0, none⟩), .int .i64 m] w (QPost (.tuple #[.slice none 0 0, .int .i64 1]) w) := by
  have HU := Lib.hid (rusable_cell w g true h.r0)
  have hd : decide (m < 0) = true := by simpa using hm
  clear h
  go_enter Try.func33, Try.ntmps33
  go_wp2_with fail
  refine HU.out.mono ?_
  rintro e w' ⟨rfl, rfl⟩
  go_wp2_with fail
  go_ret2
  exact fin_err _ _
set_option maxHeartbeats 400000 in
theorem rbytes_mid (w : World) (F : Nat → Prop) (g n : Nat) (m : Int) (bs : List UInt8) (h : Has w F (.rd g bs n)) (hm : 0 ≤ m) (h8 : n % 8 ≠ 0) :
    Calls Try.prog 33 #[.pointer (some ⟨g, 0, none⟩), .int .i64 m] w (QPost (.tuple #[.slice none 0 0, .int .i64 1]) w) := by
  have HU := Lib.hid (rusable_cell w g true h.r0)
  have c2 := h.r2
  have hd : decide (m < 0) = false := by simpa using hm
  have hpi : (((n : Int) % 8) != 0) = true := by rw [bne_iff_ne]; omega
  clear h h8
  go_enter Try.func33, Try.ntmps33
  go_wp2_with fail
  refine HU.out.mono ?_
  rintro e w' ⟨rfl, rfl⟩
  go_wp2_with fail
  go_ret2
  exact fin_err _ _
set_option maxHeartbeats 400000 in
theorem rbytes_short (w : World) (F : Nat → Prop) (g n : Nat) (m : Int) (bs : List UInt8) (h : Has w F (.rd g bs n)) (hn : n ≤ 8 * bs.length) (hm : 0 ≤ m) (h8 : n % 8 = 0) (hk : 8 * bs.length < n + m * 8) (hlen : bs.length ≤ 1099511627776) :
    Calls Try.prog 33 #[.pointer (some ⟨g, 0, none⟩), .int .i64 m] w (QPost (.tuple #[.slice none 0 0, .int .i64 4]) w) := by
  have HU := Lib.hid (rusable_cell w g true h.r0)
  have HL := Lib.hid (rleft_walk w F g n bs h hn hlen)
  have c2 := h.r2
  have hd : decide (m < 0) = false := by simpa using hm
  have hpi : (n : Int) % 8 = 0 := by omega
  have hl : ((8 * bs.length - n : Nat) : Int) / 8 < m := by omega
  have hl1 : 8 * bs.length - n ≤ 8796093022208 := by omega
  generalize 8 * bs.length - n = left at *
  clear h h8 hk
  go_enter Try.func33, Try.ntmps33
  go_wp2_with fail
  refine HU.out.mono ?_
  rintro e w' ⟨rfl, rfl⟩
  go_wp2_with fail
  refine HL.out.mono ?_
  rintro e w1 ⟨rfl, hS⟩
  have HS := Lib.hid hS
  clear hS
  go_wp2_with fail
  go_ret2
  exact ⟨rfl, HS.out⟩
set_option maxHeartbeats 400000 in
theorem rbytes_dead (w : World) (p : Value) (m : Int) (HU : Calls Try.prog 50 #[p] w fun e w' => e = .returned (.bool false) ∧ w = w') :
    Calls Try.prog 33 #[p, .int .i64 m] w (QPost (.tuple #[.slice none 0 0, .int .i64 2]) w) := by
  have HU := Lib.hid HU
  go_enter Try.func33, Try.ntmps33
  go_wp2_with fail
  refine HU.out.mono ?_
  rintro e w' ⟨rfl, rfl⟩
  go_wp2_with fail
  go_ret2
  exact fin_err _ _
end Go.Proofs.Ytggpdkcmihgdeaa
