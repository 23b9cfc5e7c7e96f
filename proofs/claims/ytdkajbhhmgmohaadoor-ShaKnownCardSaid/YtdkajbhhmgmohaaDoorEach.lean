/-
  The contract of sha.eachBlock, over the method value s.press: every whole block of a slice's bytes is worked in; the rest is handed back.
-/
import Derived.Test.YtdkajbhhmgmohaaDoorPress
namespace Go.Proofs.YtdkajbhhmgmohaaDoor
open Go.RowKit Sha

theorem Only.cell {g : Nat} {w w' : World} (h : Only g w w') {a : Addr} {v : Value} (hc : w.cell? a = some v) (hne : a.block ≠ g) : w'.cell? a = some v := by
  rw [World.cell?_of_block (w := w) (h.block a.block (block_lt_of_cell hc) hne)]; exact hc
theorem KAt.only {g : Nat} {w w' : World} (h : KAt w) (ho : Only g w w') (hg : g ≠ 2) : KAt w' := fun i hi => ho.cell (h i hi) (fun e => hg e.symm)
theorem BytesAt.only {g gs o : Nat} {w w' : World} {bs : List UInt8} (h : BytesAt w g o bs) (ho : Only gs w w') (hg : g ≠ gs) : BytesAt w' g o bs := fun i hi => ho.cell (h i hi) hg
theorem BytesAt.drop {w : World} {g o : Nat} {bs : List UInt8} (h : BytesAt w g o bs) (k : Nat) : BytesAt w g (o + k) (bs.drop k) := fun i hi => by
  have := h (k + i) (by simp at hi; omega)
  rw [Nat.add_assoc, this]; simp
theorem BytesAt.take {w : World} {g o : Nat} {bs : List UInt8} (h : BytesAt w g o bs) (k : Nat) : BytesAt w g o (bs.take k) := fun i hi => by
  have := h i (by simp at hi; omega)
  rw [this]; simp at hi; simp [show i < k by omega]

/-- A slice value reads as these bytes, none of them in block gs. -/
def SlB (gs : Nat) (w : World) (v : Value) (bs : List UInt8) : Prop :=
  (∃ g o cap, v = .slice (some ⟨g, o, none⟩) bs.length cap ∧ bs.length ≤ cap ∧ (0 < bs.length → g ≠ gs) ∧ BytesAt w g o bs) ∨ (∃ p, v = .slice p 0 0 ∧ bs = [])
theorem SlB.only {gs : Nat} {w w' : World} {v : Value} {bs : List UInt8} (h : SlB gs w v bs) (ho : Only gs w w') : SlB gs w' v bs := by
  rcases h with ⟨g, o, cap, h1, h2, h3, h4⟩ | h
  · refine .inl ⟨g, o, cap, h1, h2, h3, ?_⟩
    by_cases h0 : 0 < bs.length
    · exact h4.only ho (h3 h0)
    · intro i hi; omega
  · exact .inr h

def sliceLen : Value → Nat | .slice _ n _ => n | _ => 0

/-- k blocks of bytes worked into a hash. -/
def blocksTo (s : St) (bs : List UInt8) : Nat → St
  | 0 => s
  | k + 1 => compress (blocksTo s bs k) ((bs.drop (64 * k)).take 64)

def EachPost (gs T : Nat) (mk : Bool) (s : St) (rest : List UInt8) (n : Nat) (bs : List UInt8) (w : World) (e : Ending) (w' : World) : Prop :=
  ∃ v', e = .returned v' ∧ SlB gs w' v' (bs.drop (64 * (bs.length / 64))) ∧ Only gs w w' ∧ w'.heap[gs]? = some (.cells (stc mk (blocksTo s bs (bs.length / 64)) rest n) T (0, 0))

def EachRel (gs T : Nat) (mk : Bool) (s : St) (rest : List UInt8) (n : Nat) (bs : List UInt8) (w : World) (v : Value) (wr : World) : Prop :=
  ∃ k, 64 * k ≤ bs.length ∧ SlB gs wr v (bs.drop (64 * k)) ∧ Only gs w wr ∧ wr.heap[gs]? = some (.cells (stc mk (blocksTo s bs k) rest n) T (0, 0))

set_option maxRecDepth 100000 in
set_option maxHeartbeats 400000 in
theorem each_walk (gs T : Nat) (mk : Bool) (s : St) (rest : List UInt8) (n : Nat) (v : Value) (bs : List UInt8) (w : World) (hv : SlB gs w v bs)
    (hS : w.heap[gs]? = some (.cells (stc mk s rest n) T (0, 0))) (hK : KAt w) (hgs : gs ≠ 2) :
    Calls Tryd.prog 54 #[v, .func (.func 53) #[.pointer (some ⟨gs, 0, none⟩)] #[]] w (EachPost gs T mk s rest n bs w) := by
  have HS := Lib.hid hS
  clear hS
  go_enter Tryd.func54, Tryd.ntmps54
  go_wp2
  go_loopw [0] (fun v wr => EachRel gs T mk s rest n bs w v wr) (fun v _ => sliceLen v)
  case atStart => exact ⟨0, by omega, by simpa using hv, Only.refl _ _, HS.out⟩
  case round =>
    obtain ⟨k, hk, hs, ho, hr⟩ := hrel
    have HK := hK.only ho hgs
    have HR := Lib.hid hr
    clear hr
    by_cases hlt : 64 ≤ bs.length - 64 * k
    · have hl : 64 ≤ (bs.drop (64 * k)).length := by simp; omega
      have HQ : Hid (blocksTo s bs (k + 1) = compress (blocksTo s bs k) ((bs.drop (64 * k)).take 64)) := Lib.hid rfl
      have HD : Hid (bs.drop (64 * (k + 1)) = (bs.drop (64 * k)).drop 64) := Lib.hid (by rw [List.drop_drop]; congr 1)
      rcases hs with ⟨g, o, cap, rfl, h2, h3, h4⟩ | ⟨p, rfl, h⟩
      · generalize hbs' : bs.drop (64 * k) = bs' at *
        generalize hl' : bs'.length = L at *
        have HL := Lib.hid hl'
        have hlen := Lib.hid hbs'
        clear hl' hbs'
        have hl2 : (64 : Int) ≤ (L : Int) := by omega
        replace h3 : g ≠ gs := h3 (by omega)
        go_wp2_with fail
        refine (press_walk gs g o cap T mk (blocksTo s bs k) rest n (bs'.take 64) _ (by simp [HL.out]; omega) (by omega) (h4.take 64) HR.out HK).mono ?_
        rintro e w1 ⟨rfl, ho1, hr1⟩
        have HR1 := Lib.hid hr1
        clear hr1
        have hfin : ∀ v', SlB gs w1 v' (bs'.drop 64) → EachRel gs T mk s rest n bs w v' w1 := fun v' hv' =>
          ⟨k + 1, by omega, by rw [HD.out]; exact hv', ho.trans ho1, by rw [HQ.out]; exact HR1.out⟩
        have hcap : 64 ≤ cap := by omega
        have h5 : BytesAt w1 g (o + 64) (bs'.drop 64) := (h4.drop 64).only ho1 h3
        by_cases hc64 : cap = 64
        · obtain rfl : L = 64 := by omega
          subst hc64
          go_wp2_with fail
          refine ⟨hfin _ (.inl ⟨g, o, 0, ?_, ?_, fun _ => h3, ?_⟩), by simp [sliceLen]⟩
          · simp [HL.out]
          · simp [HL.out]
          · intro i hi; simp [HL.out] at hi
        · go_wp2_with fail
          refine ⟨hfin _ (.inl ⟨g, o + 64, cap - 64, ?_, ?_, fun _ => h3, h5⟩), by simp [sliceLen]; omega⟩
          · simp [HL.out]
          · simp [HL.out]; omega
      · rw [h] at hl; simp at hl
    · have hkk : Hid (k = bs.length / 64) := Lib.hid (by omega)
      have hl : (bs.drop (64 * k)).length < 64 := by simp; omega
      have hend : ∀ v', SlB gs wr v' (bs.drop (64 * k)) → EachPost gs T mk s rest n bs w (.returned v') wr := fun v' hv' =>
        ⟨v', rfl, by rw [← hkk.out]; exact hv', ho, by rw [← hkk.out]; exact HR.out⟩
      rcases hs with ⟨g, o, cap, rfl, h2, h3, h4⟩ | ⟨p, rfl, h⟩
      · have hfin := hend _ (.inl ⟨g, o, cap, rfl, h2, h3, h4⟩)
        have : ((bs.drop (64 * k)).length : Int) < 64 := by omega
        generalize (bs.drop (64 * k)).length = L at *
        clear hend
        go_wp2_with fail
        go_ret
        exact hfin
      · have hfin := hend _ (.inr ⟨p, rfl, h⟩)
        clear hend
        go_wp2_with fail
        go_ret
        exact hfin
end Go.Proofs.YtdkajbhhmgmohaaDoor
