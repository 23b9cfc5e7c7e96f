/-
  The contract of the document's own Parse.
-/
import Derived.Test.YtdkajbhhmgmohaaDoorParse
namespace Go.Proofs.YtdkajbhhmgmohaaDoor
open Go.RowKit Sha

theorem results_row24 {fn : Func} (h : fn.results = #[.cell 2 24, .tmp 3]) (tmps : Array Value) (w : World) (g : Nat) (cs : Array Value) (x : Value)
    (hp : tmps.getD 2 undef = .pointer (some ⟨g, 0, none⟩)) (hx : tmps.getD 3 undef = x) (hg : w.heap[g]? = some (.cells cs 24 (0, 0)))
    (hi : (Tryd.prog.info? 24).map (·.size) = some cs.size) :
    (results fn tmps).run Tryd.prog w = .ok (.tuple #[.agg cs, x]) w := by
  rw [results_cell_tmp h, hp, hx]
  simp [asAddr, run_loadVar_row w g 24 24 cs (0, 0) _ hg Tryd.underlying24 rfl hi]
theorem HIz24 : (Tryd.prog.info? 24).map (·.size) = some (bcells (List.replicate 32 0)).size := size24
structure RPRel (w wr : World) (l : List UInt8) : Prop where
  below : Below w.heap.size w wr
  res : RowT 24 wr w.heap.size (List.replicate 32 0)
  row : RowT 24 wr (w.heap.size + 1) l
theorem RPRel.step {w wr : World} {l : List UInt8} (h : RPRel w wr l) (i : Nat) (x : UInt8) : RPRel w (wr.setCell ⟨w.heap.size + 1, i, none⟩ (.int .u8 (bi x))) (l.set i x) :=
  ⟨h.below.setCell (Nat.le_succ _) _, (heap_setCell_other _ _ _ _ (by simp)).trans h.res, h.row.set i x⟩
/-- What the document's Parse has written behind i digits. -/
def refTo (h : List UInt8) (i : Nat) : List UInt8 := if i % 2 = 0 then outTo h (i / 2) else (outTo h (i / 2)).set (i / 2) (UInt8.ofNat (hv (h.getD (i - 1) 0)))
theorem refTo_length (h : List UInt8) (i : Nat) : (refTo h i).length = 32 := by
  unfold refTo; split
  · exact outTo_length _ _
  · rw [List.length_set]; exact outTo_length _ _
theorem outTo_at (h : List UInt8) : ∀ k j, k ≤ j → (outTo h k).getD j 0 = 0
  | 0, j, _ => by simp only [outTo, List.getD_eq_getElem?_getD, List.getElem?_replicate]; split <;> rfl
  | k + 1, j, hj => by
    have ih := outTo_at h k j (by omega)
    simp only [outTo, List.getD_eq_getElem?_getD] at ih ⊢
    rw [List.getElem?_set_ne (by omega)]; exact ih
theorem refTo_step (h : List UInt8) (i : Nat) (hi : i < 64) (hp : i % 2 = 1 → hv (h.getD (i - 1) 0) < 16) :
    refTo h (i + 1) = (refTo h i).set (i / 2) (UInt8.ofNat (16 * ((refTo h i).getD (i / 2) 0).toNat + hv (h.getD i 0))) := by
  by_cases e : i % 2 = 0
  · have e2 : (i + 1) / 2 = i / 2 := by omega
    have e3 : ¬ (i + 1) % 2 = 0 := by omega
    simp only [refTo, if_pos e, if_neg e3, e2, outTo_at h (i / 2) (i / 2) (Nat.le_refl _), Nat.add_sub_cancel]
    simp
  · have e2 : (i + 1) / 2 = i / 2 + 1 := by omega
    have e3 : (i + 1) % 2 = 0 := by omega
    have e4 : 2 * (i / 2) = i - 1 := by omega
    have e5 : i - 1 + 1 = i := by omega
    have hl := outTo_length h (i / 2)
    have hh := hp (by omega)
    simp only [refTo, if_neg e, if_pos e3, e2, outTo, List.set_set, outB, e4, e5]
    congr 3
    simp only [List.getD_eq_getElem?_getD]
    rw [List.getElem?_set_self (by omega)]
    simp only [List.getD_eq_getElem?_getD] at hh
    simp
    omega
/-- The digit that the document's inner loop has found behind k of sixteen. -/
def found (c : UInt8) (k : Nat) : Int := if hv c < k then (hv c : Int) else -1
theorem found_step (c : UInt8) (k : Nat) (hk : k < 16) : (hexd k = c → found c (k + 1) = k) ∧ (hexd k ≠ c → found c (k + 1) = found c k) := by
  have hev : ∀ (n : Fin 256) (k : Fin 16), (hexd k.1 = UInt8.ofNat n.1 → hv (UInt8.ofNat n.1) = k.1) ∧ (hexd k.1 ≠ UInt8.ofNat n.1 → hv (UInt8.ofNat n.1) ≠ k.1) := by decide +kernel
  have := hev ⟨c.toNat, c.toNat_lt⟩ ⟨k, hk⟩
  simp only [UInt8.ofNat_toNat] at this
  unfold found
  constructor
  · intro h; rw [if_pos (by rw [this.1 h]; omega), this.1 h]
  · intro h
    have := this.2 h
    by_cases hlt : hv c < k
    · rw [if_pos hlt, if_pos (by omega)]
    · rw [if_neg hlt, if_neg (by omega)]
end Go.Proofs.YtdkajbhhmgmohaaDoor
