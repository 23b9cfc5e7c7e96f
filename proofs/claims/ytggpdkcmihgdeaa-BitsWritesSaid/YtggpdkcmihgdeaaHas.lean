/-
  Things in memory, each with the blocks that are its own.
-/
import Derived.Test.YtggpdkcmihgdeaaSmall
namespace Go.Proofs.Ytggpdkcmihgdeaa
open Go.RowKit Bt

inductive Thing where
  | wr (g : Nat) (L : List Bool)
  | rd (g : Nat) (bs : List UInt8) (n : Nat)
  | sl (v : Value) (bs : List UInt8)
  | row (g : Nat) (L : List Bool) (n : Nat)
  | box (g : Nat) (cs : Array Value) (ty : TypeId)
def bv (l : List Bool) : List Value := l.map Value.bool
/-- A slice of bools of the call's own. -/
def OwnL (base : Nat) (w : World) (v : Value) (l : List Bool) : Prop := w.ownsRow base 4 1 v l.length (bv l)
theorem OwnL.stays {base : Nat} {w w' : World} {v : Value} {l : List Bool} (h : OwnL base w v l) (hb : ∀ k, v.ownBlock = some k → w'.heap[k]? = w.heap[k]?) : OwnL base w' v l := by
  obtain ⟨h0, ⟨h1, h2⟩ | ⟨g, cap, cur, h1, h2, h3, h4⟩⟩ := h
  · exact ⟨h0, .inl ⟨h1, h2⟩⟩
  · exact ⟨h0, .inr ⟨g, cap, cur, h1, h2, (hb g (by rw [h1]; rfl)).trans h3, h4⟩⟩
def wcs (rv : Value) (n : Nat) : Array Value := #[.bool true, rv, .int .i64 (n : Int)]
def rcs (rv : Value) (n : Nat) : Array Value := #[rv, .int .i64 (n : Int)]
def Has (w : World) (F : Nat → Prop) : Thing → Prop
  | .wr g L => ∃ rv, w.heap[g]? = some (.cells (wcs rv L.length) 67 (0, 0)) ∧ OwnB 0 w rv (pack L) ∧ F g ∧ ∀ k, rv.ownBlock = some k → F k
  | .rd g bs n => ∃ rv, w.heap[g]? = some (.cells (wcs rv n) 69 (0, 0)) ∧ OwnB 0 w rv bs ∧ F g ∧ ∀ k, rv.ownBlock = some k → F k
  | .sl v bs => OwnB 0 w v bs ∧ ∀ k, v.ownBlock = some k → F k
  | .row g L n => ∃ rv, w.heap[g]? = some (.cells (rcs rv n) 28 (0, 0)) ∧ OwnL 0 w rv L ∧ F g ∧ ∀ k, rv.ownBlock = some k → F k
  | .box g cs ty => w.heap[g]? = some (.cells cs ty (0, 0)) ∧ F g
theorem Has.stays {w w' : World} {F : Nat → Prop} {t : Thing} (h : Has w F t) (hb : ∀ k, F k → w'.heap[k]? = w.heap[k]?) : Has w' F t := by
  cases t with
  | wr g L => obtain ⟨rv, h1, h2, h3, h4⟩ := h; exact ⟨rv, (hb g h3).trans h1, h2.stays fun k hk => hb k (h4 k hk), h3, h4⟩
  | rd g L n => obtain ⟨rv, h1, h2, h3, h4⟩ := h; exact ⟨rv, (hb g h3).trans h1, h2.stays fun k hk => hb k (h4 k hk), h3, h4⟩
  | sl v bs => exact ⟨h.1.stays fun k hk => hb k (h.2 k hk), h.2⟩
  | row g L n => obtain ⟨rv, h1, h2, h3, h4⟩ := h; exact ⟨rv, (hb g h3).trans h1, h2.stays fun k hk => hb k (h4 k hk), h3, h4⟩
  | box g cs ty => exact ⟨(hb g h.2).trans h.1, h.2⟩
theorem Has.mono {w : World} {F G : Nat → Prop} {t : Thing} (h : Has w F t) (hb : ∀ k, F k → G k) : Has w G t := by
  cases t with
  | wr g L => obtain ⟨rv, h1, h2, h3, h4⟩ := h; exact ⟨rv, h1, h2, hb _ h3, fun k hk => hb _ (h4 k hk)⟩
  | rd g L n => obtain ⟨rv, h1, h2, h3, h4⟩ := h; exact ⟨rv, h1, h2, hb _ h3, fun k hk => hb _ (h4 k hk)⟩
  | sl v bs => exact ⟨h.1, fun k hk => hb _ (h.2 k hk)⟩
  | row g L n => obtain ⟨rv, h1, h2, h3, h4⟩ := h; exact ⟨rv, h1, h2, hb _ h3, fun k hk => hb _ (h4 k hk)⟩
  | box g cs ty => exact ⟨h.1, hb _ h.2⟩
/-- A footprint, and what is new. -/
def Plus (F : Nat → Prop) (w w' : World) (k : Nat) : Prop := F k ∨ (w.heap.size ≤ k ∧ k < w'.heap.size)
/-- A call has turned this thing alone. -/
structure Turn (F : Nat → Prop) (t : Thing) (w w' : World) : Prop where
  only : OnlyS F w w'
  has : Has w' (Plus F w w') t
theorem Turn.refl {F : Nat → Prop} {t : Thing} {w : World} (h : Has w F t) : Turn F t w w := ⟨OnlyS.refl _ _, h.mono fun _ hk => .inl hk⟩
theorem Turn.trans {F : Nat → Prop} {t u : Thing} {a b c : World} (h : Turn F t a b) (k : Turn (Plus F a b) u b c) : Turn F u a c :=
  ⟨h.only.trans' k.only (fun i hi => hi.elim .inl fun hi => .inr hi.1),
   k.has.mono fun i hi => by
    have h1 := h.only.size
    have h2 := k.only.size
    rcases hi with (hi | hi) | hi
    · exact .inl hi
    · exact .inr ⟨hi.1, by omega⟩
    · exact .inr ⟨by omega, hi.2⟩⟩
def Turned (v : Value) (F : Nat → Prop) (t : Thing) (w : World) (e : Ending) (w' : World) : Prop := e = .returned v ∧ Turn F t w w'
/-- Things of the call's own, each in blocks of its own, from base on. -/
structure Ws (base : Nat) (w : World) (l : List Thing) : Prop where
  size : base ≤ w.heap.size
  ex : ∃ Fs : Nat → Nat → Prop, (∀ i t, l[i]? = some t → Has w (Fs i) t) ∧ (∀ i k, Fs i k → base ≤ k ∧ k < w.heap.size) ∧ (∀ i j, i ≠ j → ∀ k, Fs i k → ¬ Fs j k) ∧ ∀ i, l.length ≤ i → ∀ k, ¬ Fs i k
theorem Ws.nil (w : World) : Ws w.heap.size w [] := ⟨Nat.le_refl _, fun _ _ => False, fun i t h => by simp at h, fun _ _ h => h.elim, fun _ _ _ _ h => h.elim, fun _ _ _ h => h⟩
theorem Ws.later {base : Nat} {w w' : World} {l : List Thing} (h : Ws base w l) (hb : Below w.heap.size w w') : Ws base w' l := by
  obtain ⟨hs, Fs, h1, h2, h3, h4⟩ := h
  exact ⟨Nat.le_trans hs hb.size, Fs, fun i t hi => (h1 i t hi).stays fun k hk => hb.block k (h2 i k hk).2, fun i k hk => ⟨(h2 i k hk).1, Nat.lt_of_lt_of_le (h2 i k hk).2 hb.size⟩, h3, h4⟩
theorem Ws.drew {base : Nat} {w : World} {l : List Thing} (h : Ws base w l) : Ws base w.drew l := h.later ⟨rfl, rfl, rfl, Nat.le_refl _, fun _ _ => rfl⟩
theorem Ws.open {base : Nat} {w : World} {l : List Thing} (h : Ws base w l) (i : Nat) (t : Thing) (hi : l[i]? = some t) :
    ∃ F, Has w F t ∧ ∀ u w', Turn F u w w' → Ws base w' (l.set i u) ∧ Below base w w' := by
  obtain ⟨hs, Fs, h1, h2, h3, h4⟩ := h
  refine ⟨Fs i, h1 i t hi, fun u w' hT => ⟨⟨Nat.le_trans hs hT.only.size, fun j => if j = i then Plus (Fs i) w w' else Fs j, fun j x hj => ?_, fun j k hk => ?_, fun j j' hne k hk => ?_, fun j hj => ?_⟩, hT.only.below hs fun k hk => (h2 i k hk).1⟩⟩
  · by_cases hji : j = i
    · subst hji
      have hlt : j < l.length := (List.getElem?_eq_some_iff.1 hi).1
      rw [List.getElem?_set_self hlt] at hj
      obtain rfl := Option.some.inj hj
      simp only [if_true]; exact hT.has
    · rw [List.getElem?_set_ne (fun e => hji e.symm)] at hj
      simp only [hji, if_false]
      exact (h1 j x hj).stays fun k hk => hT.only.block k (h2 j k hk).2 (h3 j i hji k hk)
  · simp only at hk
    have := hT.only.size
    split at hk
    · rcases hk with hk | hk
      · have := h2 i k hk; omega
      · omega
    · have := h2 j k hk; omega
  · simp only at hk ⊢
    by_cases hji : j = i
    · subst hji
      rw [if_pos rfl] at hk
      rw [if_neg (fun e => hne e.symm)]
      rcases hk with hk | hk
      · exact h3 j j' hne k hk
      · intro hk'; have := h2 j' k hk'; omega
    · rw [if_neg hji] at hk
      by_cases hji' : j' = i
      · subst hji'
        rw [if_pos rfl]
        rintro (hk' | hk')
        · exact h3 j j' hji k hk hk'
        · have := h2 j k hk; omega
      · rw [if_neg hji']; exact h3 j j' hne k hk
  · have hji : j ≠ i := by
      have hlt : i < l.length := (List.getElem?_eq_some_iff.1 hi).1
      simp at hj; omega
    simp only [hji, if_false]
    exact h4 j (by simpa using hj)
/-- What a call has made anew. -/
theorem Ws.add {base : Nat} {w w' : World} {l : List Thing} (h : Ws base w l) (hb : Below w.heap.size w w') (t : Thing) (F : Nat → Prop) (ht : Has w' F t) (hF : ∀ k, F k → w.heap.size ≤ k ∧ k < w'.heap.size) : Ws base w' (l ++ [t]) := by
  obtain ⟨hs, Fs, h1, h2, h3, h4⟩ := h
  have hsz := hb.size
  refine ⟨Nat.le_trans hs hb.size, fun j => if j = l.length then F else Fs j, fun j x hj => ?_, fun j k hk => ?_, fun j j' hne k hk => ?_, fun j hj => ?_⟩
  · by_cases hji : j = l.length
    · subst hji
      rw [List.getElem?_append_right (Nat.le_refl _)] at hj
      simp at hj
      subst hj
      simp only [if_true]; exact ht
    · simp only [hji, if_false]
      by_cases hlt : j < l.length
      · rw [List.getElem?_append_left hlt] at hj
        exact (h1 j x hj).stays fun k hk => hb.block k (h2 j k hk).2
      · rw [List.getElem?_append_right (by omega), List.getElem?_eq_none (by simp; omega)] at hj; cases hj
  · simp only at hk
    split at hk
    · have := hF k hk; omega
    · have := h2 j k hk; omega
  · simp only at hk ⊢
    by_cases hji : j = l.length
    · rw [if_pos hji] at hk
      rw [if_neg (by omega)]
      intro hk'; have := h2 j' k hk'; have := hF k hk; omega
    · rw [if_neg hji] at hk
      by_cases hji' : j' = l.length
      · rw [if_pos hji']
        intro hk'; have := h2 j k hk; have := hF k hk'; omega
      · rw [if_neg hji']; exact h3 j j' hne k hk
  · simp at hj
    simp only [show j ≠ l.length by omega, if_false]
    exact h4 j (by omega)
theorem Ws.take {base : Nat} {w : World} {l : List Thing} (h : Ws base w l) (n : Nat) : Ws base w (l.take n) := by
  obtain ⟨hs, Fs, h1, h2, h3, h4⟩ := h
  refine ⟨hs, fun j => if j < n then Fs j else fun _ => False, fun j x hj => ?_, fun j k hk => ?_, fun j j' hne k hk => ?_, fun j hj => ?_⟩
  · rw [List.getElem?_take] at hj
    split at hj
    · rename_i hlt; simp only [hlt, if_true]; exact h1 j x hj
    · cases hj
  · simp only at hk
    split at hk
    · exact h2 j k hk
    · exact hk.elim
  · simp only at hk ⊢
    split at hk
    · split
      · exact h3 j j' hne k hk
      · exact fun h => h
    · exact hk.elim
  · simp only
    split
    · exact h4 j (by simp at hj; omega)
    · exact fun _ h => h
theorem Ws.sl {base : Nat} {w : World} {l : List Thing} (h : Ws base w l) (i : Nat) (v : Value) (bs : List UInt8) (hi : l[i]? = some (.sl v bs)) : SlW w v bs := by
  obtain ⟨_, Fs, h1, _⟩ := h
  exact (h1 i _ hi).1.toW
theorem Ws.box {base : Nat} {w : World} {l : List Thing} (h : Ws base w l) (i g : Nat) (cs : Array Value) (ty : TypeId) (hi : l[i]? = some (.box g cs ty)) (o : Nat) : w.cell? ⟨g, o, none⟩ = cs[o]? := by
  obtain ⟨_, Fs, h1, _⟩ := h
  exact cell_of_row _ _ _ _ _ _ (h1 i _ hi).1
/-- A block of another type is another one. -/
theorem OwnB.apart {base G T : Nat} {w : World} {v : Value} {l : List UInt8} {cs : Array Value} (h : OwnB base w v l) (hG : w.heap[G]? = some (.cells cs T (0, 0))) (hT : T ≠ 5) : v.ownBlock ≠ some G := by
  obtain ⟨h0, ⟨h1, h2⟩ | ⟨g, cap, cur, h1, h2, h3, h4⟩⟩ := h
  · rw [h1]; intro e; cases e
  · rw [h1]
    intro e
    simp [Value.ownBlock] at e
    subst e
    rw [hG] at h3
    simp at h3
    exact hT h3.2
end Go.Proofs.Ytggpdkcmihgdeaa
