/-
  Get.
-/
import Derived.Test.YtjgphicmkmdeiaaDoorPg
namespace Go.Proofs.YtjgphicmkmdeiaaDoor
open Go.RowKit Go.Maps

/-- Records, as cells. -/
def nr (l : List Px.Rec) : List Value := l.flatMap fun r => [.string ⟨r.1.toArray⟩, .string ⟨r.2.toArray⟩]
theorem nr_append (a b : List Px.Rec) : nr (a ++ b) = nr a ++ nr b := by simp [nr]
theorem nr_length (l : List Px.Rec) : (nr l).length = l.length * 2 := by
  induction l with
  | nil => rfl
  | cons s t ih => show (_ :: _ :: nr t).length = _; simp only [List.length_cons]; rw [ih]; omega
theorem own_staysK {base k : Nat} {e : TypeId} {w w' : World} {v : Value} {n : Nat} {l : List Value} (h : w.ownsRow base e k v n l) (hb : ∀ j, v.ownBlock = some j → w'.heap[j]? = w.heap[j]?) : w'.ownsRow base e k v n l := by
  obtain ⟨h0, ⟨h1, h2⟩ | ⟨g, cap, cur, h1, h2, h3, h4⟩⟩ := h
  · exact ⟨h0, .inl ⟨h1, h2⟩⟩
  · exact ⟨h0, .inr ⟨g, cap, cur, h1, h2, (hb g (by rw [h1]; rfl)).trans h3, h4⟩⟩
theorem own_leK {base B k : Nat} {e : TypeId} {w : World} {v : Value} {n : Nat} {l : List Value} (h : w.ownsRow base e k v n l) (hB : B ≤ base) : w.ownsRow B e k v n l := by
  obtain ⟨h0, ⟨h1, h2⟩ | ⟨g, cap, cur, h1, h2, h3⟩⟩ := h
  · exact ⟨h0, .inl ⟨h1, h2⟩⟩
  · exact ⟨h0, .inr ⟨g, cap, cur, h1, Nat.le_trans hB h2, h3⟩⟩
theorem own_shape {base k : Nat} {e : TypeId} {w : World} {v : Value} {n : Nat} {l : List Value} (h : w.ownsRow base e k v n l) : ∃ p cap, v = .slice p n cap := by
  obtain ⟨_, ⟨h1, h2⟩ | ⟨g, cap, cur, h1, _⟩⟩ := h
  · exact ⟨_, _, by rw [h2]; exact h1⟩
  · exact ⟨_, _, h1⟩
theorem own_toK {base k : Nat} {e : TypeId} {w : World} {v : Value} {n : Nat} {l : List Value} (h : w.ownsRow base e k v n l) (hl : l.length = n * k) : SlK k w v n l := by
  obtain ⟨h0, ⟨h1, h2⟩ | ⟨g, cap, cur, h1, h2, h3, h4, h5, h6, h7⟩⟩ := h
  · exact ⟨hl, .inr ⟨none, h1, by omega⟩⟩
  · refine ⟨hl, .inl ⟨g, 0, cap, h1, by omega, fun i u hi => ?_⟩⟩
    rw [Nat.zero_add, cell_of_row _ _ _ _ _ _ h3]
    have hi' := (List.getElem?_eq_some_iff.1 hi).1
    have e : cur.toList[i]? = l[i]? := by
      rw [← h7, List.getElem?_take, if_pos (by omega)]
    rw [← Array.getElem?_toList, e, hi]
theorem SlK.below {k m : Nat} {w w' : World} {v : Value} {vs : List Value} (h : SlK k w v m vs) {B : Nat} (hb : Below B w w') (hB : w.heap.size ≤ B) : SlK k w' v m vs := by
  obtain ⟨h0, ⟨g, o, cap, h1, h2, h3⟩ | h⟩ := h
  · refine ⟨h0, .inl ⟨g, o, cap, h1, h2, fun i u hi => ?_⟩⟩
    have h4 := h3 i u hi
    have h5 := block_lt_of_cell h4
    exact (hb.cell (p := ⟨g, o + i, none⟩) (Nat.lt_of_lt_of_le h5 hB)).trans h4
  · exact ⟨h0, .inr h⟩
theorem SlK.shape {k m : Nat} {w : World} {v : Value} {vs : List Value} (h : SlK k w v m vs) : ∃ p cap, v = .slice p m cap := by
  obtain ⟨_, ⟨g, o, cap, h, _⟩ | ⟨p, h, rfl⟩⟩ := h
  · exact ⟨_, _, h⟩
  · exact ⟨_, _, h⟩
/-- Records in memory. -/
def SlR (w : World) (v : Value) (rs : List Px.Rec) : Prop := SlK 2 w v rs.length (nr rs)
/-- An own slice of records (of either package's type). -/
def OwnR (B : Nat) (t : TypeId) (w : World) (v : Value) (rs : List Px.Rec) : Prop := w.ownsRow B t 2 v rs.length (nr rs)
theorem OwnR.toR {B : Nat} {t : TypeId} {w : World} {v : Value} {rs : List Px.Rec} (h : OwnR B t w v rs) : SlR w v rs := own_toK h (nr_length rs)
theorem SlK_rec (w : World) (x y : Value) (t : TypeId) : SlK 2 (w.alloc (.cells #[x, y] t)) (.slice (some ⟨w.heap.size, 0, none⟩) 1 1) 1 [x, y] := by
  refine ⟨rfl, .inl ⟨w.heap.size, 0, 1, rfl, Nat.le_refl _, fun i v hi => ?_⟩⟩
  rw [Nat.zero_add]
  exact (cell_of_row _ _ _ _ _ _ (heap_alloc_new w _)).trans (by simpa using hi)
/-- What Get has under way: what is left to be read, and what is read. -/
structure GetS (w : World) (L : List UInt8) (wx : World) (s : List UInt8) (acc : List Px.Rec) (v : Value) : Prop where
  below : Below w.heap.size w wx
  box : BoxAt wx w.heap.size (.string ⟨s.toArray⟩) 9
  own : OwnR (w.heap.size + 1) 37 wx v acc
  len : s.length ≤ 16777216
  cnt : acc.length + s.length ≤ 16777216
  eq : Px.get L = match Px.get s with | .error e => .error e | .ok t => .ok (acc ++ t)
/-- Get's answer. -/
def GetPost (w : World) (L : List UInt8) (e : Ending) (w' : World) : Prop := Below w.heap.size w w' ∧
  ((16777216 < L.length ∧ e = .returned (.tuple #[.slice none 0 0, .int .i64 3])) ∨
   (L.length ≤ 16777216 ∧ ∃ x : Nat, Px.get L = .error x ∧ e = .returned (.tuple #[.slice none 0 0, .int .i64 (x : Int)])) ∨
   (L.length ≤ 16777216 ∧ ∃ rs u, Px.get L = .ok rs ∧ e = .returned (.tuple #[u, .int .i64 0]) ∧ OwnR w.heap.size 37 w' u rs))
theorem GetS.step {w : World} {L : List UInt8} {wx wy : World} {s rest : List UInt8} {acc : List Px.Rec} {v : Value} {r : Px.Rec} (h : GetS w L wx s acc v) (ho : Px.one s = .ok (r, rest)) (hb : BoxAt wy w.heap.size (.string ⟨rest.toArray⟩) 9) (hg : ButG w.heap.size wx wy) {wz wa : World} (ha : Below wy.heap.size wy wa) {v' : Value}
    (hown : wz.ownsRow (w.heap.size + 1) 37 2 v' (acc.length + 1) (nr acc ++ nr [r])) (hgrow : wa.grownBy wz v.ownBlock) : GetS w L wz rest (acc ++ [r]) v' := by
  have hlt := h.box.lt
  have hl := Px.one_less ho
  have hB1 : Below w.heap.size w wy := h.below.trans (hg.below (Nat.le_refl _) h.below.size)
  have hB2 : Below w.heap.size w wa := hB1.trans (ha.mono hB1.size)
  have hB3 : Below w.heap.size w wz := hB2.grown hgrow hB2.size (fun k hk => by have := (h.own.lt k hk).1; omega)
  have hBz : Below (w.heap.size + 1) wa wz := (Below.refl _ wa).grown hgrow (by have := hg.size; have := ha.size; omega) (fun k hk => (h.own.lt k hk).1)
  refine ⟨hB3, ?_, ?_, by have := h.len; omega, by have := h.cnt; simp; omega, ?_⟩
  · exact (hBz.block _ (by omega)).trans ((ha.block _ (by have := hg.size; omega)).trans hb)
  · unfold OwnR
    rw [nr_append, List.length_append]; exact hown
  · rw [h.eq, Px.get_one ho]
    cases Px.get rest with
    | error e => rfl
    | ok t => simp
theorem next_err (w : World) (gb : Nat) (s : List UInt8) (x : Nat) (hB : BoxAt w gb (.string ⟨s.toArray⟩) 9) (hs : s.length ≤ 16777216) (hP : PxAt w) (ho : Px.one s = .error x) :
    Calls Tryd.prog 31 #[.pointer (some ⟨gb, 0, none⟩)] w fun e w' => e = .returned (.tuple #[.agg #[.string ⟨#[]⟩, .string ⟨#[]⟩], .int .i64 (x : Int)]) ∧ Below w.heap.size w w' := by
  unfold Px.one at ho
  split at ho
  · rename_i e1 h1; cases ho; exact next_a w gb s x hB hs hP h1
  · rename_i n b h1
    split at ho
    · rename_i e1 h2; cases ho; exact next_b w gb s b n x hB hs hP h1 h2
    · cases ho
theorem next_ok (w : World) (gb : Nat) (s rest : List UInt8) (r : Px.Rec) (hB : BoxAt w gb (.string ⟨s.toArray⟩) 9) (hs : s.length ≤ 16777216) (hP : PxAt w) (ho : Px.one s = .ok (r, rest)) :
    Calls Tryd.prog 31 #[.pointer (some ⟨gb, 0, none⟩)] w fun e w' => e = .returned (.tuple #[.agg #[.string ⟨r.1.toArray⟩, .string ⟨r.2.toArray⟩], .int .i64 0]) ∧ BoxAt w' gb (.string ⟨rest.toArray⟩) 9 ∧ ButG gb w w' := by
  unfold Px.one at ho
  split at ho
  · cases ho
  · rename_i n b h1
    split at ho
    · cases ho
    · rename_i r2 h2
      injection ho with ho
      obtain ⟨rfl, rfl⟩ := Prod.mk.inj ho
      exact next_c w gb s b n r2 hB hs hP h1 h2
set_option maxRecDepth 100000 in
set_option maxHeartbeats 4000000 in
theorem get_walk (w : World) (v : Value) (L : List UInt8) (hv : SlV w v (bl L)) (hL : L.length ≤ 140737488355328) (hP : PxAt w) :
    Calls Tryd.prog 18 #[v] w (GetPost w L) := by
  obtain ⟨i0, hi, hz0, hz1, hz2⟩ := info_parts info37
  have HI0 := Lib.hid (And.intro hi (And.intro hz0 (And.intro hz1 hz2)))
  clear hi hz0 hz1 hz2
  obtain ⟨p, cap, rfl⟩ := hv.shape
  rw [bl_length]
  by_cases h0 : 16777216 < L.length
  · have hd : decide (16777216 < (L.length : Int)) = true := decide_eq_true (by omega)
    have HQ : Hid (GetPost w L (.returned (.tuple #[.slice none 0 0, .int .i64 3])) w) := Lib.hid ⟨Below.refl _ _, .inl ⟨h0, rfl⟩⟩
    clear hv hP h0
    go_enter Tryd.func18, Tryd.ntmps18
    go_wp2_with fail
    go_ret2
    exact HQ.out
  · have hd : decide (16777216 < (L.length : Int)) = false := decide_eq_false (by omega)
    have hcv := run_toString hv
    rw [bl_length] at hcv
    have HP := Lib.hid hP
    have HL := Lib.hid h0
    obtain ⟨bs, hbs⟩ : ∃ b, (⟨L.toArray⟩ : ByteArray) = b := ⟨_, rfl⟩
    rw [hbs] at hcv
    have HS0 : Hid (GetS w L (w.alloc (.cells #[.string bs] 9)) L [] (.slice none 0 0)) := Lib.hid ⟨(Below.refl _ _).alloc (Nat.le_refl _) _, by rw [hbs]; exact BoxAt.new w _ 9, ⟨rfl, .inl ⟨rfl, rfl⟩⟩, by omega, by simp; omega, by cases Px.get L <;> rfl⟩
    clear hv hP h0 hbs
    go_enter Tryd.func18, Tryd.ntmps18
    go_wp2_with fail
    go_loopg [6, 7, 8] L.length (fun g v6 _ _ wx => ∃ s acc, s.length ≤ g ∧ GetS w L wx s acc v6)
    case atStart => exact ⟨L, [], Nat.le_refl _, HS0.out⟩
    case round =>
      clear HS0
      obtain ⟨s, acc, hsg, hS⟩ := hrel
      have HS := Lib.hid hS
      have hb := hS.box.cell
      obtain ⟨p6, c6, hv6⟩ := own_shape hS.own
      subst hv6
      obtain ⟨bx, hbx⟩ : ∃ b, (⟨s.toArray⟩ : ByteArray) = b := ⟨_, rfl⟩
      rw [hbx] at hb
      have hbl : (bx.toList == []) = decide (s = []) := by
        rw [Lib.toList_data, ← hbx]
        cases s <;> rfl
      have HPR := Lib.hid (HP.out.below HS.out.below (Nat.le_refl _))
      clear hbx hS
      cases hs : s with
      | nil =>
        have hbl2 : (bx.toList == []) = true := by rw [hbl, hs]; rfl
        have HQ : Hid (GetPost w L (.returned (.tuple #[.slice p6 acc.length c6, .int .i64 0])) wr) := Lib.hid ⟨HS.out.below, .inr (.inr ⟨by have := HL.out; omega, acc, _, by rw [HS.out.eq, hs, Px.get_nil]; simp, rfl, own_leK HS.out.own (by omega)⟩)⟩
        clear hbl hs HS
        go_wp2_with fail
        go_ret2
        exact HQ.out
      | cons c t =>
        have hne : s ≠ [] := by rw [hs]; simp
        have hbl2 : (bx.toList == []) = false := by rw [hbl]; exact decide_eq_false hne
        clear hbl hs
        cases ho : Px.one s with
        | error x =>
          have HQ : Hid (∀ w', Below w.heap.size w w' → GetPost w L (.returned (.tuple #[.slice none 0 0, .int .i64 (x : Int)])) w') := Lib.hid (fun w' hb => ⟨hb, .inr (.inl ⟨by have := HL.out; omega, x, by rw [HS.out.eq, Px.get_stop hne ho], rfl⟩)⟩)
          have HC := Lib.hid (next_err wr w.heap.size s x HS.out.box HS.out.len HPR.out ho)
          have HX0 : Hid (1 ≤ x) := Lib.hid (by rcases Px.one_err ho with h | h <;> omega)
          have hx0 : ((x : Int) == 0) = false := by rw [beq_eq_false_iff_ne]; have := HX0.out; omega
          clear ho hne
          go_wp2_with ((with_reducible refine HC.out.mono ?_); rintro e w1 ⟨rfl, hb⟩; have HB1 : Hid (Below w.heap.size w w1) := Lib.hid (HS.out.below.trans (hb.mono HS.out.below.size)); clear hb)
          go_ret2
          exact HQ.out _ (HB1.out.alloc HB1.out.size _)
        | ok pr =>
          obtain ⟨r, rest⟩ := pr
          have HC := Lib.hid (next_ok wr w.heap.size s rest r HS.out.box HS.out.len HPR.out ho)
          have HO := Lib.hid ho
          have HLS : Hid (rest.length < s.length) := Lib.hid (Px.one_less ho)
          obtain ⟨k1, k2⟩ := r
          obtain ⟨b1, hb1⟩ : ∃ x, (⟨k1.toArray⟩ : ByteArray) = x := ⟨_, rfl⟩
          obtain ⟨b2, hb2⟩ : ∃ x, (⟨k2.toArray⟩ : ByteArray) = x := ⟨_, rfl⟩
          simp only at HC
          rw [hb1, hb2] at HC
          have HN1 : Hid (nr [(k1, k2)] = [.string b1, .string b2]) := Lib.hid (by rw [← hb1, ← hb2]; rfl)
          clear ho hne hb1 hb2
          go_wp2_with (first
            | ((with_reducible refine HC.out.mono ?_); rintro e w1 ⟨rfl, hbx1, hg1⟩; have HBX := Lib.hid hbx1; have HG := Lib.hid hg1; have HWA : Hid (Below w1.heap.size w1 ((w1.alloc (.cells #[.string b1, .string b2] 37)).alloc (.cells #[.string b1, .string b2] 37))) := Lib.hid (((Below.refl _ _).alloc (Nat.le_refl _) _).alloc (by rw [World.size_alloc]; omega) _); have HOWN : Hid (((w1.alloc (.cells #[.string b1, .string b2] 37)).alloc (.cells #[.string b1, .string b2] 37)).ownsRow (w.heap.size + 1) 37 2 (.slice p6 acc.length c6) acc.length (nr acc)) := Lib.hid (own_staysK HS.out.own (fun j hj => by have h9 := HS.out.own.lt j hj; rw [HWA.out.block j (Nat.lt_of_lt_of_le h9.2 HG.out.size)]; exact HG.out.block j h9.2 (by omega))); have HSK : Hid (SlK 2 ((w1.alloc (.cells #[.string b1, .string b2] 37)).alloc (.cells #[.string b1, .string b2] 37)) (.slice (some ⟨w1.heap.size + 1, 0, none⟩) 1 1) 1 [.string b1, .string b2]) := Lib.hid (by have h9 := SlK_rec (w1.alloc (.cells #[.string b1, .string b2] 37)) (.string b1) (.string b2) 37; rw [World.size_alloc] at h9; exact h9); have HSZ : Hid (w.heap.size + 1 ≤ ((w1.alloc (.cells #[.string b1, .string b2] 37)).alloc (.cells #[.string b1, .string b2] 37)).heap.size) := Lib.hid (by have h7 := HS.out.box.lt; have h8 := HG.out.size; have h9 := HWA.out.size; omega); have HCT : Hid (acc.length + 1 ≤ 1099511627776) := Lib.hid (by have := HS.out.cnt; omega); clear hb hbx1 hg1)
            | (refine wpList_appK 22 37 i0 (.agg #[.string ⟨#[]⟩, .string ⟨#[]⟩]) 2 32 Tryd.underlying22 HI0.out.1 HI0.out.2.1 HI0.out.2.2.1 HI0.out.2.2.2 rfl (by decide) (by decide) rfl _ _ rfl (w.heap.size + 1) (.slice p6 acc.length c6) (.slice (some ⟨w1.heap.size + 1, 0, none⟩) 1 1) acc.length 1 (nr acc) [.string b1, .string b2] rfl rfl (by intro y hy; simp at hy; rcases hy with rfl | rfl <;> rfl) HOWN.out HSK.out HSZ.out HCT.out ?_; intro v' w5 hown hgrow _; have HS5 := Lib.hid (HS.out.step HO.out HBX.out HG.out HWA.out (by rw [HN1.out]; exact hown) hgrow); clear hown hgrow))
          obtain ⟨g, rfl⟩ : ∃ g, gk = g + 1 := ⟨gk - 1, by have := HLS.out; omega⟩
          go_roundg g
          case measure => omega
          case rel => exact ⟨rest, _, by have := HLS.out; omega, HS5.out⟩
end Go.Proofs.YtjgphicmkmdeiaaDoor
