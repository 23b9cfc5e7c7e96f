/-
  Merged, in the order in which they build: Wtr.
-/
import Derived.Test.YtphdcgioeokfbaaDoorMg15
import Derived.Test.YtphdcgioeokfbaaDoorMg28
/-
  bits.Writer: bits, numbers, codes, bytes are laid.
-/
namespace Go.Proofs.YtphdcgioeokfbaaDoor
open Go.RowKit Hf
/-- A writer, and what it wrote. -/
structure WrAt (w : World) (B g : Nat) (sv : Value) (L : List Bool) : Prop where
  row : w.heap[g]? = some (.cells #[.bool true, sv, .int .i64 (L.length : Int)] 75 (0, 0))
  own : w.ownsRow B 5 1 sv ((L.length + 7) / 8) (bl (pack L))
  ne : ∀ j, sv.ownBlock = some j → j ≠ g
  ge : B ≤ g
/-- Its own blocks. -/
def wrX (g : Nat) (sv : Value) : Nat → Prop := fun i => i = g ∨ sv.ownBlock = some i
def WrtPost (r : Value) (B g : Nat) (L : List Bool) (X : Nat → Prop) (w : World) (e : Ending) (w' : World) : Prop :=
  e = .returned r ∧ OnlyS X w w' ∧ ∃ sv, WrAt w' B g sv L ∧ Grew w X (wrX g sv)
namespace WrAt
variable {w w' : World} {B g : Nat} {sv : Value} {L : List Bool}
theorem lt (h : WrAt w B g sv L) : g < w.heap.size := (Array.getElem?_eq_some_iff.1 h.row).1
theorem c0 (h : WrAt w B g sv L) : w.cell? ⟨g, 0, none⟩ = some (.bool true) := cell_of_row _ _ _ _ _ _ h.row
theorem c1 (h : WrAt w B g sv L) : w.cell? ⟨g, 1, none⟩ = some sv := cell_of_row _ _ _ _ _ _ h.row
theorem c2 (h : WrAt w B g sv L) : w.cell? ⟨g, 2, none⟩ = some (.int .i64 (L.length : Int)) := cell_of_row _ _ _ _ _ _ h.row
theorem free (h : WrAt w B g sv L) (o : Nat) : w.frozen? ⟨g, o, none⟩ = false := frozen_of_row _ _ _ _ _ h.row
theorem stay {S : Nat → Prop} (h : WrAt w B g sv L) (ho : OnlyS S w w') (hS : ∀ i, S i → ¬ wrX g sv i) : WrAt w' B g sv L :=
  ⟨(ho.block g h.lt (fun hs => hS g hs (.inl rfl))).trans h.row, own_stays h.own (fun k hk => ho.block k (own_lt h.own k hk).2 (fun hs => hS k hs (.inr hk))), h.ne, h.ge⟩
theorem x_lt (h : WrAt w B g sv L) : ∀ i, wrX g sv i → B ≤ i ∧ i < w.heap.size := fun i hi => by
  rcases hi with rfl | hi
  · exact ⟨h.ge, h.lt⟩
  · exact own_lt h.own i hi
end WrAt
/-- Half of a bit's way: there is a byte for it. -/
structure WrMid (w : World) (B g : Nat) (q : List UInt8) (n : Nat) (sv : Value) : Prop where
  row : w.heap[g]? = some (.cells #[.bool true, sv, .int .i64 (n : Int)] 75 (0, 0))
  own : w.ownsRow B 5 1 sv (n / 8 + 1) (bl q)
  ne : ∀ j, sv.ownBlock = some j → j ≠ g
  ge : B ≤ g
  len : q.length = n / 8 + 1
theorem bl_set (q : List UInt8) (i : Nat) (x : UInt8) : (bl q).set i (.int .u8 (bi x)) = bl (q.set i x) := by simp [bl, List.map_set]
/-- The bit is laid. -/
theorem wr_laid {w : World} {B g : Nat} {L : List Bool} {q : List UInt8} {sv : Value} {k cap : Nat} (h : WrMid w B g q L.length sv) (b : Bool) (hq : q = if L.length % 8 = 0 then pack L ++ [0] else pack L) (hs : sv = .slice (some ⟨k, 0, none⟩) (L.length / 8 + 1) cap) (x : UInt8) (hx : x = q.getD (L.length / 8) 0 ||| UInt8.ofNat (b.toNat * 2 ^ (L.length % 8))) :
    (WrAt ((w.setCell ⟨k, L.length / 8, none⟩ (.int .u8 (bi x))).setCell ⟨g, 2, none⟩ (.int .i64 ((L.length : Int) + 1))).drew B g sv (L ++ [b]) ∧ OnlyS (wrX g sv) w ((w.setCell ⟨k, L.length / 8, none⟩ (.int .u8 (bi x))).setCell ⟨g, 2, none⟩ (.int .i64 ((L.length : Int) + 1))).drew) ∧
    (w.setCell ⟨k, L.length / 8, none⟩ (.int .u8 (bi x))).heap[g]? = some (.cells #[.bool true, sv, .int .i64 (L.length : Int)] 75 (0, 0)) := by
  have hp := pack_more L b q hq
  rw [← hx] at hp
  obtain ⟨g', cap', e1, -, -, -, -, -, -, hset⟩ := own_spot h.own (by omega)
  have hkb : sv.ownBlock = some k := by rw [hs]; rfl
  have hkg := h.ne k hkb
  have e2 : g' = k := by rw [hs] at e1; cases e1; rfl
  subst e2
  have ho1 : OnlyS (wrX g sv) w (w.setCell ⟨g', L.length / 8, none⟩ (.int .u8 (bi x))) := OnlyS.setCell _ _ _ _ (.inr hkb)
  have ho2 : OnlyS (wrX g sv) (w.setCell ⟨g', L.length / 8, none⟩ (.int .u8 (bi x))) ((w.setCell ⟨g', L.length / 8, none⟩ (.int .u8 (bi x))).setCell ⟨g, 2, none⟩ (.int .i64 ((L.length : Int) + 1))) := OnlyS.setCell _ _ _ _ (.inl rfl)
  have hrow1 : (w.setCell ⟨g', L.length / 8, none⟩ (.int .u8 (bi x))).heap[g]? = some (.cells #[.bool true, sv, .int .i64 (L.length : Int)] 75 (0, 0)) := (heap_setCell_other _ _ _ _ (by show ¬ g = g'; exact fun e => hkg e.symm)).trans h.row
  refine ⟨⟨⟨?_, ?_, h.ne, h.ge⟩, (ho1.trans ho2).trans (OnlyS.drew _)⟩, hrow1⟩
  · refine (heap_setCell_same _ _ _ _ _ _ hrow1).trans ?_
    rw [List.length_append, List.length_singleton]
    rfl
  · have hw := hset (L.length / 8) (.int .u8 (bi x)) (by omega)
    rw [bl_set, ← hp.1] at hw
    have e3 : (L.length + [b].length + 7) / 8 = L.length / 8 + 1 := by simp; omega
    rw [List.length_append, e3]
    exact own_stays hw (fun j hj => heap_setCell_other _ _ _ _ (by show ¬ j = g; exact h.ne j hj))
/-- A byte more. -/
theorem wr_grown {w w1 : World} {B g : Nat} {L : List Bool} {sv v' : Value} (h : WrAt w B g sv L) (h8 : L.length % 8 = 0)
    (hown : w1.ownsRow B 5 1 v' (L.length / 8 + 1) (bl (pack L) ++ bl [0])) (hgr : (w.alloc (.cells #[.int .u8 0] 5)).grownBy w1 sv.ownBlock) (hat : v'.ownBlock = sv.ownBlock ∨ v'.ownBlock = some (w.alloc (.cells #[.int .u8 0] 5)).heap.size) :
    (WrMid (w1.setCell ⟨g, 1, none⟩ v') B g (pack L ++ [0]) L.length v' ∧ OnlyS (wrX g sv) w (w1.setCell ⟨g, 1, none⟩ v') ∧ Grew w (wrX g sv) (wrX g v')) ∧ w1.heap[g]? = some (.cells #[.bool true, sv, .int .i64 (L.length : Int)] 75 (0, 0)) := by
  have ha : OnlyS (fun _ => False) w (w.alloc (.cells #[.int .u8 0] 5)) := OnlyS.alloc _ _
  have ho1 : OnlyS (fun i => sv.ownBlock = some i) (w.alloc (.cells #[.int .u8 0] 5)) w1 := OnlyS.grown hgr (fun k hk => hk)
  have ho2 : OnlyS (· = g) w1 (w1.setCell ⟨g, 1, none⟩ v') := OnlyS.setCell _ _ _ _ rfl
  have hlt := h.lt
  have hz : (w.alloc (.cells #[.int .u8 0] 5)).heap.size = w.heap.size + 1 := by simp
  have hrow1 : w1.heap[g]? = some (.cells #[.bool true, sv, .int .i64 (L.length : Int)] 75 (0, 0)) := (ho1.block g (by omega) (fun e => h.ne g e rfl)).trans ((ha.block g hlt (fun h => h)).trans h.row)
  have hne : ∀ j, v'.ownBlock = some j → j ≠ g := fun j hj => by
    rcases hat with h1 | h1
    · exact h.ne j (by rw [← h1]; exact hj)
    · rw [h1] at hj; cases hj; omega
  refine ⟨⟨⟨(heap_setCell_same _ _ _ _ _ _ hrow1).trans rfl, own_stays (by rw [bl_append]; exact hown) (fun k hk => heap_setCell_other _ _ _ _ (hne k hk)), hne, h.ge, by rw [List.length_append, pack_length, List.length_singleton]; omega⟩, ?_, ?_⟩, hrow1⟩
  · exact ((ha.mono fun _ _ h => h.elim).trans (ho1.mono fun _ _ h => .inr h)).trans (ho2.mono fun _ _ h => .inl h)
  · intro i hi
    rcases hi with hi | hi
    · exact .inl (.inl hi)
    · rcases hat with h1 | h1
      · exact .inl (.inr (by rw [← h1]; exact hi))
      · rw [h1] at hi; cases hi; exact .inr (by omega)
/-- The byte's arithmetic. -/
theorem u8_or (a b : UInt8) : bits .or .u8 (bi a) (bi b) = bi (a ||| b) := by
  have ha := a.toNat_lt
  have hb := b.toNat_lt
  have e : ∀ x : UInt8, (BitVec.ofInt 8 (bi x)).toNat = x.toNat := fun x => by
    have hx := x.toNat_lt
    unfold bi
    rw [BitVec.ofInt_natCast, BitVec.toNat_ofNat]; exact Nat.mod_eq_of_lt (by omega)
  show IntKind.u8.wrap ((BitVec.ofInt 8 (bi a) ||| BitVec.ofInt 8 (bi b)).toNat : Int) = _
  rw [BitVec.toNat_or, e, e]
  have h : a.toNat ||| b.toNat < 2 ^ 8 := Nat.or_lt_two_pow (by omega) (by omega)
  rw [show bi (a ||| b) = ((a.toNat ||| b.toNat : Nat) : Int) by unfold bi; rw [UInt8.toNat_or]]
  generalize a.toNat ||| b.toNat = c at h
  show (c : Int) % 256 = c
  omega
theorem or_lay (y : UInt8) (b : Bool) (p : Nat) : bits .or .u8 (bi y) ((b.toNat : Int) * 2 ^ p % 256) = bi (y ||| UInt8.ofNat (b.toNat * 2 ^ p)) := by
  rw [← u8_or]
  congr 1
theorem or_lay0 (y : UInt8) (b : Bool) : bits .or .u8 (bi y) ((b.toNat : Int) % 256) = bi (y ||| UInt8.ofNat (b.toNat * 2 ^ 0)) := by
  rw [← or_lay y b 0]
  congr 1
  cases b <;> rfl
set_option maxRecDepth 100000 in
set_option maxHeartbeats 1000000 in
theorem wlay_walk (w : World) (B g : Nat) (b : Bool) (sv : Value) (L : List Bool) (h : WrAt w B g sv L) (hl : L.length ≤ 1099511627776) (hB : B ≤ w.heap.size) :
    Calls Tryd.prog 56 #[.pointer (some ⟨g, 0, none⟩), .int .u8 ((b.toNat : Nat) : Int)] w (WrtPost (.tuple #[]) B g (L ++ [b]) (wrX g sv) w) := by
  obtain ⟨po, co, hsh⟩ := (own_toV h.own).shape
  rw [bl_length, pack_length] at hsh
  subst hsh
  have c1 := h.c1
  have c2 := h.c2
  have f1 := h.free 1
  have f2 := h.free 2
  have HH := Lib.hid h
  obtain ⟨n, hn⟩ : ∃ n, n = L.length := ⟨_, rfl⟩
  rw [← hn] at c1 c2 hl
  have HN := Lib.hid hn
  clear h hn
  obtain ⟨i0, hi, hz0, hz1, hz2⟩ := info_parts info5
  have HI0 := Lib.hid (And.intro hi (And.intro hz0 (And.intro hz1 hz2)))
  clear hi hz0 hz1 hz2
  by_cases h8 : n % 8 = 0
  · have hpi : (n : Int) % 8 = 0 := by omega
    have h78 : (n + 7) / 8 = n / 8 := by omega
    rw [h78] at c1
    have HA : Hid ((w.alloc (.cells #[.int .u8 0] 5)).ownsRow B 5 1 (.slice po (n / 8) co) (n / 8) (bl (pack L))) := Lib.hid (by
      have h1 := World.ownsRow.alloc HH.out.own (.cells #[.int .u8 0] 5)
      rw [← HN.out, h78] at h1
      exact h1)
    have HK : Hid (SlK 1 (w.alloc (.cells #[.int .u8 0] 5)) (.slice (some ⟨w.heap.size, 0, none⟩) 1 1) 1 (bl [0])) := Lib.hid (slv_lit w (bl [0]) 5).toK
    have HBS : Hid (B ≤ (w.alloc (.cells #[.int .u8 0] 5)).heap.size) := Lib.hid (by simp; omega)
    go_enter Tryd.func56, Tryd.ntmps56
    go_wp2_with (refine wpList_appK 34 5 i0 (.int .u8 0) 1 1 Tryd.underlying34 HI0.out.1 HI0.out.2.1 HI0.out.2.2.1 HI0.out.2.2.2 rfl (by decide) (by decide) rfl (.tmp 16) (.tmp 17) rfl B (.slice po (n / 8) co) (.slice (some ⟨w.heap.size, 0, none⟩) 1 1) (n / 8) 1 (bl (pack L)) (bl [0]) rfl rfl (bl_one _) HA.out HK.out HBS.out (by omega) ?_; intro v' w1 hown hgrow hat; have HW := Lib.hid (wr_grown HH.out (by rw [← HN.out]; exact h8) (by rw [← HN.out]; exact hown) (by rw [← HN.out, h78]; exact hgrow) (by rw [← HN.out, h78]; exact hat)); obtain ⟨p', c', hv'⟩ := (own_toV hown).shape; have hlen : (bl (pack L) ++ bl [0]).length = n / 8 + 1 := (by simp [pack_length, ← HN.out, h78]); rw [hlen] at hv'; subst hv'; have c4' := cell_of_row _ _ 1 _ _ _ HW.out.2; have f4' := frozen_of_row _ _ 1 _ _ HW.out.2; clear hown hgrow hat hlen)
    obtain ⟨w2, hw2⟩ : ∃ w2, w2 = w1.setCell ⟨g, 1, none⟩ (.slice p' (n / 8 + 1) c') := ⟨_, rfl⟩
    rw [← hw2] at HW ⊢
    have hM := HW.out.1.1
    obtain ⟨q, hq⟩ : ∃ q, q = pack L ++ [0] := ⟨_, rfl⟩
    rw [← hq] at hM
    have HQ : Hid (q = if L.length % 8 = 0 then pack L ++ [0] else pack L) := Lib.hid (by rw [if_pos (by rw [← HN.out]; exact h8)]; exact hq)
    have HG : Hid (OnlyS (wrX g (.slice po ((L.length + 7) / 8) co)) w w2 ∧ Grew w (wrX g (.slice po ((L.length + 7) / 8) co)) (wrX g (.slice p' (n / 8 + 1) c'))) := Lib.hid HW.out.1.2
    clear HW c1 c2 f1 f2 c4' f4' hw2 hq hpi h78 HA HK HBS
    obtain ⟨k, cap, hk, -, hklt, -, -, hcell, hfro, -⟩ := own_spot hM.own (by omega)
    rw [← HN.out] at hk
    injection hk with hk1 hk2 hk3
    subst hk1 hk3
    clear hk2
    have d1 : w2.cell? ⟨g, 1, none⟩ = some (.slice (some ⟨k, 0, none⟩) (n / 8 + 1) c') := cell_of_row _ _ 1 _ _ _ hM.row
    obtain ⟨y, hy⟩ : ∃ y, y = q.getD (n / 8) 0 := ⟨_, rfl⟩
    have d2 : w2.cell? ⟨k, n / 8, none⟩ = some (.int .u8 (bi y)) := hcell _ _ (by have := hM.len; rw [← HN.out] at this; rw [hy]; unfold bl; rw [List.getElem?_map, List.getElem?_eq_getElem (by omega)]; simp [List.getD_eq_getElem?_getD, this])
    have d3 := hfro (n / 8)
    obtain ⟨z, hz⟩ : ∃ z, z = y ||| UInt8.ofNat (b.toNat * 2 ^ (n % 8)) := ⟨_, rfl⟩
    have hv := or_lay0 y b
    rw [h8] at hz
    rw [← hz] at hv
    have HP := Lib.hid (wr_laid hM b HQ.out (by rw [← HN.out]) z (by rw [← HN.out, ← hy, h8]; exact hz))
    rw [← HN.out] at HP
    have e1 := cell_of_row _ _ 2 _ _ _ HP.out.2
    have e2 := frozen_of_row _ _ 2 _ _ HP.out.2
    have HZ := Lib.hid hz
    clear hM hcell hfro hy hz HQ
    have hq1 : n / 8 ≤ 1099511627776 := by omega
    clear h8
    generalize n / 8 = qn at *
    go_region
    go_wp2_with fail
    go_end0
    exact ⟨rfl, HG.out.1.trans' HP.out.1.2 (fun i hi => HG.out.2 i hi), _, HP.out.1.1, HG.out.2⟩
  · have hp0 : (((n % 8 : Nat) : Int) == 0) = false := beq_eq_false_iff_ne.2 (by omega)
    have hpi : (n : Int) % 8 = ((n % 8 : Nat) : Int) := by omega
    have h78 : (n + 7) / 8 = n / 8 + 1 := by omega
    rw [h78] at c1
    have hM : WrMid w B g (pack L) L.length (.slice po (n / 8 + 1) co) := by
      have hh := HH.out
      rw [← HN.out, h78] at hh
      exact ⟨hh.row, by have := hh.own; rw [← HN.out, h78] at this; rw [← HN.out]; exact this, hh.ne, hh.ge, by rw [pack_length, ← HN.out, h78]⟩
    obtain ⟨q, hq⟩ : ∃ q, q = pack L := ⟨_, rfl⟩
    rw [← hq] at hM
    have HQ : Hid (q = if L.length % 8 = 0 then pack L ++ [0] else pack L) := Lib.hid (by rw [if_neg (by rw [← HN.out]; exact h8)]; exact hq)
    have HG : Hid (wrX g (.slice po ((L.length + 7) / 8) co) = wrX g (.slice po (n / 8 + 1) co)) := Lib.hid (by rw [← h78, HN.out])
    clear f1 f2 hq
    obtain ⟨k, cap, hk, -, hklt, -, -, hcell, hfro, -⟩ := own_spot hM.own (by omega)
    rw [← HN.out] at hk
    injection hk with hk1 hk2 hk3
    subst hk1 hk3
    clear hk2 c1 c2
    have d1 : w.cell? ⟨g, 1, none⟩ = some (.slice (some ⟨k, 0, none⟩) (n / 8 + 1) co) := cell_of_row _ _ 1 _ _ _ hM.row
    have d0 : w.cell? ⟨g, 2, none⟩ = some (.int .i64 (n : Int)) := by rw [HN.out]; exact cell_of_row _ _ 2 _ _ _ hM.row
    obtain ⟨y, hy⟩ : ∃ y, y = q.getD (n / 8) 0 := ⟨_, rfl⟩
    have d2 : w.cell? ⟨k, n / 8, none⟩ = some (.int .u8 (bi y)) := hcell _ _ (by have := hM.len; rw [← HN.out] at this; rw [hy]; unfold bl; rw [List.getElem?_map, List.getElem?_eq_getElem (by omega)]; simp [List.getD_eq_getElem?_getD, this])
    have d3 := hfro (n / 8)
    obtain ⟨z, hz⟩ : ∃ z, z = y ||| UInt8.ofNat (b.toNat * 2 ^ (n % 8)) := ⟨_, rfl⟩
    have hp8 : n % 8 < 8 := by omega
    have hv := or_lay y b (n % 8)
    rw [← hz] at hv
    have HP := Lib.hid (wr_laid hM b HQ.out (by rw [← HN.out]) z (by rw [← HN.out, ← hy]; exact hz))
    rw [← HN.out] at HP
    have e1 := cell_of_row _ _ 2 _ _ _ HP.out.2
    have e2 := frozen_of_row _ _ 2 _ _ HP.out.2
    have HZ := Lib.hid hz
    clear hM hcell hfro hy hz HQ
    have hq1 : n / 8 ≤ 1099511627776 := by omega
    rw [HG.out]
    clear h8 h78 HH
    generalize n / 8 = qn at *
    generalize n % 8 = pn at *
    go_enter Tryd.func56, Tryd.ntmps56
    go_wp2_with fail
    go_region
    go_wp2_with fail
    go_end0
    exact ⟨rfl, HP.out.1.2, _, HP.out.1.1, Grew.refl _ _⟩
end Go.Proofs.YtphdcgioeokfbaaDoor
