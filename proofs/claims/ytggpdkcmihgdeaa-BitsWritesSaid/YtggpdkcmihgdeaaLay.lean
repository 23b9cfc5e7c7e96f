/-
  The contract of (*bits.Writer).lay.
-/
import Derived.Test.YtggpdkcmihgdeaaHas
import Derived.RegionTactic
import Derived.ChangeAlike
namespace Go.Proofs.Ytggpdkcmihgdeaa
open Go.RowKit Bt

def orByte (x : UInt8) (b : Bool) (p : Nat) : UInt8 := UInt8.ofNat (x.toNat ||| b.toNat <<< p)
theorem or_go (x : UInt8) (b : Bool) (p : Nat) (hp : p < 8) : bits .or .u8 (bi x) ((b.toNat : Int) * 2 ^ p % 256) = bi (orByte x b p) := by
  have h1 : b.toNat <<< p < 256 := by
    rw [Nat.shiftLeft_eq]
    have : 2 ^ p ≤ 2 ^ 7 := Nat.pow_le_pow_right (by decide) (by omega)
    cases b <;> simp <;> omega
  have h2 : x.toNat ||| b.toNat <<< p < 256 := Nat.or_lt_two_pow (n := 8) x.toNat_lt h1
  have e : ((b.toNat : Int) * 2 ^ p % 256) = ((b.toNat <<< p : Nat) : Int) := by
    have e1 : (b.toNat : Int) * 2 ^ p = ((b.toNat <<< p : Nat) : Int) := by rw [Nat.shiftLeft_eq, Int.natCast_mul, Int.natCast_pow]; rfl
    rw [e1]
    generalize b.toNat <<< p = z at *
    omega
  rw [e]
  unfold bi orByte
  rw [u8_or_nat _ _ x.toNat_lt h1, UInt8.toNat_ofNat', Nat.mod_eq_of_lt h2]
theorem or_go0 (x : UInt8) (b : Bool) : bits .or .u8 (bi x) ((b.toNat : Int) % 256) = bi (orByte x b 0) := by
  rw [← or_go x b 0 (by decide)]
  congr 1
  cases b <;> rfl
/-- A writer whose row has room for one bit more. -/
structure Roomy (w : World) (F : Nat → Prop) (g gb cap : Nat) (L : List Bool) : Prop where
  head : w.heap[g]? = some (.cells (wcs (.slice (some ⟨gb, 0, none⟩) (L.length / 8 + 1) cap) L.length) 67 (0, 0))
  own : OwnB 0 w (.slice (some ⟨gb, 0, none⟩) (L.length / 8 + 1) cap) (room L)
  fg : F g
  fb : F gb
section
variable {w : World} {F : Nat → Prop} {g gb cap : Nat} {L : List Bool}
theorem Roomy.ne (h : Roomy w F g gb cap L) : gb ≠ g := fun e => h.own.apart h.head (by decide) (by rw [e]; rfl)
theorem Roomy.spot (h : Roomy w F g gb cap L) : w.cell? ⟨gb, L.length / 8, none⟩ = some (.int .u8 (bi ((room L).getD (L.length / 8) 0))) ∧ (∀ i, w.frozen? ⟨gb, i, none⟩ = false) ∧
    ∀ x, OwnB 0 (w.setCell ⟨gb, L.length / 8, none⟩ (.int .u8 (bi x))) (.slice (some ⟨gb, 0, none⟩) (L.length / 8 + 1) cap) ((room L).set (L.length / 8) x) := by
  have hl := room_length L
  obtain ⟨g', cap', e, _, _, _, _, h1, h2, h3⟩ := h.own.spot (by omega)
  obtain ⟨rfl, _⟩ : gb = g' ∧ True := by
    have := Value.slice.inj e
    simp at this
    exact ⟨this.1, trivial⟩
  exact ⟨h1 _ (by omega), h2, fun x => h3 _ x (by omega)⟩
theorem Roomy.put (h : Roomy w F g gb cap L) (b : Bool) (y : UInt8) (hy : y = orByte ((room L).getD (L.length / 8) 0) b (L.length % 8)) : Turn F (.wr g (L ++ [b])) w ((w.setCell ⟨gb, L.length / 8, none⟩ (.int .u8 (bi y))).setCell ⟨g, 2, none⟩ (.int .i64 ((L.length : Int) + 1))).drew := by
  obtain ⟨_, _, h3⟩ := h.spot
  have hne := h.ne
  have ho := h3 y
  have hp : pack (L ++ [b]) = (room L).set (L.length / 8) y := by rw [hy]; exact pack_snoc L b
  have hg : (w.setCell ⟨gb, L.length / 8, none⟩ (.int .u8 (bi y))).heap[g]? = some (.cells (wcs (.slice (some ⟨gb, 0, none⟩) (L.length / 8 + 1) cap) L.length) 67 (0, 0)) :=
    (heap_setCell_other _ _ _ _ (fun e => hne e.symm)).trans h.head
  have h1 : OnlyS F w (w.setCell ⟨gb, L.length / 8, none⟩ (.int .u8 (bi y))) := OnlyS.setCell _ _ _ _ h.fb
  generalize w.setCell ⟨gb, L.length / 8, none⟩ (.int .u8 (bi y)) = w1 at *
  have h2 : OnlyS F w1 (w1.setCell ⟨g, 2, none⟩ (.int .i64 ((L.length : Int) + 1))) := OnlyS.setCell _ _ _ _ h.fg
  have hb : ∀ k, k ≠ g → (w1.setCell ⟨g, 2, none⟩ (.int .i64 ((L.length : Int) + 1))).heap[k]? = w1.heap[k]? := fun k hk => heap_setCell_other _ _ _ _ hk
  refine ⟨(h1.trans h2).trans (OnlyS.drew _), ?_⟩
  refine ⟨.slice (some ⟨gb, 0, none⟩) (L.length / 8 + 1) cap, ?_, ?_, .inl h.fg, fun k hk => ?_⟩
  · refine (heap_setCell_same _ _ _ _ _ _ hg).trans ?_
    rw [List.length_append, List.length_singleton]
    rfl
  · rw [hp]
    refine OwnB.drew (ho.stays fun k hk => hb k ?_)
    simp [Value.ownBlock] at hk
    omega
  · simp [Value.ownBlock] at hk
    subst hk
    exact .inl h.fb
theorem Roomy.c1 (h : Roomy w F g gb cap L) : w.cell? ⟨g, 1, none⟩ = some (.slice (some ⟨gb, 0, none⟩) (L.length / 8 + 1) cap) := cell_of_row _ _ _ _ _ _ h.head
theorem Roomy.c2 (h : Roomy w F g gb cap L) : w.cell? ⟨g, 2, none⟩ = some (.int .i64 (L.length : Int)) := cell_of_row _ _ _ _ _ _ h.head
theorem Roomy.d2 (h : Roomy w F g gb cap L) (v : Value) : (w.setCell ⟨gb, L.length / 8, none⟩ v).cell? ⟨g, 2, none⟩ = some (.int .i64 (L.length : Int)) :=
  cell_of_row _ _ _ _ _ _ ((heap_setCell_other _ _ _ _ (fun e => h.ne e.symm)).trans h.head)
theorem Roomy.d3 (h : Roomy w F g gb cap L) (v : Value) : (w.setCell ⟨gb, L.length / 8, none⟩ v).frozen? ⟨g, 2, none⟩ = false :=
  frozen_of_row _ _ _ _ _ ((heap_setCell_other _ _ _ _ (fun e => h.ne e.symm)).trans h.head)
end
theorem Has.roomy {w : World} {F : Nat → Prop} {g : Nat} {L : List Bool} (h : Has w F (.wr g L)) (h8 : L.length % 8 ≠ 0) : ∃ gb cap, Roomy w F g gb cap L := by
  obtain ⟨rv, h1, h2, h3, h4⟩ := h
  have hr : room L = pack L := by unfold room; rw [if_neg h8]
  have hl := room_length L
  rw [hr] at hl
  obtain ⟨gb, cap, rfl, _⟩ := h2.spot (by omega)
  rw [hl] at h1 h2 h4
  exact ⟨gb, cap, h1, by rw [hr]; exact h2, h3, h4 gb rfl⟩
def LayPost (F : Nat → Prop) (g : Nat) (L : List Bool) (b : Bool) (w : World) (e : Ending) (w' : World) : Prop := Turned (.tuple #[]) F (.wr g (L ++ [b])) w e w'
set_option maxRecDepth 100000 in
set_option maxHeartbeats 1000000 in
theorem lay_old (w : World) (F : Nat → Prop) (g : Nat) (L : List Bool) (b : Bool) (h : Has w F (.wr g L)) (hlen : L.length ≤ 1099511627776) (h8 : L.length % 8 ≠ 0) :
    Calls Try.prog 42 #[.pointer (some ⟨g, 0, none⟩), .int .u8 ((b.toNat : Nat) : Int)] w (LayPost F g L b w) := by
  obtain ⟨gb, cap, hR⟩ := h.roomy h8
  clear h
  obtain ⟨c3, hf, _⟩ := hR.spot
  have f1 := hf (L.length / 8)
  obtain ⟨y, hy⟩ : ∃ y, y = orByte ((room L).getD (L.length / 8) 0) b (L.length % 8) := ⟨_, rfl⟩
  have hor := or_go ((room L).getD (L.length / 8) 0) b (L.length % 8) (by omega)
  rw [← hy] at hor
  have HQ := Lib.hid (hR.put b y hy)
  have c1 := hR.c1
  have c2 := hR.c2
  have d2 := hR.d2 (.int .u8 (bi y))
  have d3 := hR.d3 (.int .u8 (bi y))
  clear hR hf hy
  generalize (room L).getD (L.length / 8) 0 = x at *
  have hp8 : L.length % 8 < 8 := by omega
  have hpi : (L.length : Int) % 8 = ((L.length % 8 : Nat) : Int) := by omega
  have hp0 : (((L.length % 8 : Nat) : Int) == 0) = false := by rw [beq_eq_false_iff_ne]; omega
  have hq1 : L.length / 8 ≤ 1099511627776 := by omega
  clear h8
  generalize L.length / 8 = q at *
  generalize L.length % 8 = p at *
  generalize L.length = Lc at *
  go_enter Try.func42, Try.ntmps42
  go_wp2_with fail
  go_region
  go_wp2_with fail
  go_end0
  exact ⟨rfl, HQ.out⟩
theorem has_nil (w : World) (F : Nat → Prop) : Has w F (.sl (.slice none 0 0) []) := ⟨OwnB.nil _ _, fun k hk => by cases hk⟩
/-- The row behind the append of a byte 0. -/
theorem grew {w w1 : World} {F : Nat → Prop} {g gb cap : Nat} {L : List Bool} {rv : Value} {o : Obj} (h : Has w F (.wr g L)) (hc : w.cell? ⟨g, 1, none⟩ = some rv) (h8 : L.length % 8 = 0) (hown : OwnB 0 w1 (.slice (some ⟨gb, 0, none⟩) (L.length / 8 + 1) cap) (pack L ++ [0])) (hg : (w.alloc o).grownBy w1 rv.ownBlock)
    (hat : (Value.slice (some ⟨gb, 0, none⟩) (L.length / 8 + 1) cap).ownBlock = rv.ownBlock ∨ (Value.slice (some ⟨gb, 0, none⟩) (L.length / 8 + 1) cap).ownBlock = some (w.alloc o).heap.size) :
    w1.cell? ⟨g, 1, none⟩ = some rv ∧ w1.frozen? ⟨g, 1, none⟩ = false ∧ Roomy (w1.setCell ⟨g, 1, none⟩ (.slice (some ⟨gb, 0, none⟩) (L.length / 8 + 1) cap)) (Plus F w (w1.setCell ⟨g, 1, none⟩ (.slice (some ⟨gb, 0, none⟩) (L.length / 8 + 1) cap))) g gb cap L ∧
    OnlyS F w (w1.setCell ⟨g, 1, none⟩ (.slice (some ⟨gb, 0, none⟩) (L.length / 8 + 1) cap)) := by
  obtain ⟨rv', h1, h2, h3, h4⟩ := h
  obtain rfl : rv' = rv := by
    have := (cell_of_row w g 1 _ 67 (0, 0) h1).symm.trans hc
    simpa [wcs] using this
  have hne := h2.apart h1 (by decide)
  have hlt : g < w.heap.size := (Array.getElem?_eq_some_iff.1 h1).1
  have hgw : w1.heap[g]? = some (.cells (wcs rv' L.length) 67 (0, 0)) := by
    rw [hg.block g (by simp; omega) (fun e => hne e.symm)]
    exact (Below.heap_alloc _ _ _ hlt).trans h1
  have hr : room L = pack L ++ [0] := by unfold room; rw [if_pos h8]
  have hgb : gb < w1.heap.size := (hown.lt gb rfl).2
  have hgg : gb ≠ g := fun e => hown.apart hgw (by decide) (by rw [e]; rfl)
  have hmem : Plus F w (w1.setCell ⟨g, 1, none⟩ (.slice (some ⟨gb, 0, none⟩) (L.length / 8 + 1) cap)) gb := by
    rcases hat with hat | hat
    · exact .inl (h4 gb (hat.symm.trans rfl))
    · refine .inr ?_
      simp [Value.ownBlock] at hat
      rw [hat]
      have : (w1.setCell ⟨g, 1, none⟩ (.slice (some ⟨gb, 0, none⟩) (L.length / 8 + 1) cap)).heap.size = w1.heap.size := by simp [World.setCell]
      rw [hat] at this
      rw [this]
      omega
  refine ⟨cell_of_row _ _ _ _ _ _ hgw, frozen_of_row _ _ _ _ _ hgw, ⟨?_, ?_, .inl h3, hmem⟩, ?_⟩
  · exact heap_setCell_same _ _ _ _ _ _ hgw
  · rw [hr]
    exact hown.stays fun k hk => heap_setCell_other _ _ _ _ (by simp [Value.ownBlock] at hk; show k ≠ g; omega)
  · exact ((OnlyS.alloc w o).trans (OnlyS.grown hg h4)).trans (OnlyS.setCell _ _ _ _ h3)
theorem slw_one (w : World) : SlW (w.alloc (.cells #[.int .u8 0] 5)) (.slice (some ⟨w.heap.size, 0, none⟩) 1 1) [0] :=
  .inl ⟨w.heap.size, 0, 1, rfl, by simp, fun i hi => by
    obtain rfl : i = 0 := by simp at hi; omega
    rw [Nat.zero_add]
    exact (cell_of_row _ _ _ _ _ _ (heap_alloc_new _ _)).trans rfl⟩
set_option maxRecDepth 100000 in
set_option maxHeartbeats 1000000 in
theorem lay_new (w : World) (F : Nat → Prop) (g : Nat) (L : List Bool) (b : Bool) (h : Has w F (.wr g L)) (hlen : L.length ≤ 1099511627776) (h8 : L.length % 8 = 0) :
    Calls Try.prog 42 #[.pointer (some ⟨g, 0, none⟩), .int .u8 ((b.toNat : Nat) : Int)] w (LayPost F g L b w) := by
  have HH := Lib.hid h
  obtain ⟨rv, h1, h2, h3, h4⟩ := h
  have c1 : w.cell? ⟨g, 1, none⟩ = some rv := cell_of_row _ _ _ _ _ _ h1
  have c2 : w.cell? ⟨g, 2, none⟩ = some (.int .i64 (L.length : Int)) := cell_of_row _ _ _ _ _ _ h1
  have HC := Lib.hid c1
  have hpi : (L.length : Int) % 8 = 0 := by omega
  have hq1 : L.length / 8 ≤ 1099511627776 := by omega
  have HO := Lib.hid (h2.alloc (.cells #[.int .u8 0] 5))
  have HS := Lib.hid (slw_one w)
  have HP : Hid ((pack L).length + [(0 : UInt8)].length ≤ 1099511627776) := Lib.hid (by rw [pack_length]; simp; omega)
  have HL : Hid ((pack L ++ [(0 : UInt8)]).length = L.length / 8 + 1) := Lib.hid (by rw [List.length_append, pack_length]; simp; omega)
  have HLen := Lib.hid hlen
  have H8 := Lib.hid h8
  clear h1 h2 h3 h4 h8 hlen
  obtain ⟨Lc, hLc⟩ : ∃ Lc : Nat, Lc = L.length := ⟨_, rfl⟩
  rw [← hLc] at c2 hpi
  have HLc := Lib.hid hLc
  clear hLc
  go_enter Try.func42, Try.ntmps42
  go_wp2_with (refine wpList_appB rfl (.tmp 16) (.tmp 17) rfl 0 rv (.slice (some ⟨w.heap.size, 0, none⟩) 1 1) (pack L) [0] rfl rfl HO.out HS.out (Nat.zero_le _) HP.out ?_; intro v' w1 hown hgrow hat; obtain ⟨gb, cap, rfl, _⟩ := hown.spot (by rw [HL.out]; omega); rw [HL.out] at hown hat ⊢; obtain ⟨e1, f1, hR, hO⟩ := grew HH.out HC.out H8.out hown hgrow hat; have HR := Lib.hid hR; have HON := Lib.hid hO; clear hR hO hown hgrow hat)
  obtain rfl := HLc.out
  obtain ⟨w2, hw2⟩ : ∃ w2, w2 = w1.setCell ⟨g, 1, none⟩ (.slice (some ⟨gb, 0, none⟩) (L.length / 8 + 1) cap) := ⟨_, rfl⟩
  rw [← hw2] at HR HON ⊢
  clear hw2 e1 f1 c2 hpi
  obtain ⟨c3, hf, _⟩ := HR.out.spot
  have f1 := hf (L.length / 8)
  obtain ⟨y, hy⟩ : ∃ y, y = orByte ((room L).getD (L.length / 8) 0) b (L.length % 8) := ⟨_, rfl⟩
  have hor := or_go0 ((room L).getD (L.length / 8) 0) b
  rw [← show L.length % 8 = 0 from H8.out, ← hy] at hor
  have HQ : Hid (LayPost F g L b w (.returned (.tuple #[])) ((w2.setCell ⟨gb, L.length / 8, none⟩ (.int .u8 (bi y))).setCell ⟨g, 2, none⟩ (.int .i64 ((L.length : Int) + 1))).drew) := Lib.hid ⟨rfl, Turn.trans ⟨HON.out, has_nil _ _⟩ (HR.out.put b y hy)⟩
  have c1 := HR.out.c1
  have c2 := HR.out.c2
  have d2 := HR.out.d2 (.int .u8 (bi y))
  have d3 := HR.out.d3 (.int .u8 (bi y))
  have hlen := HLen.out
  clear HR HON hf hy HH HC HP HL HLen H8 HLc HO HS
  generalize (room L).getD (L.length / 8) 0 = x at *
  generalize L.length / 8 = q at *
  generalize L.length = Lc at *
  go_region
  go_wp2_with fail
  go_end0
  exact HQ.out
theorem lay_walk (w : World) (F : Nat → Prop) (g : Nat) (L : List Bool) (b : Bool) (h : Has w F (.wr g L)) (hlen : L.length ≤ 1099511627776) :
    Calls Try.prog 42 #[.pointer (some ⟨g, 0, none⟩), .int .u8 ((b.toNat : Nat) : Int)] w (LayPost F g L b w) := by
  by_cases h8 : L.length % 8 = 0
  · exact lay_new w F g L b h hlen h8
  · exact lay_old w F g L b h hlen h8
end Go.Proofs.Ytggpdkcmihgdeaa
