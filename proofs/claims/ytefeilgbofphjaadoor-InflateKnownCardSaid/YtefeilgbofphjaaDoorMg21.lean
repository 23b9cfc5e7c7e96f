/-
  Merged, in the order in which they build: Wrt Dor Wrm.
-/
import Derived.Test.YtefeilgbofphjaaDoorRows
import Derived.Test.YtefeilgbofphjaaDoorTie
import Derived.Test.YtefeilgbofphjaaDoorCards
import Derived.ProofKit
import Derived.LaidMore
import Derived.OpenShut
import Derived.ShutString
import Derived.ChangeOld
import Derived.Below
import Derived.Stop.Joined
import Derived.Lib.LaidTab
import Derived.SevenTiedAt
import Derived.Deep.MidRow
import Derived.Deep.SlicePairs
import Derived.Test.YtefeilgbofphjaaDoorMg12
import Derived.Test.YtefeilgbofphjaaDoorMg20
/-
  Written: parts in memory, the last block's mark.
-/
namespace Go.Proofs.YtefeilgbofphjaaDoor
open Go.RowKit Hf
/-- A part that is written, with the values of its slices. -/
structure Prt where
  kd : Nat
  bv : Value
  cv : Value
  bs : List UInt8
  cs : List (Nat × Nat)
def pt3 (p : Prt) : List Value := [.int .u8 (p.kd : Int), p.bv, p.cv]
def ptc (ps : List Prt) : List Value := ps.flatMap pt3
def nop : Prt := ⟨0, .slice none 0 0, .slice none 0 0, [], []⟩
theorem ptc_length (l : List Prt) : (ptc l).length = l.length * 3 := by
  induction l with
  | nil => rfl
  | cons a t ih => rw [ptc, List.flatMap_cons, List.length_append, List.length_cons]; show 3 + (ptc t).length = _; omega
structure PartsAt (w : World) (B : Nat) (lv : Value) (ps : List Prt) : Prop where
  row : SlK 3 w lv ps.length (ptc ps)
  off : ∀ p n cap, lv = .slice (some p) n cap → 0 < n → p.block < B
  each : ∀ p ∈ ps, PartAt w B p.bv p.cv p.bs p.cs ∧ p.kd < 256 ∧ p.bs.length ≤ 9223372036854775807
theorem PartsAt.only {w w' : World} {B : Nat} {lv : Value} {ps : List Prt} (h : PartsAt w B lv ps) {S : Nat → Prop} (ho : OnlyS S w w') (hS : ∀ i, S i → B ≤ i) : PartsAt w' B lv ps :=
  ⟨h.row.only ho (fun p n cap e h0 hs => by have := h.off p n cap e h0; have := hS _ hs; omega), h.off, fun p hp => ⟨(h.each p hp).1.only ho hS, (h.each p hp).2⟩⟩
theorem ptc_at : ∀ (ps : List Prt) (i : Nat), i < ps.length → (ptc ps)[i * 3]? = some (.int .u8 ((ps.getD i nop).kd : Int)) ∧ (ptc ps)[i * 3 + 1]? = some (ps.getD i nop).bv ∧ (ptc ps)[i * 3 + 2]? = some (ps.getD i nop).cv
  | [], i, h => by simp at h
  | c :: cs, 0, _ => ⟨rfl, rfl, rfl⟩
  | c :: cs, i + 1, h => by
    have := ptc_at cs i (by simpa using h)
    have e : ptc (c :: cs) = .int .u8 (c.kd : Int) :: c.bv :: c.cv :: ptc cs := rfl
    rw [e, List.getD_cons_succ, show (i + 1) * 3 = i * 3 + 1 + 1 + 1 by omega]
    exact this
theorem part_cells {w : World} {B : Nat} {p : Option Addr} {n cap : Nat} {ps : List Prt} (h : PartsAt w B (.slice p n cap) ps) (i : Nat) (hi : i < ps.length) : ∃ g o, p = some ⟨g, o, none⟩ ∧ w.cell? ⟨g, o + i * 3, none⟩ = some (.int .u8 ((ps.getD i nop).kd : Int)) ∧ w.cell? ⟨g, o + i * 3 + 1, none⟩ = some (ps.getD i nop).bv ∧ w.cell? ⟨g, o + i * 3 + 2, none⟩ = some (ps.getD i nop).cv := by
  obtain ⟨_, ⟨g, o, cap', h2, _, h4⟩ | ⟨p', h2, h3⟩⟩ := h.row
  · have hc := ptc_at ps i hi
    cases h2
    refine ⟨g, o, rfl, h4 _ _ hc.1, ?_, ?_⟩
    · rw [Nat.add_assoc]; exact h4 _ _ hc.2.1
    · rw [Nat.add_assoc]; exact h4 _ _ hc.2.2
  · omega
theorem PartsAt.shape {w : World} {B : Nat} {lv : Value} {ps : List Prt} (h : PartsAt w B lv ps) : ∃ p c, lv = .slice p ps.length c ∧ ps.length ≤ c := by
  obtain ⟨_, ⟨g, o, cap, h2, h3, _⟩ | ⟨p, h2, h3⟩⟩ := h.row
  · exact ⟨_, _, h2, h3⟩
  · exact ⟨p, 0, by rw [h3]; exact h2, by omega⟩
theorem ptc_take (ps : List Prt) (k : Nat) : (ptc ps).take (k * 3) = ptc (ps.take k) := by
  induction ps generalizing k with
  | nil => simp [ptc]
  | cons a t ih =>
    cases k with
    | zero => simp [ptc]
    | succ k =>
      have e : ptc (a :: t) = .int .u8 (a.kd : Int) :: a.bv :: a.cv :: ptc t := rfl
      have e2 : ptc (a :: t.take k) = .int .u8 (a.kd : Int) :: a.bv :: a.cv :: ptc (t.take k) := rfl
      rw [List.take_succ_cons, e, e2, show (k + 1) * 3 = k * 3 + 1 + 1 + 1 by omega, List.take_succ_cons, List.take_succ_cons, List.take_succ_cons, ih]
/-- The first few parts. -/
theorem PartsAt.cut {w : World} {B : Nat} {p : Option Addr} {n cap : Nat} {ps : List Prt} (h : PartsAt w B (.slice p n cap) ps) (k : Nat) (hk : k ≤ ps.length) : PartsAt w B (.slice p k cap) (ps.take k) := by
  have hl : (ps.take k).length = k := by rw [List.length_take]; omega
  refine ⟨⟨by rw [ptc_length], ?_⟩, fun q n' c e h0 => ?_, fun p hp => h.each p (List.mem_of_mem_take hp)⟩
  · obtain ⟨_, ⟨g, o, cap', h2, h3, h4⟩ | ⟨p', h2, h3⟩⟩ := h.row
    · cases h2
      refine .inl ⟨g, o, cap, by rw [hl], by omega, ?_⟩
      rw [← ptc_take]
      exact h4.take _
    · cases h2
      obtain rfl : k = 0 := by omega
      exact .inr ⟨p, rfl, by simp⟩
  · cases e
    obtain ⟨p2, c2, e2, _⟩ := h.shape
    cases e2
    exact h.off q ps.length cap rfl (by omega)
theorem cut22 {w : World} {B : Nat} {p : Option Addr} {n cap : Nat} {ps : List Prt} (h : PartsAt w B (.slice p n cap) ps) (k : Nat) (hk : k ≤ n) : ∀ w', (Instr.sliceAt 22 (.slice p n cap) none (some (.int .i64 (k : Int))) none).run Tryd.prog w' = .ok (.slice p k cap) w' := by
  intro w'
  obtain ⟨p2, c2, e2, hc⟩ := h.shape
  cases e2
  obtain ⟨_, ⟨g, o, cap', h2, _, _⟩ | ⟨p', h2, h3⟩⟩ := h.row
  · cases h2
    have h1 : (0 : Int) ≤ (k : Int) := by omega
    have h2 : (k : Int) ≤ (cap : Int) := by omega
    go_simp
  · have hc0 : cap = 0 := by injection h2
    subst hc0
    obtain rfl : k = 0 := by omega
    rw [h3]
    show (Instr.sliceAt 22 (.slice p 0 0) none (some (.int .i64 0)) none).run Tryd.prog w' = .ok (.slice p 0 0) w'
    cases p with
    | none => kernel_rfl
    | some a => kernel_rfl
/-- The last bit is marked. -/
theorem pen_mark {w : World} {B g : Nat} {sv : Value} {L : List Bool} (h : PenAt w B g sv (L ++ [false])) : ∃ k cap y, sv = .slice (some ⟨k, 0, none⟩) (L.length / 8 + 1) cap ∧ w.cell? ⟨k, L.length / 8, none⟩ = some (.int .u8 (bi y)) ∧ w.frozen? ⟨k, L.length / 8, none⟩ = false ∧
    ∀ x : UInt8, x = y ||| UInt8.ofNat (2 ^ (L.length % 8)) → PenAt (w.setCell ⟨k, L.length / 8, none⟩ (.int .u8 (bi x))).drew B g sv (L ++ [true]) ∧ OnlyS (penX g sv) w (w.setCell ⟨k, L.length / 8, none⟩ (.int .u8 (bi x))).drew := by
  obtain ⟨q, hq⟩ : ∃ q, q = if L.length % 8 = 0 then pack L ++ [0] else pack L := ⟨_, rfl⟩
  have h1 := pack_more L false q hq
  have h2 := pack_more L true q hq
  have hql : q.getD (L.length / 8) 0 ||| UInt8.ofNat (false.toNat * 2 ^ (L.length % 8)) = q.getD (L.length / 8) 0 := by
    show q.getD (L.length / 8) 0 ||| UInt8.ofNat (0 * 2 ^ (L.length % 8)) = _
    rw [Nat.zero_mul]
    apply UInt8.toNat_inj.1
    simp
  have hp : pack (L ++ [false]) = q := by
    rw [h1.1, hql]
    apply List.ext_getElem
    · simp
    · intro i h3 h4
      rw [List.getElem_set]
      split
      · rename_i e; subst e; simp [h4]
      · rfl
  have hl : (L ++ [false]).length = L.length + 1 := by simp
  have hn : ((L ++ [false]).length + 7) / 8 = L.length / 8 + 1 := by rw [hl]; omega
  have hown := h.own
  rw [hn] at hown
  obtain ⟨k, cap, e1, hk, -, -, -, hc, hf, hset⟩ := own_spot hown (by omega)
  have hkb : sv.ownBlock = some k := by rw [e1]; rfl
  have hkg := h.ne k hkb
  refine ⟨k, cap, q.getD (L.length / 8) 0, e1, hc _ _ ?_, hf _, fun x hx => ?_⟩
  · rw [hp]
    unfold bl
    rw [List.getElem?_map, List.getElem?_eq_getElem h1.2]
    simp [h1.2]
  · have hw := hset (L.length / 8) (.int .u8 (bi x)) (by omega)
    have hpx : q.set (L.length / 8) x = pack (L ++ [true]) := by
      rw [h2.1, hx]
      show _ = q.set (L.length / 8) (q.getD (L.length / 8) 0 ||| UInt8.ofNat (1 * 2 ^ (L.length % 8)))
      rw [Nat.one_mul]
    rw [bl_set, hp, hpx] at hw
    have ho : OnlyS (penX g sv) w (w.setCell ⟨k, L.length / 8, none⟩ (.int .u8 (bi x))).drew := (OnlyS.setCell _ _ _ _ (.inr hkb)).trans (OnlyS.drew _)
    have hr := h.row
    rw [hl] at hr
    refine ⟨⟨?_, ?_, h.ne, h.ge⟩, ho⟩
    · rw [List.length_append, List.length_singleton]
      exact (heap_setCell_other _ _ _ _ (by show ¬ g = k; exact fun e => hkg e.symm)).trans hr
    · rw [List.length_append, List.length_singleton, show (L.length + 1 + 7) / 8 = L.length / 8 + 1 by omega]
      exact own_stays hw (fun _ _ => rfl)
end Go.Proofs.YtefeilgbofphjaaDoor
/-
  From the given rows' memory to the walks' words: the order of package inflate, bytes, copies and parts that came in.
-/
namespace Go.Proofs.YtefeilgbofphjaaDoor
open Go.ChangeShapes Go.WideShapes Go.ChangeAt Go.RowKit
theorem own : ownKnob Tryd.prog.godebug = none := by kernel_rfl
theorem laidOut : laidOutB Tryd.prog = true := by kernel_rfl
theorem gOrd : Tryd.prog.globalNamed "portolan/inflate.order" = some 0 := by kernel_rfl
theorem tOrd : (Tryd.prog.globals[0]?).map (·.type) = some 76 := by kernel_rfl
def laid1 : List (String × DataW Unit) := [("portolan/inflate.order", Rows.laid_portolan_inflate_order)]
def ordI : List Int := Inf.order.map Int.ofNat
theorem dOrd : (Rows.laid_portolan_inflate_order : DataW Unit) = Lib.tabData .i64 ordI := by kernel_rfl
/-- The door's own heap meets the condition. -/
theorem door_met (os : Os) (args : Array Value) : laidMetH Tryd.prog laid1 ((World.doorLaid Tryd.prog 4000 os).forCall (fun _ _ => 0) ⟨#[], args, []⟩).memory :=
  laidMetH_of_parts3 (fuel := 8) (laidMet_of_run' 8 (by kernel_rfl) (by kernel_rfl)) (by kernel_rfl) (by kernel_rfl)
theorem of_laid {W : World} (h : laidMetH Tryd.prog laid1 W) : OrdAt W := by
  rw [MakeChecks.laidMetH_plain _ _ _ (by kernel_rfl)] at h
  obtain ⟨ps, ⟨g0, t0, cs0, f0, p0, q0, hg0, ht0, hv0, hd0, _, _⟩, _, _⟩ := h
  obtain rfl := Option.some.inj (gOrd.symm.trans hg0)
  obtain rfl := Option.some.inj (tOrd.symm.trans ht0)
  rw [dOrd] at hd0
  have e0 := Lib.cells_of_tab Tryd.underlying76 Tryd.underlying3 (by kernel_rfl) (by kernel_rfl) hd0
  intro i hi
  have := World.var?_cell hg0 hv0 i
  rw [this, ← Array.getElem?_toList, e0]
  unfold ordI
  have hl : i < Inf.order.length := hi
  rw [List.getElem?_map, List.getElem?_map, List.getElem?_eq_getElem hl, List.getD_eq_getElem?_getD, List.getElem?_eq_getElem hl]
  rfl
theorem cell_spot {W : World} {x : Addr} {v : Value} (h : W.cell? x = some v) : x.spot = none := by
  unfold World.cell? at h
  split at h
  · cases hs : x.spot with
    | none => rfl
    | some s => rw [hs] at h; simp at h
  · cases h
theorem bytes_row {W : World} {g o : Nat} {len cap : Nat} {zs : List Int} (hl : len ≤ cap) (hz : zs.length = cap) (hcell : ∀ i, i < zs.length → W.cell? ((⟨g, o, none⟩ : Addr).add i) = some (.int .u8 (zs.getD i 0)))
    (hwf : ∀ n ∈ zs, (Lit.int .u8 n).wf = true) : ∃ us : List UInt8, us.length = len ∧ RowAt W g o (bl us) := by
  refine ⟨(zs.take len).map fun z => UInt8.ofNat z.toNat, by simp; omega, fun i u hi => ?_⟩
  have hi' : i < len := by
    have := (List.getElem?_eq_some_iff.1 hi).1
    rw [bl_length] at this
    simp at this; omega
  have hc := hcell i (by omega)
  rw [Addr.add_mid] at hc
  rw [hc, ← hi]
  have hm : zs.getD i 0 ∈ zs := by
    rw [List.getD_eq_getElem?_getD, List.getElem?_eq_getElem (by omega)]; exact List.getElem_mem _
  have hb := bounds_u8 (hwf _ hm)
  have hzi : i < zs.length := by omega
  unfold bl
  rw [List.getElem?_map, List.getElem?_map, List.getElem?_take_of_lt hi', List.getElem?_eq_getElem hzi]
  simp only [Option.map_some]
  congr 2
  have e : zs.getD i 0 = zs[i] := by rw [List.getD_eq_getElem?_getD, List.getElem?_eq_getElem hzi]; rfl
  rw [e] at hb ⊢
  unfold bi
  rw [UInt8.toNat_ofNat']
  omega
/-- Bytes that lie in memory. -/
theorem bytes_read {H : Type} {enc : TypeId × Value → H} {W : World} {fuel : Nat} {v : Value} {x : DataW H × List MemPlace} (h : DataW.trod enc Tryd.prog W 0 (fun _ => true) true fuel 23 [v] = some x) :
    ∃ us : List UInt8, SlV W v (bl us) ∧ us.length ≤ 9223372036854775807 := by
  rcases open_ints Tryd.underlying23 Tryd.underlying5 (by kernel_rfl) h with ⟨hcs, _⟩ | ⟨a, l, c, zs, hcs, _, hl, hm, hz, _, hcell, hwz⟩
  · simp at hcs
    subst hcs
    exact ⟨[], .inr ⟨none, rfl, rfl⟩, by simp⟩
  · simp at hcs
    subst hcs
    simp only [if_true] at hz
    by_cases h0 : c = 0
    · obtain rfl : l = 0 := by omega
      subst h0
      exact ⟨[], .inr ⟨some a, rfl, rfl⟩, by simp⟩
    · have hc0 := hcell 0 (by omega)
      have hs : a.spot = none := by
        have h1 : a.add 0 = a := by unfold Addr.add; simp
        rw [h1] at hc0
        exact cell_spot hc0
      obtain ⟨b, o, sp⟩ := a
      simp only at hs
      subst hs
      obtain ⟨us, hu, hB⟩ := bytes_row hl hz hcell hwz
      exact ⟨us, .inl ⟨b, o, c, by rw [bl_length, hu], by rw [bl_length]; omega, hB⟩, by unfold maxLen at hm; omega⟩
theorem two_list {α : Type} {l : List α} (h : l.length = 2) : ∃ a b, l = [a, b] := by
  match l, h with
  | [a, b], _ => exact ⟨a, b, rfl⟩
theorem three_list {α : Type} {l : List α} (h : l.length = 3) : ∃ a b c, l = [a, b, c] := by
  match l, h with
  | [a, b, c], _ => exact ⟨a, b, c, rfl⟩
theorem cps_len : ∀ l : List (Nat × Nat), (cps l).length = l.length * 2
  | [] => rfl
  | c :: l => by rw [cps, List.flatMap_cons, List.length_append, List.length_cons]; show 2 + (cps l).length = _; rw [cps_len l]; omega
/-- Copies that lie in memory. -/
theorem pairs_read {H : Type} {enc : TypeId × Value → H} {W : World} {fuel : Nat} {v : Value} {x : DataW H × List MemPlace} (h : DataW.trod enc Tryd.prog W 0 (fun _ => true) true fuel 34 [v] = some x) :
    ∃ cs : List (Nat × Nat), SlK 2 W v cs.length (cps cs) ∧ ∀ c ∈ cs, c.1 < 65536 ∧ c.2 < 65536 := by
  have c43 : Tryd.prog.cellsOf 43 = 2 := by kernel_rfl
  have c39 : Tryd.prog.cellsOf 39 = 1 := by kernel_rfl
  rcases Deep.open_slice Tryd.underlying34 h with ⟨hcs, _⟩ | ⟨a, len, cap, m, n, D, Pl, hcs, hb, hl, hm, hmm, _, hx⟩
  · simp at hcs
    subst hcs
    exact ⟨[], ⟨rfl, .inr ⟨none, rfl, rfl⟩⟩, by simp⟩
  · simp at hcs
    subst hcs
    simp only [if_true] at hmm
    subst hmm
    have each : ∀ i, i < m → ∃ c : Nat × Nat, W.cell? (a.add (i * 2)) = some (.int .u16 (c.1 : Int)) ∧ W.cell? (a.add (i * 2 + 1)) = some (.int .u16 (c.2 : Int)) ∧ c.1 < 65536 ∧ c.2 < 65536 := fun i hi => by
      obtain ⟨cs, hcs, ht⟩ := hx i hi
      rw [c43] at hcs
      obtain ⟨xs, k, _, _, hcl, hxl, hall⟩ := DataW.trod_array Tryd.underlying43 ht
      rw [c43] at hcl
      obtain ⟨_, hlen2, hcell⟩ := World.cells?_some hcs
      have hx2 : xs.length = 2 := hxl
      have each1 : ∀ i, i < 2 → ∃ z, (cs.drop i).take 1 = [.int .u16 z] ∧ (Lit.int .u16 z).wf = true := fun i hi => by
        have h2 := hall i hi
        rw [c39, Nat.mul_one, List.getElem?_eq_getElem (show i < xs.length by omega)] at h2
        obtain ⟨z, hc, _, hw⟩ := DataW.trod_int Tryd.underlying39 h2
        exact ⟨z, hc, hw⟩
      obtain ⟨z0, h0, w0⟩ := each1 0 (by omega)
      obtain ⟨z1, h1, w1⟩ := each1 1 (by omega)
      obtain ⟨v0, v1, rfl⟩ := two_list hlen2
      obtain rfl : v0 = .int .u16 z0 := by simpa using h0
      obtain rfl : v1 = .int .u16 z1 := by simpa using h1
      have b0 := bounds_u16 w0
      have b1 := bounds_u16 w1
      have e0 := hcell 0 (by omega)
      have e1 := hcell 1 (by omega)
      rw [Deep.add_add] at e0 e1
      refine ⟨(z0.toNat, z1.toNat), ?_, ?_, by omega, by omega⟩
      · rw [show ((z0.toNat : Nat) : Int) = z0 by omega]; simpa using e0
      · rw [show ((z1.toNat : Nat) : Int) = z1 by omega]; simpa using e1
    by_cases h0 : m = 0
    · obtain rfl : len = 0 := by omega
      subst h0
      exact ⟨[], ⟨rfl, .inr ⟨some a, rfl, rfl⟩⟩, by simp⟩
    · obtain ⟨c, hc, _⟩ := each 0 (by omega)
      have hs : a.spot = none := by
        have h1 : a.add (0 * 2) = a := by unfold Addr.add; simp
        rw [h1] at hc
        exact cell_spot hc
      obtain ⟨b, o, sp⟩ := a
      simp only at hs
      subst hs
      have each2 : ∀ i, i < m → ∃ c : Nat × Nat, W.cell? ⟨b, o + i * 2, none⟩ = some (.int .u16 (c.1 : Int)) ∧ W.cell? ⟨b, o + (i * 2 + 1), none⟩ = some (.int .u16 (c.2 : Int)) ∧ c.1 < 65536 ∧ c.2 < 65536 := fun i hi => by
        obtain ⟨c, h1, h2, h3⟩ := each i hi
        rw [Addr.add_mid] at h1 h2
        exact ⟨c, h1, h2, h3⟩
      obtain ⟨f, hf⟩ : ∃ f : Nat → Nat × Nat, ∀ i, i < m → W.cell? ⟨b, o + i * 2, none⟩ = some (.int .u16 ((f i).1 : Int)) ∧ W.cell? ⟨b, o + (i * 2 + 1), none⟩ = some (.int .u16 ((f i).2 : Int)) ∧ (f i).1 < 65536 ∧ (f i).2 < 65536 := by
        refine ⟨fun i => if h : i < m then Classical.choose (each2 i h) else (0, 0), fun i h => ?_⟩
        simp only [h, dif_pos]
        exact Classical.choose_spec (each2 i h)
      have hll : ((List.range len).map f).length = len := by simp
      refine ⟨(List.range len).map f, ⟨by rw [cps_len], .inl ⟨b, o, m, by rw [hll], by rw [hll]; exact hl, fun j u hj => ?_⟩⟩, fun c hc => ?_⟩
      · have hjl := (List.getElem?_eq_some_iff.1 hj).1
        rw [cps_len, hll] at hjl
        have hat := cps_at ((List.range len).map f) (j / 2) (by rw [hll]; omega)
        have hg : ((List.range len).map f).getD (j / 2) (0, 0) = f (j / 2) := by
          rw [List.getD_eq_getElem?_getD, List.getElem?_eq_getElem (by rw [hll]; omega)]; simp
        rw [hg] at hat
        have hfj := hf (j / 2) (by omega)
        rcases (by omega : j = j / 2 * 2 ∨ j = j / 2 * 2 + 1) with e | e
        · rw [e, hat.1] at hj
          rw [e, hfj.1]
          exact hj
        · rw [e, hat.2] at hj
          rw [e, hfj.2.1]
          exact hj
      · obtain ⟨i, hi, rfl⟩ := List.mem_map.1 hc
        have := hf i (by have := List.mem_range.1 hi; omega)
        exact this.2.2
theorem slv_blk {W : World} {v : Value} {vs : List Value} (h : SlV W v vs) : ∀ p n c, v = .slice (some p) n c → 0 < n → p.block < W.heap.size := by
  intro p n c e h0
  rcases h with ⟨g, o, cap, h1, h2, h3⟩ | ⟨q, h1, _⟩
  · rw [h1] at e
    cases e
    exact h3.lt h0
  · rw [h1] at e
    cases e
    omega
theorem slk_blk {W : World} {k m : Nat} {v : Value} {vs : List Value} (hk : 0 < k) (h : SlK k W v m vs) : ∀ p n c, v = .slice (some p) n c → 0 < n → p.block < W.heap.size := by
  intro p n c e h0
  obtain ⟨hl, ⟨g, o, cap, h1, h2, h3⟩ | ⟨q, h1, _⟩⟩ := h
  · rw [h1] at e
    cases e
    exact h3.lt (by rw [hl]; exact Nat.mul_pos h0 hk)
  · rw [h1] at e
    cases e
    omega
/-- Parts that lie in memory. -/
theorem parts_read {H : Type} {enc : TypeId × Value → H} {W : World} {fuel : Nat} {v : Value} {x : DataW H × List MemPlace} (h : DataW.trod enc Tryd.prog W 0 (fun _ => true) true fuel 22 [v] = some x) :
    ∃ ps : List Prt, PartsAt W W.heap.size v ps ∧ ps.length ≤ 9223372036854775807 := by
  have c36 : Tryd.prog.cellsOf 36 = 3 := by kernel_rfl
  have c5 : Tryd.prog.cellsOf 5 = 1 := by kernel_rfl
  have c23 : Tryd.prog.cellsOf 23 = 1 := by kernel_rfl
  have c34 : Tryd.prog.cellsOf 34 = 1 := by kernel_rfl
  rcases Deep.open_slice Tryd.underlying22 h with ⟨hcs, _⟩ | ⟨a, len, cap, m, n, D, Pl, hcs, hb, hl, hm, hmm, _, hx⟩
  · simp at hcs
    subst hcs
    exact ⟨[], ⟨⟨rfl, .inr ⟨none, rfl, rfl⟩⟩, fun _ _ _ e => (by cases e), by simp⟩, by simp⟩
  · simp at hcs
    subst hcs
    simp only [if_true] at hmm
    subst hmm
    have each : ∀ i, i < m → ∃ p : Prt, W.cell? (a.add (i * 3)) = some (.int .u8 (p.kd : Int)) ∧ W.cell? (a.add (i * 3 + 1)) = some p.bv ∧ W.cell? (a.add (i * 3 + 2)) = some p.cv ∧ PartAt W W.heap.size p.bv p.cv p.bs p.cs ∧ p.kd < 256 ∧ p.bs.length ≤ 9223372036854775807 := fun i hi => by
      obtain ⟨cs, hcs, ht⟩ := hx i hi
      rw [c36] at hcs
      obtain ⟨xs, k, _, _, hcl, hxl, hall⟩ := DataW.trod_struct Tryd.underlying36 ht
      obtain ⟨_, hlen3, hcell⟩ := World.cells?_some hcs
      have hx3 : xs.length = 3 := hxl
      obtain ⟨v0, v1, v2, rfl⟩ := three_list hlen3
      have f0 : DataW.trod enc Tryd.prog W 0 (fun _ => true) true k 5 (([v0, v1, v2].drop 0).take (Tryd.prog.cellsOf 5)) = xs[0]? := hall 0 _ rfl
      have f1 : DataW.trod enc Tryd.prog W 0 (fun _ => true) true k 23 (([v0, v1, v2].drop 1).take (Tryd.prog.cellsOf 23)) = xs[1]? := hall 1 _ rfl
      have f2 : DataW.trod enc Tryd.prog W 0 (fun _ => true) true k 34 (([v0, v1, v2].drop 2).take (Tryd.prog.cellsOf 34)) = xs[2]? := hall 2 _ rfl
      rw [List.getElem?_eq_getElem (show 0 < xs.length by omega)] at f0
      rw [List.getElem?_eq_getElem (show 1 < xs.length by omega)] at f1
      rw [List.getElem?_eq_getElem (show 2 < xs.length by omega)] at f2
      rw [c5] at f0
      rw [c23] at f1
      rw [c34] at f2
      obtain ⟨z, hz, _, hw⟩ := DataW.trod_int Tryd.underlying5 f0
      obtain ⟨bs, hbs, hbl⟩ := bytes_read f1
      obtain ⟨cc, hcc, hcu⟩ := pairs_read f2
      obtain rfl : v0 = .int .u8 z := by simpa using hz
      have hbz := bounds_u8 hw
      have e0 := hcell 0 (by omega)
      have e1 := hcell 1 (by omega)
      have e2 := hcell 2 (by omega)
      rw [Deep.add_add] at e0 e1 e2
      refine ⟨⟨z.toNat, v1, v2, bs, cc⟩, ?_, by simpa using e1, by simpa using e2, ⟨hbs, hcc, slv_blk hbs, slk_blk (by decide) hcc, hcu⟩, ?_, hbl⟩
      · show W.cell? (a.add (i * 3)) = some (.int .u8 ((z.toNat : Nat) : Int))
        rw [show ((z.toNat : Nat) : Int) = z by omega]; simpa using e0
      · show z.toNat < 256
        omega
    by_cases h0 : m = 0
    · obtain rfl : len = 0 := by omega
      subst h0
      exact ⟨[], ⟨⟨rfl, .inr ⟨some a, rfl, rfl⟩⟩, fun p n c e h0 => (by cases e; omega), by simp⟩, by simp⟩
    · obtain ⟨c, hc, _⟩ := each 0 (by omega)
      have hs : a.spot = none := by
        have h1 : a.add (0 * 3) = a := by unfold Addr.add; simp
        rw [h1] at hc
        exact cell_spot hc
      obtain ⟨b, o, sp⟩ := a
      simp only at hs
      subst hs
      have each2 : ∀ i, i < m → ∃ p : Prt, W.cell? ⟨b, o + i * 3, none⟩ = some (.int .u8 (p.kd : Int)) ∧ W.cell? ⟨b, o + (i * 3 + 1), none⟩ = some p.bv ∧ W.cell? ⟨b, o + (i * 3 + 2), none⟩ = some p.cv ∧ PartAt W W.heap.size p.bv p.cv p.bs p.cs ∧ p.kd < 256 ∧ p.bs.length ≤ 9223372036854775807 := fun i hi => by
        obtain ⟨c, h1, h2, h3, h4⟩ := each i hi
        rw [Addr.add_mid] at h1 h2 h3
        exact ⟨c, h1, h2, h3, h4⟩
      obtain ⟨f, hf⟩ : ∃ f : Nat → Prt, ∀ i, i < m → W.cell? ⟨b, o + i * 3, none⟩ = some (.int .u8 ((f i).kd : Int)) ∧ W.cell? ⟨b, o + (i * 3 + 1), none⟩ = some (f i).bv ∧ W.cell? ⟨b, o + (i * 3 + 2), none⟩ = some (f i).cv ∧ PartAt W W.heap.size (f i).bv (f i).cv (f i).bs (f i).cs ∧ (f i).kd < 256 ∧ (f i).bs.length ≤ 9223372036854775807 := by
        refine ⟨fun i => if h : i < m then Classical.choose (each2 i h) else nop, fun i h => ?_⟩
        simp only [h, dif_pos]
        exact Classical.choose_spec (each2 i h)
      have hll : ((List.range len).map f).length = len := by simp
      have hrow : SlK 3 W (.slice (some ⟨b, o, none⟩) len m) ((List.range len).map f).length (ptc ((List.range len).map f)) := by
        refine ⟨by rw [ptc_length], .inl ⟨b, o, m, by rw [hll], by rw [hll]; exact hl, fun j u hj => ?_⟩⟩
        have hjl := (List.getElem?_eq_some_iff.1 hj).1
        rw [ptc_length, hll] at hjl
        have hat := ptc_at ((List.range len).map f) (j / 3) (by rw [hll]; omega)
        have hg : ((List.range len).map f).getD (j / 3) nop = f (j / 3) := by
          rw [List.getD_eq_getElem?_getD, List.getElem?_eq_getElem (by rw [hll]; omega)]; simp
        rw [hg] at hat
        have hfj := hf (j / 3) (by omega)
        rcases (by omega : j = j / 3 * 3 ∨ j = j / 3 * 3 + 1 ∨ j = j / 3 * 3 + 2) with e | e | e
        · rw [e, hat.1] at hj
          rw [e, hfj.1]
          exact hj
        · rw [e, hat.2.1] at hj
          rw [e, hfj.2.1]
          exact hj
        · rw [e, hat.2.2] at hj
          rw [e, hfj.2.2.1]
          exact hj
      refine ⟨(List.range len).map f, ⟨hrow, slk_blk (by decide) hrow, fun p hp => ?_⟩, by rw [hll]; unfold maxLen at hm; omega⟩
      obtain ⟨i, hi, rfl⟩ := List.mem_map.1 hp
      exact (hf i (by have := List.mem_range.1 hi; omega)).2.2.2
/-- A law's one answer. -/
def TrueB (w : World) (e : Ending) (w' : World) : Prop := e = .returned (.bool true) ∧ OnlyS (fun _ => False) w w'
end Go.Proofs.YtefeilgbofphjaaDoor
/-
  Written: what the tellers hear is a block's body.
-/
namespace Go.Proofs.YtefeilgbofphjaaDoor
open Go.RowKit Hf
def flgf (f0 : Bool) (ss : List Sg) : Nat → Bool
  | 0 => f0
  | k + 1 => !flgf f0 ss k && decide (256 < (ss.getD k nog).s)
theorem flg_f (ss : List Sg) : ∀ k, flg ss k = flgf false ss k
  | 0 => rfl
  | k + 1 => by rw [flg, flgf, flg_f ss k]
theorem flgf_cons (f0 : Bool) (g : Sg) (gs : List Sg) : ∀ k, flgf f0 (g :: gs) (k + 1) = flgf (!f0 && decide (256 < g.s)) gs k
  | 0 => rfl
  | k + 1 => by rw [flgf, flgf_cons f0 g gs k, flgf, List.getD_cons_succ]
def wdsf (zs ds : List Int) (f0 : Bool) (ss : List Sg) : Nat → List Bool
  | 0 => []
  | k + 1 => wdsf zs ds f0 ss k ++ (cod (if flgf f0 ss k then ds else zs) (ss.getD k nog).s ++ num (ss.getD k nog).x (ss.getD k nog).m)
theorem wds_f (zs ds : List Int) (ss : List Sg) : ∀ k, wds zs ds ss k = wdsf zs ds false ss k
  | 0 => rfl
  | k + 1 => by rw [wds, wdsf, wds_f zs ds ss k, flg_f]
theorem wdsf_cons (zs ds : List Int) (f0 : Bool) (g : Sg) (gs : List Sg) : ∀ k, wdsf zs ds f0 (g :: gs) (k + 1) = cod (if f0 then ds else zs) g.s ++ num g.x g.m ++ wdsf zs ds (!f0 && decide (256 < g.s)) gs k
  | 0 => by
    show [] ++ _ = _ ++ []
    rw [List.nil_append, List.append_nil]; rfl
  | k + 1 => by
    rw [wdsf, wdsf_cons zs ds f0 g gs k, wdsf, flgf_cons, List.getD_cons_succ, List.append_assoc]
/-- All of a part's signs, the end behind them. -/
def ssg (ts : List Tok) : List Sg := tsg ts ++ [⟨256, 0, 0⟩]
theorem ssg_lit (b : Nat) (ts : List Tok) : ssg (.lit b :: ts) = ⟨b, 0, 0⟩ :: ssg ts := rfl
theorem ssg_cpy (n d : Nat) (a b : Sg) (ts : List Tok) : ssg (.cpy n d a b :: ts) = a :: b :: ssg ts := rfl
theorem wdsf_body (zs ds : List Int) : ∀ (ts : List Tok) (out : List UInt8), oks ts out → wdsf zs ds false (ssg ts) (ssg ts).length = body zs ds ts
  | [], _, _ => by
    show wdsf zs ds false (⟨256, 0, 0⟩ :: []) (0 + 1) = _
    rw [wdsf_cons]
    simp [wdsf, body, num_zero]
  | .lit b :: ts, out, h => by
    have hb : b < 256 := h.1
    have hd : decide (256 < b) = false := decide_eq_false (by omega)
    rw [ssg_lit, List.length_cons, wdsf_cons]
    show cod zs b ++ num 0 0 ++ wdsf zs ds (!false && decide (256 < b)) (ssg ts) (ssg ts).length = cod zs b ++ body zs ds ts
    rw [hd, num_zero, List.append_nil]
    congr 1
    exact wdsf_body zs ds ts _ h.2
  | .cpy n d a b :: ts, out, h => by
    have ha := (h.1.2.1).s_gt
    have hd : decide (256 < a.s) = true := decide_eq_true ha.1
    rw [ssg_cpy, List.length_cons, List.length_cons, wdsf_cons, wdsf_cons, hd]
    show cod zs a.s ++ num a.x a.m ++ (cod ds b.s ++ num b.x b.m ++ wdsf zs ds (!true && decide (256 < b.s)) (ssg ts) (ssg ts).length) = cod zs a.s ++ (num a.x a.m ++ (cod ds b.s ++ num b.x b.m)) ++ body zs ds ts
    rw [Bool.not_true, Bool.false_and, wdsf_body zs ds ts _ h.2]
    simp only [List.append_assoc]
theorem wds_body (zs ds : List Int) (ts : List Tok) (out : List UInt8) (h : oks ts out) : wds zs ds (ssg ts) (ssg ts).length = body zs ds ts := by
  rw [wds_f]; exact wdsf_body zs ds ts out h
/-- What holds of each sign, as it is flagged. -/
theorem ssg_all {P : Bool → Sg → Prop} (hend : P false ⟨256, 0, 0⟩) : ∀ (ts : List Tok) (out : List UInt8), oks ts out → (∀ t ∈ ts, ∀ q ∈ t.sgs, P q.2 q.1) → ∀ k, k < (ssg ts).length → P (flgf false (ssg ts) k) ((ssg ts).getD k nog)
  | [], _, _, _, k, hk => by
    obtain rfl : k = 0 := by have : (ssg []).length = 1 := rfl; omega
    exact hend
  | .lit b :: ts, out, h, hP, 0, _ => hP _ (List.mem_cons_self ..) (⟨b, 0, 0⟩, false) (by simp [Tok.sgs])
  | .lit b :: ts, out, h, hP, k + 1, hk => by
    have hb : b < 256 := h.1
    have hd : decide (256 < b) = false := decide_eq_false (by omega)
    rw [ssg_lit] at hk ⊢
    rw [flgf_cons, List.getD_cons_succ]
    show P (flgf (!false && decide (256 < b)) (ssg ts) k) _
    rw [hd]
    exact ssg_all hend ts _ h.2 (fun t ht => hP t (List.mem_cons_of_mem _ ht)) k (by simpa using hk)
  | .cpy n d a b :: ts, out, h, hP, 0, _ => hP _ (List.mem_cons_self ..) (a, false) (by simp [Tok.sgs])
  | .cpy n d a b :: ts, out, h, hP, 1, _ => by
    have ha := (h.1.2.1).s_gt
    have hd : decide (256 < a.s) = true := decide_eq_true ha.1
    rw [ssg_cpy, flgf_cons, List.getD_cons_succ, hd]
    exact hP _ (List.mem_cons_self ..) (b, true) (by simp [Tok.sgs])
  | .cpy n d a b :: ts, out, h, hP, k + 2, hk => by
    have ha := (h.1.2.1).s_gt
    have hd : decide (256 < a.s) = true := decide_eq_true ha.1
    rw [ssg_cpy] at hk ⊢
    rw [flgf_cons, List.getD_cons_succ, flgf_cons, List.getD_cons_succ, hd, Bool.not_false, Bool.true_and, Bool.not_true, Bool.false_and]
    exact ssg_all hend ts _ h.2 (fun t ht => hP t (List.mem_cons_of_mem _ ht)) k (by simpa using hk)
/-- Bounds of signs. -/
theorem tok_sgs {t : Tok} {out : List UInt8} (h : t.ok out) : ∀ q ∈ t.sgs, q.1.x < 2147483648 ∧ q.1.m ≤ 31 ∧ (q.2 = false → q.1.s < 286) ∧ (q.2 = true → q.1.s < 30) := by
  intro q hq
  cases t with
  | lit b =>
    have hb : b < 256 := h
    simp [Tok.sgs] at hq
    subst hq
    exact ⟨by show 0 < 2147483648; decide, by show 0 ≤ 31; decide, fun _ => by show b < 286; omega, fun e => by cases e⟩
  | cpy n d a b =>
    obtain ⟨h1, h2, h3⟩ := h
    simp [Tok.sgs] at hq
    have p : ∀ m, m ≤ 13 → 2 ^ m ≤ 2 ^ 13 := fun m hm => Nat.pow_le_pow_right (by decide) hm
    rcases hq with rfl | rfl
    · refine ⟨?_, ?_, fun _ => ?_, fun e => by cases e⟩
      · rcases h2 with ⟨_, rfl⟩ | ⟨e1, e2, e3, e4, _⟩
        · decide
        · have := p a.m (by omega); show a.x < _; omega
      · rcases h2 with ⟨_, rfl⟩ | ⟨e1, e2, e3, e4, _⟩
        · decide
        · show a.m ≤ 31; omega
      · have := h2.s_gt; show a.s < 286; omega
    · obtain ⟨e1, e2, e3, _⟩ := h3
      refine ⟨?_, ?_, fun e => (by cases e), fun _ => ?_⟩
      · have := p b.m (by omega); show b.x < _; omega
      · show b.m ≤ 31; omega
      · show b.s < 30; omega
theorem oks_mem : ∀ (ts : List Tok) (out : List UInt8), oks ts out → ∀ t ∈ ts, ∃ o, t.ok o
  | [], _, _, t, ht => by cases ht
  | a :: ts, out, h, t, ht => by
    rcases List.mem_cons.1 ht with rfl | ht
    · exact ⟨out, h.1⟩
    · exact oks_mem ts _ h.2 t ht
theorem ssg_length (ts : List Tok) : (ssg ts).length ≤ 2 * ts.length + 1 := by
  induction ts with
  | nil => exact Nat.le_refl _
  | cons t ts ih =>
    cases t with
    | lit b => rw [ssg_lit, List.length_cons, List.length_cons]; omega
    | cpy n d a b => rw [ssg_cpy, List.length_cons, List.length_cons, List.length_cons]; omega
/-- Signs that have codes in two rows of lengths. -/
theorem sg_ok {zs ds : List Int} {ts : List Tok} {out : List UInt8} (h : oks ts out) (hh : ∀ t ∈ ts, t.has zs ds) (h256 : 0 < zs.getD 256 0) : ∀ k, k < (ssg ts).length → SgOk zs ds ((ssg ts).getD k nog) (flg (ssg ts) k) := by
  intro k hk
  rw [flg_f]
  refine ssg_all (P := fun f g => SgOk zs ds g f) ⟨by simpa using h256, by decide, by decide⟩ ts out h (fun t ht q hq => ?_) k hk
  obtain ⟨o, ho⟩ := oks_mem ts out h t ht
  have hb := tok_sgs ho q hq
  refine ⟨?_, hb.1, hb.2.1⟩
  have hha := hh t ht
  cases t with
  | lit b =>
    simp [Tok.sgs] at hq
    subst hq
    have h' : 0 < zs.getD b 0 := hha
    simpa using h'
  | cpy n d a b =>
    simp [Tok.sgs] at hq
    rcases hq with rfl | rfl
    · have h' : 0 < zs.getD a.s 0 := hha.1
      simpa using h'
    · have h' : 0 < ds.getD b.s 0 := hha.2
      simpa using h'
theorem ssg_small {ts : List Tok} {out : List UInt8} (h : oks ts out) : (∀ k, k < (ssg ts).length → flg (ssg ts) k = false → ((ssg ts).getD k nog).s < 286) ∧ ∀ k, k < (ssg ts).length → flg (ssg ts) k = true → ((ssg ts).getD k nog).s < 30 := by
  have key := ssg_all (P := fun f g => (f = false → g.s < 286) ∧ (f = true → g.s < 30)) ⟨fun _ => by decide, fun e => by cases e⟩ ts out h (fun t ht q hq => by
    obtain ⟨o, ho⟩ := oks_mem ts out h t ht
    have hb := tok_sgs ho q hq
    exact hb.2.2)
  refine ⟨fun k hk e => ?_, fun k hk e => ?_⟩
  · rw [flg_f] at e; exact (key k hk).1 e
  · rw [flg_f] at e; exact (key k hk).2 e
/-- Each sign of a row stands in the rows of those of its sort. -/
theorem spl_toks (ts : List Tok) (out : List UInt8) (h : oks ts out) : 256 ∈ spl (ssg ts) false (ssg ts).length ∧ ∀ t ∈ ts, ∀ q ∈ t.sgs, q.1.s ∈ spl (ssg ts) q.2 (ssg ts).length := by
  have key : ∀ (ts : List Tok) (out : List UInt8), oks ts out → (∃ k, k < (ssg ts).length ∧ flgf false (ssg ts) k = false ∧ ((ssg ts).getD k nog).s = 256) ∧ ∀ t ∈ ts, ∀ q ∈ t.sgs, ∃ k, k < (ssg ts).length ∧ flgf false (ssg ts) k = q.2 ∧ ((ssg ts).getD k nog).s = q.1.s := by
    intro ts
    induction ts with
    | nil => exact fun out h => ⟨⟨0, Nat.zero_lt_one, rfl, rfl⟩, fun t ht => by cases ht⟩
    | cons t ts ih =>
      intro out h
      have ih := ih _ h.2
      cases t with
      | lit b =>
        have hb : b < 256 := h.1
        have hd : decide (256 < b) = false := decide_eq_false (by omega)
        have up : ∀ k, flgf false (ssg (.lit b :: ts)) (k + 1) = flgf false (ssg ts) k := fun k => by
          rw [ssg_lit, flgf_cons]
          show flgf (!false && decide (256 < b)) (ssg ts) k = _
          rw [hd]; rfl
        refine ⟨?_, fun t ht q hq => ?_⟩
        · obtain ⟨k, h1, h2, h3⟩ := ih.1
          exact ⟨k + 1, by rw [ssg_lit, List.length_cons]; omega, by rw [up]; exact h2, by rw [ssg_lit, List.getD_cons_succ]; exact h3⟩
        · rcases List.mem_cons.1 ht with rfl | ht
          · simp [Tok.sgs] at hq
            subst hq
            exact ⟨0, by rw [ssg_lit, List.length_cons]; omega, rfl, rfl⟩
          · obtain ⟨k, h1, h2, h3⟩ := ih.2 t ht q hq
            exact ⟨k + 1, by rw [ssg_lit, List.length_cons]; omega, by rw [up]; exact h2, by rw [ssg_lit, List.getD_cons_succ]; exact h3⟩
      | cpy n d a b =>
        have ha := (h.1.2.1).s_gt
        have hd : decide (256 < a.s) = true := decide_eq_true ha.1
        have up1 : ∀ k, flgf false (ssg (.cpy n d a b :: ts)) (k + 1) = flgf true (b :: ssg ts) k := fun k => by
          rw [ssg_cpy, flgf_cons, hd]; rfl
        have up : ∀ k, flgf false (ssg (.cpy n d a b :: ts)) (k + 2) = flgf false (ssg ts) k := fun k => by
          rw [up1, flgf_cons]; rfl
        refine ⟨?_, fun t ht q hq => ?_⟩
        · obtain ⟨k, h1, h2, h3⟩ := ih.1
          exact ⟨k + 2, by rw [ssg_cpy, List.length_cons, List.length_cons]; omega, by rw [up]; exact h2, by rw [ssg_cpy, List.getD_cons_succ, List.getD_cons_succ]; exact h3⟩
        · rcases List.mem_cons.1 ht with rfl | ht
          · simp [Tok.sgs] at hq
            rcases hq with rfl | rfl
            · exact ⟨0, by rw [ssg_cpy, List.length_cons]; omega, rfl, rfl⟩
            · exact ⟨1, by rw [ssg_cpy, List.length_cons, List.length_cons]; omega, by rw [up1]; rfl, rfl⟩
          · obtain ⟨k, h1, h2, h3⟩ := ih.2 t ht q hq
            exact ⟨k + 2, by rw [ssg_cpy, List.length_cons, List.length_cons]; omega, by rw [up]; exact h2, by rw [ssg_cpy, List.getD_cons_succ, List.getD_cons_succ]; exact h3⟩
  have k0 := key ts out h
  refine ⟨?_, fun t ht q hq => ?_⟩
  · obtain ⟨k, h1, h2, h3⟩ := k0.1
    rw [← h3]
    exact spl_mem _ _ _ k h1 (by rw [flg_f]; exact h2)
  · obtain ⟨k, h1, h2, h3⟩ := k0.2 t ht q hq
    rw [← h3]
    exact spl_mem _ _ _ k h1 (by rw [flg_f]; exact h2)
theorem coded_fixS : Coded Inf.fixS := ⟨by decide +kernel, by decide +kernel⟩
theorem coded_fixD : Coded Inf.fixD := ⟨by decide +kernel, by decide +kernel⟩
theorem fixS_pos (s : Nat) (h : s < 288) : 0 < Inf.fixS.getD s 0 := by
  rw [fixS_fx]
  have e : ((List.range 288).map fx).getD s 0 = fx s := by simp [h]
  rw [e]
  unfold fx
  split <;> (try split) <;> decide
theorem fixD_pos (s : Nat) (h : s < 32) : 0 < Inf.fixD.getD s 0 := by
  have key : ∀ s, s < 32 → 0 < Inf.fixD.getD s 0 := by decide +kernel
  exact key s h
theorem has_fixed {ts : List Tok} {out : List UInt8} (h : oks ts out) : ∀ t ∈ ts, t.has Inf.fixS Inf.fixD := by
  intro t ht
  obtain ⟨o, ho⟩ := oks_mem ts out h t ht
  have hb := tok_sgs ho
  cases t with
  | lit b =>
    have := (hb (⟨b, 0, 0⟩, false) (by simp [Tok.sgs])).2.2.1 rfl
    exact fixS_pos b (by simp at this; omega)
  | cpy n d a b =>
    have h1 := (hb (a, false) (by simp [Tok.sgs])).2.2.1 rfl
    have h2 := (hb (b, true) (by simp [Tok.sgs])).2.2.2 rfl
    simp only at h1 h2
    exact ⟨fixS_pos _ (by omega), fixD_pos _ (by omega)⟩
/-- Lengths of counts that count them have codes for them. -/
theorem has_counted {ts : List Tok} {out : List UInt8} (h : oks ts out) {zs ds : List Int} {La Lb : Nat} (hz : Lens (cnt (spl (ssg ts) false (ssg ts).length) 286) La zs) (hd : Lens (cnt (spl (ssg ts) true (ssg ts).length) 30) Lb ds) : (∀ t ∈ ts, t.has zs ds) ∧ 0 < zs.getD 256 0 := by
  have hs := spl_toks ts out h
  have pz : ∀ s, s < 286 → s ∈ spl (ssg ts) false (ssg ts).length → 0 < zs.getD s 0 := fun s h1 h2 => (hz.pos s).2 (cnt_pos _ _ _ h1 h2)
  have pd : ∀ s, s < 30 → s ∈ spl (ssg ts) true (ssg ts).length → 0 < ds.getD s 0 := fun s h1 h2 => (hd.pos s).2 (cnt_pos _ _ _ h1 h2)
  refine ⟨fun t ht => ?_, pz 256 (by decide) hs.1⟩
  obtain ⟨o, ho⟩ := oks_mem ts out h t ht
  have hb := tok_sgs ho
  cases t with
  | lit b =>
    have := (hb (⟨b, 0, 0⟩, false) (by simp [Tok.sgs])).2.2.1 rfl
    exact pz b this (hs.2 _ ht (⟨b, 0, 0⟩, false) (by simp [Tok.sgs]))
  | cpy n d a b =>
    have h1 := (hb (a, false) (by simp [Tok.sgs])).2.2.1 rfl
    have h2 := (hb (b, true) (by simp [Tok.sgs])).2.2.2 rfl
    exact ⟨pz _ h1 (hs.2 _ ht (a, false) (by simp [Tok.sgs])), pd _ h2 (hs.2 _ ht (b, true) (by simp [Tok.sgs]))⟩
theorem wds_length {zs ds : List Int} (hz : good zs) (hd : good ds) (ss : List Sg) (hm : ∀ k, k < ss.length → (ss.getD k nog).m ≤ 31) : ∀ k, k ≤ ss.length → (wds zs ds ss k).length ≤ 46 * k
  | 0, _ => Nat.le_refl _
  | k + 1, hk => by
    have h1 := wds_length hz hd ss hm k (by omega)
    have h2 := hm k (by omega)
    have h3 := getD_good hz (ss.getD k nog).s
    have h4 := getD_good hd (ss.getD k nog).s
    rw [wds, List.length_append, List.length_append, cod_length, num_length]
    split
    · omega
    · omega
end Go.Proofs.YtefeilgbofphjaaDoor
