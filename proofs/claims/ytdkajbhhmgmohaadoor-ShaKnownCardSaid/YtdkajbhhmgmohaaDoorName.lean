/-
  The contract of sha.Name.
-/
import Derived.Test.YtdkajbhhmgmohaaDoorOwn
namespace Go.Proofs.YtdkajbhhmgmohaaDoor
open Go.RowKit Sha

def digitsA : Array UInt8 := #[48, 49, 50, 51, 52, 53, 54, 55, 56, 57, 97, 98, 99, 100, 101, 102]
def preL : List UInt8 := [115, 104, 97, 50, 53, 54, 58]
/-- A number's hex digit. -/
def hexd (n : Nat) : UInt8 := digitsA.toList.getD n 0
def hexL (d : List UInt8) : List UInt8 := d.flatMap fun b => [hexd (b.toNat / 16), hexd (b.toNat % 16)]
/-- A digest's name. -/
def nameL (d : List UInt8) : List UInt8 := preL ++ hexL d
theorem dindex (d : List UInt8) (hd : d.length = 32) (k : Nat) (hk : k < 32) (w : World) : (Instr.index 25 (.agg (bcells d)) (.int .i64 (k : Int))).run Tryd.prog w = .ok (.int .u8 (bi (d.getD k 0))) w := by
  have h5 : (isAgg 5).run Tryd.prog w = .ok false w := by kernel_rfl
  have s5 : (sizeOf 5).run Tryd.prog w = .ok 1 w := by kernel_rfl
  have hn : 0 ≤ (k : Int) ∧ (k : Int) < (32 : Nat) := by omega
  simp only [Instr.index, asIntOf, Sem.run_bind, Sem.run_pure, Result.andThen_ok, run_underlying Tryd.underlying25, s5, part, h5, if_pos hn, Int.toNat_natCast, Nat.mul_one, bcells_at d k (by omega)]
  rfl
theorem hexix0 (w : World) : (Instr.index 9 (.string ⟨digitsA⟩) (.int .u8 0)).run Tryd.prog w = .ok (.int .u8 (bi (hexd 0))) w := by kernel_rfl
theorem hexix1 (w : World) : (Instr.index 9 (.string ⟨digitsA⟩) (.int .u8 1)).run Tryd.prog w = .ok (.int .u8 (bi (hexd 1))) w := by kernel_rfl
theorem hexix2 (w : World) : (Instr.index 9 (.string ⟨digitsA⟩) (.int .u8 2)).run Tryd.prog w = .ok (.int .u8 (bi (hexd 2))) w := by kernel_rfl
theorem hexix3 (w : World) : (Instr.index 9 (.string ⟨digitsA⟩) (.int .u8 3)).run Tryd.prog w = .ok (.int .u8 (bi (hexd 3))) w := by kernel_rfl
theorem hexix4 (w : World) : (Instr.index 9 (.string ⟨digitsA⟩) (.int .u8 4)).run Tryd.prog w = .ok (.int .u8 (bi (hexd 4))) w := by kernel_rfl
theorem hexix5 (w : World) : (Instr.index 9 (.string ⟨digitsA⟩) (.int .u8 5)).run Tryd.prog w = .ok (.int .u8 (bi (hexd 5))) w := by kernel_rfl
theorem hexix6 (w : World) : (Instr.index 9 (.string ⟨digitsA⟩) (.int .u8 6)).run Tryd.prog w = .ok (.int .u8 (bi (hexd 6))) w := by kernel_rfl
theorem hexix7 (w : World) : (Instr.index 9 (.string ⟨digitsA⟩) (.int .u8 7)).run Tryd.prog w = .ok (.int .u8 (bi (hexd 7))) w := by kernel_rfl
theorem hexix8 (w : World) : (Instr.index 9 (.string ⟨digitsA⟩) (.int .u8 8)).run Tryd.prog w = .ok (.int .u8 (bi (hexd 8))) w := by kernel_rfl
theorem hexix9 (w : World) : (Instr.index 9 (.string ⟨digitsA⟩) (.int .u8 9)).run Tryd.prog w = .ok (.int .u8 (bi (hexd 9))) w := by kernel_rfl
theorem hexix10 (w : World) : (Instr.index 9 (.string ⟨digitsA⟩) (.int .u8 10)).run Tryd.prog w = .ok (.int .u8 (bi (hexd 10))) w := by kernel_rfl
theorem hexix11 (w : World) : (Instr.index 9 (.string ⟨digitsA⟩) (.int .u8 11)).run Tryd.prog w = .ok (.int .u8 (bi (hexd 11))) w := by kernel_rfl
theorem hexix12 (w : World) : (Instr.index 9 (.string ⟨digitsA⟩) (.int .u8 12)).run Tryd.prog w = .ok (.int .u8 (bi (hexd 12))) w := by kernel_rfl
theorem hexix13 (w : World) : (Instr.index 9 (.string ⟨digitsA⟩) (.int .u8 13)).run Tryd.prog w = .ok (.int .u8 (bi (hexd 13))) w := by kernel_rfl
theorem hexix14 (w : World) : (Instr.index 9 (.string ⟨digitsA⟩) (.int .u8 14)).run Tryd.prog w = .ok (.int .u8 (bi (hexd 14))) w := by kernel_rfl
theorem hexix15 (w : World) : (Instr.index 9 (.string ⟨digitsA⟩) (.int .u8 15)).run Tryd.prog w = .ok (.int .u8 (bi (hexd 15))) w := by kernel_rfl
theorem hexix (n : Nat) (hn : n < 16) (w : World) : (Instr.index 9 (.string ⟨digitsA⟩) (.int .u8 (n : Int))).run Tryd.prog w = .ok (.int .u8 (bi (hexd n))) w := by
  match n, hn with
  | 0, _ => exact hexix0 w
  | 1, _ => exact hexix1 w
  | 2, _ => exact hexix2 w
  | 3, _ => exact hexix3 w
  | 4, _ => exact hexix4 w
  | 5, _ => exact hexix5 w
  | 6, _ => exact hexix6 w
  | 7, _ => exact hexix7 w
  | 8, _ => exact hexix8 w
  | 9, _ => exact hexix9 w
  | 10, _ => exact hexix10 w
  | 11, _ => exact hexix11 w
  | 12, _ => exact hexix12 w
  | 13, _ => exact hexix13 w
  | 14, _ => exact hexix14 w
  | 15, _ => exact hexix15 w
  | k + 16, h => exact absurd h (by omega)

theorem hexL_take_succ (d : List UInt8) (k : Nat) (hk : k < d.length) : hexL (d.take (k + 1)) = hexL (d.take k) ++ [hexd ((d.getD k 0).toNat / 16), hexd ((d.getD k 0).toNat % 16)] := by
  rw [List.take_add_one, List.getElem?_eq_getElem hk]
  simp only [hexL, Option.toList_some, List.flatMap_append, List.flatMap_cons, List.flatMap_nil, List.append_nil]
  simp [hk]
theorem hexL_length (d : List UInt8) : (hexL d).length = 2 * d.length := by
  induction d with
  | nil => rfl
  | cons x t ih => simp [hexL] at ih ⊢; omega
theorem u8_hi (b : UInt8) : bi b / 16 = ((b.toNat / 16 : Nat) : Int) := by unfold bi; omega
theorem u8_lo (b : UInt8) : bits .and .u8 (bi b) 15 = ((b.toNat % 16 : Nat) : Int) := by
  have := u8_and_nat b.toNat 15 b.toNat_lt (by decide)
  unfold bi
  rw [show ((15 : Nat) : Int) = 15 from rfl] at this
  rw [this, nat_mask4]
def NameRel (d : List UInt8) (w : World) (v i : Value) (wr : World) : Prop :=
  ∃ k : Nat, k ≤ 32 ∧ i = .int .i64 k ∧ OwnB (w.heap.size + 1) wr v (preL ++ hexL (d.take k)) ∧ Below w.heap.size w wr ∧ w.heap.size < wr.heap.size
def StrPost (l : List UInt8) (w : World) (e : Ending) (w' : World) : Prop := e = .returned (.string ⟨l.toArray⟩) ∧ Below w.heap.size w w'
theorem str_eq (s : ByteArray) : Lib.strCells s = bl s.data.toList := rfl

theorem wpList_make0 (w : World) {ops : Array Oper} {rest : List Oper} {o : Oper} {a : Act} {Q : Exit → Act → World → Prop}
    (hgd : o.guard = none) (l c : Operand) (hop : o.op = Op.makeSlice 22 l c) (base g cap : Nat) (C : Int) (hl : a.eval l = .int .i64 0) (hc : a.eval c = .int .i64 C) (hC : C = (cap : Int)) (hcap : cap ≤ 1099511627776) (hg : w.heap.size = g) (hbase : base ≤ g)
    (hK : ∀ w', OwnB base w' (.slice (some ⟨g, 0, none⟩) 0 cap) [] → Below g w w' → g < w'.heap.size → wpList Tryd.prog ops Q rest (a.put o.dst (.slice (some ⟨g, 0, none⟩) 0 cap)) w') :
    wpList Tryd.prog ops Q (o :: rest) a w := by
  subst hg
  obtain ⟨i0, hi, hz0, hz1, hz2⟩ := info_parts info5
  refine wpList_make_own w hgd l c 22 hop base 5 i0 (.int .u8 0) 1 Tryd.underlying22 hi hz0 hz1 .i64 .i64 C cap hl hc hC (by rw [hz2]; omega) (by unfold maxLen; omega) hbase ?_
  intro w' hown hgr
  have ho : OwnB base w' (.slice (some ⟨w.heap.size, 0, none⟩) 0 cap) [] := hown
  exact hK w' ho ((Below.refl _ w).grown hgr (Nat.le_refl _) (fun k hk => by cases hk)) (ho.lt _ rfl).2
theorem wpList_appStr (w : World) {ops : Array Oper} {rest : List Oper} {o : Oper} {a : Act} {Q : Exit → Act → World → Prop} (hgd : o.guard = none) (d x : Operand)
    (ho : o.op = .call { callee := .builtin .append, args := #[d, x], argTypes := #[22, 9] }) (base : Nat) (v : Value) (l : List UInt8) (s : ByteArray) (hd : a.eval d = v) (hx : a.eval x = .string s)
    (hown : OwnB base w v l) (hbase : base ≤ w.heap.size) (hsz : l.length + s.size ≤ 1099511627776)
    (h : ∀ v' w', OwnB base w' v' (l ++ s.data.toList) → w.grownBy w' v.ownBlock → wpList Tryd.prog ops Q rest (a.put o.dst v') w') : wpList Tryd.prog ops Q (o :: rest) a w := by
  obtain ⟨i0, hi, hz0, hz1, hz2⟩ := info_parts info5
  refine Lib.wpList_append_own_string w hgd d x 22 9 ho base 5 i0 Tryd.underlying22 Tryd.underlying9 hi hz0 hz1 hz2 v l.length (bl l) hd hown s hx (by unfold maxLen; omega) (by omega) hbase ?_
  intro v' w' hown' hg _
  refine h v' w' ?_ hg
  unfold OwnB
  rw [List.length_append, bl_append]; exact hown'
theorem grown_below {B : Nat} {w w' : World} {v : Value} (hg : w.grownBy w' v.ownBlock) (hB : B ≤ w.heap.size) (hv : ∀ k, v.ownBlock = some k → B ≤ k) : Below B w w' :=
  (Below.refl _ w).grown hg hB hv

theorem slw_two (w : World) (x y : UInt8) (t : TypeId) : SlW (w.alloc (.cells #[.int .u8 (bi x), .int .u8 (bi y)] t)) (.slice (some ⟨w.heap.size, 0, none⟩) 2 2) [x, y] :=
  .inl ⟨w.heap.size, 0, 2, rfl, Nat.le_refl _, fun i hi => by
    rw [Nat.zero_add, cell_of_row _ _ _ _ _ _ (heap_alloc_new _ _)]
    match i, hi with
    | 0, _ => rfl
    | 1, _ => rfl⟩
set_option maxRecDepth 100000 in
set_option maxHeartbeats 400000 in
theorem name_walk (d : List UInt8) (hd : d.length = 32) (w : World) : Calls Tryd.prog 15 #[.agg (bcells d)] w (StrPost (nameL d) w) := by
  have HD := Lib.hid hd
  have hcs : (bcells d).size = 32 := by rw [bcells_size, hd]
  have HCS : Hid ((Tryd.prog.info? 25).map (·.size) = some (bcells d).size) := Lib.hid (by rw [hcs]; exact size25)
  have HIX := Lib.hid (dindex d hd)
  clear hd hcs
  go_enter Tryd.func15, Tryd.ntmps15
  go_wp2_with (first | (refine wpList_make0 _ rfl _ _ rfl (w.heap.size + 1) (w.heap.size + 1) 71 71 rfl rfl rfl (by omega) (by simp) (Nat.le_refl _) ?_; intro w1 hown1 hb1 hz1; have hx1 : w1.heap[w.heap.size]? = some (.cells (bcells d) 25 (0, 0)) := (hb1.block w.heap.size (by omega)).trans (heap_alloc_new _ _); have hbel1 : Below w.heap.size w w1 := ((Below.refl _ _).alloc (Nat.le_refl _) _).trans (hb1.mono (by omega))) | (refine wpList_appStr _ rfl _ _ rfl (w.heap.size + 1) _ [] ⟨#[115, 104, 97, 50, 53, 54, 58]⟩ rfl rfl hown1 (by omega) (by decide) ?_; intro v2 w2 hown2 hg2; have hb2 := grown_below (B := w.heap.size + 1) hg2 (by omega) (fun k hk => (hown1.lt k hk).1); have HX2 := Lib.hid ((hb2.block w.heap.size (by omega)).trans hx1); have hbel2 := hbel1.trans (hb2.mono (by omega)); clear hg2 hb2 hx1 hbel1 hown1 hb1 hz1) | (refine wpList_load_row rfl 25 _ rfl w.heap.size rfl 25 (bcells d) (0, 0) _ HX2.out Tryd.underlying25 rfl HCS.out ?_))
  have hsz2 : w.heap.size < w2.heap.size := (Array.getElem?_eq_some_iff.1 HX2.out).1
  go_loopw [3, 10] (fun v i wr => NameRel d w v i wr) (fun _ i _ => 32 - (intOf i).toNat)
  case atStart => exact ⟨0, by omega, rfl, hown2, hbel2, hsz2⟩
  case round =>
    clear hown2 hbel2 hsz2
    obtain ⟨k, hk, rfl, hown, hbel, hsz⟩ := hrel
    by_cases hlt : k < 32
    · have hki : (k : Int) < 32 := by omega
      have hix := HIX.out k hlt
      have HT := Lib.hid (hexL_take_succ d k (by have := HD.out; omega))
      have hlen : (preL ++ hexL (d.take k)).length + 2 ≤ 1099511627776 := by rw [List.length_append, hexL_length]; simp [preL]; omega
      have HL := Lib.hid hlen
      clear hlen
      generalize d.getD k 0 = b at *
      obtain ⟨ph, hph⟩ : ∃ p, p = b.toNat / 16 := ⟨_, rfl⟩
      obtain ⟨pl, hpl⟩ : ∃ p, p = b.toNat % 16 := ⟨_, rfl⟩
      have e1 := u8_hi b
      have e2 := u8_lo b
      have g1 : ph < 16 := by have := b.toNat_lt; omega
      have g2 : pl < 16 := by omega
      rw [← hph] at e1 HT
      rw [← hpl] at e2 HT
      have h1 := hexix ph g1
      have h2 := hexix pl g2
      have i1 : (ph : Int) < 16 := by omega
      have i2 : (pl : Int) < 16 := by omega
      simp only [digitsA] at h1 h2
      clear hph hpl
      have hb0 := bi_nonneg b
      have hb1 := bi_lt b
      go_wp2_with fail
      go_region_law (first | (refine step_appB rfl (.tmp 13) (.tmp 20) rfl (w.heap.size + 1) _ _ _ [hexd ph, hexd pl] rfl rfl (hown.drew.alloc _) (slw_two _ _ _ _) (by simp; omega) HL.out ?_; intro v3 w3 hown3 hg3) | fail)
      all_goals
        have hb3 : Below (w.heap.size + 1) wr w3 := ((((Below.refl _ _).alloc (by omega) _).drew).trans (grown_below (v := u3) hg3 (by simp; omega) (fun k hk => (hown.lt k hk).1)))
        have hz3 := hb3.size
        have hbel3 := hbel.trans (hb3.mono (Nat.le_succ _))
        have hown4 : OwnB (w.heap.size + 1) w3 v3 (preL ++ hexL (d.take (k + 1))) := by rw [HT.out, ← List.append_assoc]; exact hown3
        clear hg3 hown3 e1 e2 h1 h2 hix
        go_wp2_with fail
        refine ⟨⟨k + 1, by omega, by go_num, hown4, hbel3, by omega⟩, by simp [intOf]; omega⟩
    · have hki : (32 : Int) ≤ (k : Int) := by omega
      have hfin : preL ++ hexL (d.take k) = nameL d := by rw [List.take_of_length_le (by have := HD.out; omega)]; rfl
      rw [hfin] at hown
      have hcv := run_toString hown.toW
      clear hfin
      go_wp2_with fail
      go_ret
      exact ⟨rfl, hbel⟩
end Go.Proofs.YtdkajbhhmgmohaaDoor
