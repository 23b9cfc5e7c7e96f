/-
  The law of fields apart.
-/
import Derived.Test.YtkkelmlkpehcpaaDoorFu
namespace Go.Proofs.YtkkelmlkpehcpaaDoor
open Go.RowKit

def nameA (k : Nat) : ByteArray := ⟨((fields.map fun x : List UInt8 × Nat × Nat => x.1).getD k []).toArray⟩
def pA (k : Nat) : Nat := ((fields.map fun x : List UInt8 × Nat × Nat => x.2.1) ++ [500]).getD k 0
def nA (k : Nat) : Nat := (fields.map fun x : List UInt8 × Nat × Nat => x.2.2).getD k 0
theorem place_at (k : Nat) (hk : k < 16) : place (nameA k).data.toList = some (pA k, nA k) ∧ pA (k + 1) = pA k + nA k ∧ 0 < nA k ∧ pA k + nA k ≤ 500 ∧ (nameA k).size ≤ 100 := by
  have key : ∀ k : Fin 16, place (nameA k.1).data.toList = some (pA k.1, nA k.1) ∧ pA (k.1 + 1) = pA k.1 + nA k.1 ∧ 0 < nA k.1 ∧ pA k.1 + nA k.1 ≤ 500 ∧ (nameA k.1).size ≤ 100 := by decide
  exact key ⟨k, hk⟩
def namesV : Array Value := ((List.range 16).map fun k => Value.string (nameA k)).toArray
theorem names_ix (k : Nat) (hk : k < 16) (w : World) : (Instr.index 55 (.agg namesV) (.int .i64 (k : Int))).run Tryd.prog w = .ok (.string (nameA k)) w := by
  have h5 : (isAgg 9).run Tryd.prog w = .ok false w := by kernel_rfl
  have s5 : (sizeOf 9).run Tryd.prog w = .ok 1 w := by kernel_rfl
  have hn : 0 ≤ (k : Int) ∧ (k : Int) < (16 : Nat) := by omega
  have hat : namesV[k]? = some (.string (nameA k)) := by simp [namesV, hk]
  simp only [Instr.index, asIntOf, Sem.run_bind, Sem.run_pure, Result.andThen_ok, run_underlying Tryd.underlying55, s5, part, h5, if_pos hn, Int.toNat_natCast, Nat.mul_one, hat]
  rfl
theorem namesV_eq : namesV = #[.string ⟨#[110, 97, 109, 101]⟩, .string ⟨#[109, 111, 100, 101]⟩, .string ⟨#[117, 105, 100]⟩, .string ⟨#[103, 105, 100]⟩, .string ⟨#[115, 105, 122, 101]⟩, .string ⟨#[109, 116, 105, 109, 101]⟩, .string ⟨#[99, 104, 107, 115, 117, 109]⟩, .string ⟨#[116, 121, 112, 101]⟩, .string ⟨#[108, 105, 110, 107, 110, 97, 109, 101]⟩, .string ⟨#[109, 97, 103, 105, 99]⟩, .string ⟨#[118, 101, 114, 115, 105, 111, 110]⟩, .string ⟨#[117, 110, 97, 109, 101]⟩, .string ⟨#[103, 110, 97, 109, 101]⟩, .string ⟨#[100, 101, 118, 109, 97, 106, 111, 114]⟩, .string ⟨#[100, 101, 118, 109, 105, 110, 111, 114]⟩, .string ⟨#[112, 114, 101, 102, 105, 120]⟩] := by rfl
/-- What stands in the block that is set, behind k fields. -/
def soFar (b : List UInt8) (p : Nat) : List UInt8 := b.take p ++ List.replicate (512 - p) 0
theorem soFar_length (b : List UInt8) (hb : b.length = 512) (p : Nat) (hp : p ≤ 512) : (soFar b p).length = 512 := by simp [soFar, hb]; omega
theorem soFar_step (b : List UInt8) (hb : b.length = 512) (p n : Nat) (hp : p + n ≤ 500) : setF (soFar b p) p (fpart b p n) = soFar b (p + n) := by
  have hfl : (fpart b p n).length = n := by simp [fpart, hb]; omega
  apply List.ext_getElem?
  intro i
  rw [setF_get _ p _ (by rw [hfl, soFar_length b hb p (by omega)]; omega), hfl, fpart_get]
  unfold soFar
  by_cases h1 : i < p
  · rw [if_pos h1, List.getElem?_append_left (by simp [hb]; omega), List.getElem?_append_left (by simp [hb]; omega), List.getElem?_take, List.getElem?_take, if_pos h1, if_pos (by omega)]
  · rw [if_neg h1]
    by_cases h2 : i < p + n
    · rw [if_pos h2, if_pos (by omega), List.getElem?_append_left (by simp [hb]; omega), List.getElem?_take, if_pos h2]
      congr 1; omega
    · rw [if_neg h2, List.getElem?_append_right (by simp [hb]; omega), List.getElem?_append_right (by simp [hb]; omega), List.getElem?_replicate, List.getElem?_replicate]
      simp only [List.length_take, hb]
      congr 1
      simp; omega
theorem take_step (b : List UInt8) (p n : Nat) : b.take p ++ fpart b p n = b.take (p + n) := by
  unfold fpart
  rw [List.take_add]
/-- What holds of memory at a round's head. -/
structure ApartAt (w wr : World) (G : Nat) (b : List UInt8) (v : Value) (p : Nat) : Prop where
  below : Below w.heap.size w wr
  size : G + 2 ≤ wr.heap.size
  x : BlkAt wr (G + 1) b
  y : BlkAt wr G (soFar b p)
  own : wr.ownsRow (G + 2) 5 1 v p (bl (b.take p))
  row0 : wr.heap[w.heap.size]? = some (.cells (bl b).toArray 39 (0, 0))
def ApartLoop (w : World) (G : Nat) (b : List UInt8) (v i : Value) (wr : World) : Prop := ∃ k : Nat, k ≤ 16 ∧ i = .int .i64 k ∧ ApartAt w wr G b v (pA k)
theorem pA_zero : pA 0 = 0 := rfl
theorem pA_all : pA 16 = 500 := rfl
theorem names_info : (Tryd.prog.info? 55).map (·.size) = some namesV.size := by kernel_rfl
theorem names_one : namesV.all (·.oneCell') = true := by kernel_rfl
theorem names_zero : (#[.string ⟨#[]⟩, .string ⟨#[]⟩, .string ⟨#[]⟩, .string ⟨#[]⟩, .string ⟨#[]⟩, .string ⟨#[]⟩, .string ⟨#[]⟩, .string ⟨#[]⟩, .string ⟨#[]⟩, .string ⟨#[]⟩, .string ⟨#[]⟩, .string ⟨#[]⟩, .string ⟨#[]⟩, .string ⟨#[]⟩, .string ⟨#[]⟩, .string ⟨#[]⟩] : Array Value).size = namesV.size := by kernel_rfl
theorem zero_blk (w : World) : BlkAt (w.alloc (.cells Tryd.zeroCells40 40)) w.heap.size (List.replicate 512 0) :=
  ⟨by rw [List.length_replicate], by rw [heap_alloc_new, zero512]⟩
theorem soFar_zero (b : List UInt8) : soFar b 0 = List.replicate 512 0 := by unfold soFar; rw [List.take_zero, List.nil_append]
theorem slice_to {t n : Nat} (ht : Tryd.prog.underlying t = some (.array n 5)) (hn : Tryd.prog.arrayLen t = n) (he : Tryd.prog.elem t = 5) (g h : Nat) (h2 : h ≤ n) (w : World) :
    (Instr.sliceAt t (.pointer (some ⟨g, 0, none⟩)) none (some (.int .i64 (h : Int))) none).run Tryd.prog w = .ok (.slice (some ⟨g, 0, none⟩) h n) w := by
  rw [run_sliceAt_array_h w t ⟨g, 0, none⟩ (by rw [hn, he]; exact ht) .i64 (h : Int) (by omega) (by rw [hn]; omega), he, size5]
  have hadd : (⟨g, 0, none⟩ : Addr).add 0 = ⟨g, 0, none⟩ := add0 g
  simp [Result.andThen, slicedAt, hn, hadd]
theorem arr39 : Tryd.prog.arrayLen 39 = 512 := by kernel_rfl
theorem elm39 : Tryd.prog.elem 39 = 5 := by kernel_rfl
theorem field_at (w : World) (g : Nat) (l : List UInt8) (h : BlkAt w g l) (s : ByteArray) (hs : s.size ≤ 100) (p n : Nat) (hp : place s.data.toList = some (p, n)) :
    Calls Tryd.prog 23 #[.pointer (some ⟨g, 0, none⟩), .string s] w fun e w' => ∃ v', e = .returned (.tuple #[v', .bool true]) ∧ w'.ownsRow w.heap.size 5 1 v' n (bl (fpart l p n)) ∧ Below w.heap.size w w' := by
  refine (field_walk w g l h s (by unfold maxLen; omega)).mono fun e w' hq => ?_
  unfold FieldPost at hq
  rw [hp] at hq
  exact hq
theorem set_at (w : World) (g : Nat) (l : List UInt8) (h : BlkAt w g l) (s : ByteArray) (hs : s.size ≤ 100) (p n : Nat) (hp : place s.data.toList = some (p, n)) (v : Value) (vs : List UInt8) (hv : SlV w v (bl vs)) (hn : vs.length = n) :
    Calls Tryd.prog 29 #[.pointer (some ⟨g, 0, none⟩), .string s, v] w fun e w' => e = .returned (.int .i64 0) ∧ BlkAt w' g (setF l p vs) ∧ OnlyS (· = g) w w' := by
  obtain ⟨b1, _, _⟩ := place_in _ _ _ hp
  refine (set_walk w g l h s (by unfold maxLen; omega) v vs hv (by unfold maxLen; omega)).mono fun e w' hq => ?_
  unfold SetPost at hq
  rw [hp] at hq
  exact (if_pos hn).mp hq
theorem fpart_len (b : List UInt8) (hb : b.length = 512) (p n : Nat) (h : p + n ≤ 500) : (fpart b p n).length = n := by simp [fpart, hb]; omega
set_option maxRecDepth 100000 in
set_option maxHeartbeats 2000000 in
theorem apart_walk (w : World) (b : List UInt8) (hb : b.length = 512) (ht : TzAt w) :
    Calls Tryd.prog 8 #[.agg (bl b).toArray] w (WakesPost w) := by
  have HT := Lib.hid ht
  have HB := Lib.hid hb
  have HI0 := Lib.hid (bl_size39 b hb)
  have HI1 := Lib.hid (bl_size b hb)
  have HZ := Lib.hid (zsize b hb)
  have H1 := Lib.hid (bl_all b)
  have HNI := Lib.hid names_info
  have HNO := Lib.hid names_one
  have HNZ := Lib.hid names_zero
  have HNA : Hid (((w.alloc (.cells (bl b).toArray 39)).alloc (.cells #[.string ⟨#[]⟩, .string ⟨#[]⟩, .string ⟨#[]⟩, .string ⟨#[]⟩, .string ⟨#[]⟩, .string ⟨#[]⟩, .string ⟨#[]⟩, .string ⟨#[]⟩, .string ⟨#[]⟩, .string ⟨#[]⟩, .string ⟨#[]⟩, .string ⟨#[]⟩, .string ⟨#[]⟩, .string ⟨#[]⟩, .string ⟨#[]⟩, .string ⟨#[]⟩] 55)).heap[w.heap.size + 1]? = some (.cells #[.string ⟨#[]⟩, .string ⟨#[]⟩, .string ⟨#[]⟩, .string ⟨#[]⟩, .string ⟨#[]⟩, .string ⟨#[]⟩, .string ⟨#[]⟩, .string ⟨#[]⟩, .string ⟨#[]⟩, .string ⟨#[]⟩, .string ⟨#[]⟩, .string ⟨#[]⟩, .string ⟨#[]⟩, .string ⟨#[]⟩, .string ⟨#[]⟩, .string ⟨#[]⟩] 55 (0, 0))) := Lib.hid (heap_alloc2_new _ _ _)
  obtain ⟨WA, hWA⟩ : ∃ WA, ((w.alloc (.cells (bl b).toArray 39)).alloc (.cells #[.string ⟨#[]⟩, .string ⟨#[]⟩, .string ⟨#[]⟩, .string ⟨#[]⟩, .string ⟨#[]⟩, .string ⟨#[]⟩, .string ⟨#[]⟩, .string ⟨#[]⟩, .string ⟨#[]⟩, .string ⟨#[]⟩, .string ⟨#[]⟩, .string ⟨#[]⟩, .string ⟨#[]⟩, .string ⟨#[]⟩, .string ⟨#[]⟩, .string ⟨#[]⟩] 55)).setRow (w.heap.size + 1) namesV = WA := ⟨_, rfl⟩
  have HWA := Lib.hid hWA
  have HA0 : Hid (WA.heap[w.heap.size]? = some (.cells (bl b).toArray 39 (0, 0))) := Lib.hid (by rw [← hWA, setRow_other _ _ _ _ (by omega)]; exact heap_alloc2_old _ _ _)
  have HA1 : Hid (WA.heap[w.heap.size + 1]? = some (.cells namesV 55 (0, 0))) := Lib.hid (by rw [← hWA]; exact setRow_heap _ _ _ _ _ _ HNA.out)
  have HAB : Hid (Below w.heap.size w WA) := Lib.hid (by rw [← hWA]; exact below_setRow (((Below.refl _ _).alloc (Nat.le_refl _) _).alloc (by simp) _) (Nat.le_succ _) _)
  have HAS : Hid (WA.heap.size = w.heap.size + 2) := Lib.hid (by rw [← hWA]; simp)
  have HAX : Hid (((WA.alloc (.cells Tryd.zeroCells40 40)).alloc (.cells Tryd.zeroCells40 40)).heap[WA.heap.size + 1]? = some (.cells Tryd.zeroCells40 40 (0, 0))) := Lib.hid (heap_alloc2_new _ _ _)
  have HA0' : Hid ((WA.alloc (.cells Tryd.zeroCells40 40)).heap[w.heap.size]? = some (.cells (bl b).toArray 39 (0, 0))) := Lib.hid (((Below.refl WA.heap.size WA).alloc (Nat.le_refl _) _).block w.heap.size (by rw [HAS.out]; omega) |>.trans HA0.out)
  obtain ⟨WB, hWB⟩ : ∃ WB, ((WA.alloc (.cells Tryd.zeroCells40 40)).alloc (.cells Tryd.zeroCells40 40)).setRow (WA.heap.size + 1) (bl b).toArray = WB := ⟨_, rfl⟩
  have HWB := Lib.hid hWB
  have HBB : Hid (Below WA.heap.size WA WB) := Lib.hid (by rw [← hWB]; exact below_setRow (((Below.refl _ _).alloc (Nat.le_refl _) _).alloc (by simp) _) (Nat.le_succ _) _)
  have HB1 : Hid (WB.heap[w.heap.size + 1]? = some (.cells namesV 55 (0, 0))) := Lib.hid ((HBB.out.block _ (by rw [HAS.out]; omega)).trans HA1.out)
  have HS0 : Hid (ApartAt w WB WA.heap.size b (.slice none 0 0) 0) := Lib.hid ⟨HAB.out.trans (HBB.out.mono HAB.out.size), by rw [← hWB]; simp, ⟨hb, by rw [← hWB]; exact setRow_heap _ _ _ _ _ _ HAX.out⟩, ⟨by rw [soFar_length b hb 0 (by omega)], by rw [← hWB, soFar_zero, setRow_other _ _ _ _ (by omega)]; rw [heap_alloc2_old, zero512]⟩, World.ownsRow_nil _ _ _ _, (HBB.out.block _ (by rw [HAS.out]; omega)).trans HA0.out⟩
  clear hWA hWB ht hb
  go_enter Tryd.func8, Tryd.ntmps8
  go_wp2_with (first
    | (refine wpList_buildXG rfl 55 _ rfl namesV (by kernel_rfl) ?_)
    | (refine wpList_store_row rfl 55 _ _ rfl (w.heap.size + 1) namesV rfl rfl 55 _ HNA.out HNI.out HNZ.out HNO.out ?_; rw [HWA.out])
    | (refine wpList_load_row rfl 39 _ rfl w.heap.size rfl 39 (bl b).toArray (0, 0) _ HA0'.out Tryd.underlying39 rfl HI0.out ?_)
    | (refine wpList_store_row rfl 40 _ _ rfl (WA.heap.size + 1) (bl b).toArray rfl rfl 40 _ HAX.out HI1.out HZ.out H1.out ?_; rw [HWB.out])
    | (refine wpList_load_row rfl 55 _ rfl (w.heap.size + 1) rfl 55 namesV (0, 0) _ HB1.out Tryd.underlying55 rfl HNI.out ?_))
  obtain ⟨G, hG⟩ : ∃ G, WA.heap.size = G := ⟨_, rfl⟩
  rw [hG] at HS0 ⊢
  have HG : Hid (w.heap.size < G) := Lib.hid (by rw [← hG, HAS.out]; omega)
  clear hG HNA HWA HA0 HA1 HAB HAS HAX HA0' HWB HB1 HI0 HI1 HZ H1 HNI HNO HNZ
  go_loopw [4, 14] (fun v i wr => ApartLoop w G b v i wr) (fun _ i _ => 16 - (intOf i).toNat)
  case atStart => exact ⟨0, by omega, rfl, HS0.out⟩
  case round =>
    clear HS0
    obtain ⟨k, hk, rfl, hR⟩ := hrel
    have HR := Lib.hid hR
    clear hR
    by_cases hlt : k < 16
    · have hltI : (k : Int) < 16 := by omega
      have hix := names_ix k hlt
      obtain ⟨f1, f2, f3, f4, f5⟩ := place_at k hlt
      obtain ⟨p, hp⟩ : ∃ p, pA k = p := ⟨_, rfl⟩
      obtain ⟨n, hn⟩ : ∃ n, nA k = n := ⟨_, rfl⟩
      rw [hp] at f1 f2 f4 HR
      rw [hn] at f1 f2 f3 f4
      have HF1 := Lib.hid f1
      have HF2 := Lib.hid f2
      have HF4 := Lib.hid (And.intro f3 (And.intro f4 f5))
      have HPN := Lib.hid (fpart_len b HB.out p n f4)
      generalize nameA k = s at *
      obtain ⟨i0, hi, hz0, hz1, hz2⟩ := info_parts info5
      have HI5 := Lib.hid (And.intro hi (And.intro hz0 (And.intro hz1 hz2)))
      clear f1 f2 f3 f4 f5 hp hn hi hz0 hz1 hz2
      go_wp2_with (first
        | ((with_reducible refine (field_at wr (G + 1) b HR.out.x s HF4.out.2.2 p n HF1.out).mono ?_); rintro e w1 ⟨v9, rfl, ho9, hb9⟩; have HO9 := Lib.hid ho9; have HB9 := Lib.hid hb9; clear ho9 hb9)
        | ((with_reducible refine (set_at w1 G (soFar b p) (HR.out.y.below HB9.out HR.out.y.lt) s HF4.out.2.2 p n HF1.out v9 (fpart b p n) (own_toV HO9.out) HPN.out).mono ?_); rintro e w2 ⟨rfl, hb2, ho2⟩; have HB2 := Lib.hid hb2; have HO2 := Lib.hid ho2; clear hb2 ho2; have HK9 : Hid (SlK 1 w2 v9 n (bl (fpart b p n))) := Lib.hid (by have h := (own_toV (own_stays HO9.out (fun k hk => HO2.out.block k (own_lt HO9.out k hk).2 (by have := (own_lt HO9.out k hk).1; have := HR.out.size; omega)))).toK; rw [bl_length, HPN.out] at h; exact h); have HOW : Hid (w2.ownsRow (G + 2) 5 1 _ p (bl (b.take p))) := Lib.hid (own_stays HR.out.own (fun k hk => by have := own_lt HR.out.own k hk; exact (HO2.out.block k (Nat.lt_of_lt_of_le this.2 HB9.out.size) (by omega)).trans (HB9.out.block k this.2))))
        | (refine wpList_appK 22 5 i0 (.int .u8 0) 1 1 Tryd.underlying22 HI5.out.1 HI5.out.2.1 HI5.out.2.2.1 HI5.out.2.2.2 rfl (by decide) (by decide) rfl (.tmp 30) (.tmp 31) rfl (G + 2) _ v9 p n (bl (b.take p)) (bl (fpart b p n)) rfl rfl (bl_one _) HOW.out HK9.out (by have := HR.out.size; have := HB9.out.size; have := HO2.out.size; omega) (by have := HF4.out; omega) ?_; intro v3 w3 hown hgrow _; have HOW3 := Lib.hid hown; have HGR := Lib.hid hgrow; clear hown hgrow))
      have hv := fun k hk => (own_lt HR.out.own k hk).1
      have g1 : ∀ q, q < wr.heap.size → q ≠ G → q < G + 2 → w3.heap[q]? = wr.heap[q]? := fun q h1 h2 h3 =>
        ((HGR.out.block q (Nat.lt_of_lt_of_le h1 (Nat.le_trans HB9.out.size HO2.out.size)) (fun e => by have := hv q e.symm; omega)).trans (HO2.out.block q (Nat.lt_of_lt_of_le h1 HB9.out.size) h2)).trans (HB9.out.block q h1)
      refine ⟨⟨k + 1, by omega, by go_num, ?_⟩, by simp [intOf]; omega⟩
      rw [HF2.out]
      have hsz := HR.out.size
      have hwG := HG.out
      have s9 := HB9.out.size
      have s2 := HO2.out.size
      have s3 := HGR.out.size
      refine ⟨?_, by omega, ⟨HB.out, (g1 (G + 1) (by omega) (by omega) (by omega)).trans HR.out.x.row⟩, ?_, ?_, (g1 w.heap.size (by omega) (by omega) (by omega)).trans HR.out.row0⟩
      · have b1 := HR.out.below
        have b2 := b1.trans (HB9.out.mono b1.size)
        have b3 := b2.trans (HO2.out.below (B := w.heap.size) b2.size (fun k hk => by rw [hk]; omega))
        exact b3.grown HGR.out b3.size (fun k hk => by have := hv k hk; omega)
      · have h1 := HB2.out
        rw [soFar_step b HB.out p n HF4.out.2.1] at h1
        exact ⟨h1.len, (HGR.out.block G (by omega) (fun e => by have := hv G e.symm; omega)).trans h1.row⟩
      · have h1 := HOW3.out
        rwa [← bl_append, take_step] at h1
    · obtain rfl : k = 16 := by omega
      clear hlt
      rw [pA_all] at HR
      obtain ⟨ga, ca, hva, _⟩ := own_spot HR.out.own (by omega)
      subst hva
      have HV : Hid (SlV wr (.slice (some ⟨ga, 0, none⟩) 500 ca) (bl (b.take 500))) := Lib.hid (own_toV HR.out.own)
      have HX0 : Hid (SlV wr (.slice (some ⟨w.heap.size, 0, none⟩) 500 512) (bl (b.take 500))) := Lib.hid (.inl ⟨w.heap.size, 0, 512, by simp [HB.out], by simp [HB.out], fun i v hi => by
        rw [Nat.zero_add, cell_of_row _ _ _ _ _ _ HR.out.row0]
        rw [← bl_take, List.getElem?_take] at hi
        split at hi
        · simpa using hi
        · cases hi⟩)
      have HY0 : Hid (SlV wr (.slice (some ⟨G, 0, none⟩) 500 512) (bl (b.take 500))) := Lib.hid (by
        have h := HR.out.y.piece 0 500 512 (by decide) (by decide)
        have e : ((soFar b 500).drop 0).take 500 = b.take 500 := by
          rw [List.drop_zero, soFar, List.take_append_of_le_length (by simp [HB.out]), List.take_take]
          rfl
        rwa [e] at h)
      have HY1 : Hid (SlV wr (.slice (some ⟨G, 500, none⟩) 12 12) (bl (List.replicate 12 0))) := Lib.hid (by
        have h := HR.out.y.piece 500 12 12 (by decide) (by decide)
        have e : ((soFar b 500).drop 500).take 12 = List.replicate 12 0 := by
          rw [soFar, List.drop_append_of_le_length (by simp [HB.out]), List.drop_eq_nil_of_le (by simp [HB.out])]
          rfl
        rwa [e] at h)
      have hsl1 := slice_to (t := 39) Tryd.underlying39 arr39 elm39 w.heap.size 500 (by omega)
      have hsl2 := slice_to (t := 40) Tryd.underlying40 arr512 elm512 G 500 (by omega)
      have hsl3 := slice_l (t := 40) Tryd.underlying40 arr512 elm512 G 500 (by omega)
      have hmk : ∀ w, (Instr.makeSlice 22 (.int .i64 12) (.int .i64 12)).run Tryd.prog w = .ok (.slice (some ⟨w.heap.size, 0, none⟩) 12 12) (w.alloc (.cells (bl (List.replicate 12 0)).toArray 5)) := made_bytes 12 (by decide)
      obtain ⟨z12, hz12⟩ : ∃ z, (bl (List.replicate 12 0)).toArray = z := ⟨_, rfl⟩
      rw [hz12] at hmk
      have HZ12 := Lib.hid hz12
      clear hz12
      go_wp2_with fail
      have HE1 : Hid (∀ wx, Below wr.heap.size wr wx → Calls Tryd.prog 16 #[.slice (some ⟨ga, 0, none⟩) 500 ca, .slice (some ⟨w.heap.size, 0, none⟩) 500 512] wx fun e w' => e = .returned (.bool true) ∧ w' = wx) := Lib.hid (fun wx hx => equal_same _ _ _ (b.take 500) (HV.out.below hx (Nat.le_refl _)) (HX0.out.below hx (Nat.le_refl _)))
      have HE2 : Hid (∀ wx, Below wr.heap.size wr wx → Calls Tryd.prog 16 #[.slice (some ⟨G, 0, none⟩) 500 512, .slice (some ⟨w.heap.size, 0, none⟩) 500 512] wx fun e w' => e = .returned (.bool true) ∧ w' = wx) := Lib.hid (fun wx hx => equal_same _ _ _ (b.take 500) (HY0.out.below hx (Nat.le_refl _)) (HX0.out.below hx (Nat.le_refl _)))
      have HE3 : Hid (∀ wx, Below wr.heap.size wr wx → wx.heap[wr.heap.size]? = some (.cells z12 5 (0, 0)) → Calls Tryd.prog 16 #[.slice (some ⟨G, 500, none⟩) 12 12, .slice (some ⟨wr.heap.size, 0, none⟩) 12 12] wx fun e w' => e = .returned (.bool true) ∧ w' = wx) := Lib.hid (fun wx hx hz => equal_same _ _ _ (List.replicate 12 0) (HY1.out.below hx (Nat.le_refl _)) (.inl ⟨wr.heap.size, 0, 12, by simp, by simp, fun i v hi => by rw [Nat.zero_add, cell_of_row _ _ _ _ _ _ hz, ← HZ12.out]; simpa using hi⟩))
      have HWK : Hid (∀ wx, Below wr.heap.size wr wx → Calls Tryd.prog 17 #[] wx (WakesPost wx)) := Lib.hid (fun wx hx => wakes_walk wx (HT.out.below (HR.out.below.trans (hx.mono HR.out.below.size)) (Nat.le_refl _)))
      have HE4 := Lib.hid (HE3.out (wr.alloc (.cells z12 5)).drew ((Below.refl _ _).alloc (Nat.le_refl _) _).drew (heap_alloc_new wr _))
      have HW4 := Lib.hid (HWK.out (wr.alloc (.cells z12 5)).drew ((Below.refl _ _).alloc (Nat.le_refl _) _).drew)
      have HB4 : Hid (Below w.heap.size w (wr.alloc (.cells z12 5)).drew) := Lib.hid ((HR.out.below.alloc HR.out.below.size _).drew)
      clear HV HX0 HY0 HY1 HE3 HWK
      go_region_with (first
        | ((with_reducible refine (HE1.out _ (by first | exact (Below.refl _ _).drew | exact (Below.refl _ _).drew.drew)).mono ?_); rintro e w1 ⟨rfl, rfl⟩)
        | ((with_reducible refine (HE2.out _ (by first | exact (Below.refl _ _).drew | exact (Below.refl _ _).drew.drew | exact (Below.refl _ _).drew.drew.drew)).mono ?_); rintro e w1 ⟨rfl, rfl⟩)
        | ((with_reducible refine HE4.out.mono ?_); rintro e w1 ⟨rfl, rfl⟩)
        | ((with_reducible refine HW4.out.mono ?_); rintro e w1 ⟨rfl, hb1⟩; have HWB1 := Lib.hid hb1; clear hb1))
      all_goals
        simp only [Act.put, List.getElem_toArray, List.getElem_cons_succ, List.getElem_cons_zero, List.setIfInBounds_toArray, List.set_cons_zero, List.set_cons_succ]
        go_wp2_with fail
        go_ret
        exact ⟨rfl, HB4.out.trans (HWB1.out.mono HB4.out.size)⟩
end Go.Proofs.YtkkelmlkpehcpaaDoor
