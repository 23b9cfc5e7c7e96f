/-
  Merged, in the order in which they build: Ctr.
-/
import Derived.Test.YtphdcgioeokfbaaDoorMg34
/-
  What stands in a block is counted.
-/
namespace Go.Proofs.YtphdcgioeokfbaaDoor
open Go.RowKit Hf
def sgsE : List Ev → List Nat := List.filterMap fun e => match e with | .sign n => some n | _ => none
def dssE : List Ev → List Nat := List.filterMap fun e => match e with | .dist n => some n | _ => none
def btsE : List Ev → Nat
  | [] => 0
  | .more _ m :: d => m + btsE d
  | .sign _ :: d => btsE d
  | .dist _ :: d => btsE d
theorem btsE_snoc : ∀ (d : List Ev) (e : Ev), btsE (d ++ [e]) = btsE d + btsE [e]
  | [], e => by simp [btsE]
  | .more x m :: d, e => by rw [List.cons_append, btsE, btsE, btsE_snoc d e]; omega
  | .sign n :: d, e => by rw [List.cons_append, btsE, btsE, btsE_snoc d e]
  | .dist n :: d, e => by rw [List.cons_append, btsE, btsE, btsE_snoc d e]
/-- Counts inside a row: behind three cells, ahead of a last one. -/
structure CtAt (w : World) (g : Nat) (T : TypeId) (h0 h1 h2 ov : Value) (S D : List Int) (b : Nat) : Prop where
  row : w.heap[g]? = some (.cells ([h0, h1, h2] ++ (ni S ++ (ni D ++ [.int .i64 (b : Int), ov]))).toArray T (0, 0))
  sl : S.length = 286
  dl : D.length = 30
theorem ni_get (l : List Int) (i : Nat) (h : i < l.length) : (ni l)[i]? = some (.int .i64 (l.getD i 0)) := by simp [ni, h]
theorem ni_set (l : List Int) (i : Nat) (x : Int) : (ni l).set i (.int .i64 x) = ni (l.set i x) := by simp [ni, List.map_set]
section
variable {w : World} {g : Nat} {T : TypeId} {h0 h1 h2 ov : Value} {S D : List Int} {b : Nat}
theorem CtAt.s_cell (h : CtAt w g T h0 h1 h2 ov S D b) (n : Nat) (hn : n < 286) : w.cell? ⟨g, 3 + n, none⟩ = some (.int .i64 (S.getD n 0)) := by
  rw [cell_of_row _ _ _ _ _ _ h.row, List.getElem?_toArray, List.getElem?_append_right (by simp), List.getElem?_append_left (by simp; have := h.sl; omega)]
  rw [show 3 + n - [h0, h1, h2].length = n by simp]
  exact ni_get _ _ (by have := h.sl; omega)
theorem CtAt.d_cell (h : CtAt w g T h0 h1 h2 ov S D b) (n : Nat) (hn : n < 30) : w.cell? ⟨g, 289 + n, none⟩ = some (.int .i64 (D.getD n 0)) := by
  have hs := h.sl
  have hd := h.dl
  rw [cell_of_row _ _ _ _ _ _ h.row, List.getElem?_toArray, List.getElem?_append_right (by simp; omega), List.getElem?_append_right (by simp; omega), List.getElem?_append_left (by simp; omega)]
  rw [show 289 + n - [h0, h1, h2].length - (ni S).length = n by simp; omega]
  exact ni_get _ _ (by omega)
theorem CtAt.b_cell (h : CtAt w g T h0 h1 h2 ov S D b) : w.cell? ⟨g, 319, none⟩ = some (.int .i64 (b : Int)) := by
  have hs := h.sl
  have hd := h.dl
  rw [cell_of_row _ _ _ _ _ _ h.row, List.getElem?_toArray, List.getElem?_append_right (by simp), List.getElem?_append_right (by simp; omega), List.getElem?_append_right (by simp; omega)]
  rw [show 319 - [h0, h1, h2].length - (ni S).length - (ni D).length = 0 by simp; omega]
  rfl
theorem CtAt.free (h : CtAt w g T h0 h1 h2 ov S D b) (o : Nat) : w.frozen? ⟨g, o, none⟩ = false := frozen_of_row _ _ _ _ _ h.row
theorem CtAt.s_set (h : CtAt w g T h0 h1 h2 ov S D b) (n : Nat) (hn : n < 286) (x : Int) : CtAt (w.setCell ⟨g, 3 + n, none⟩ (.int .i64 x)) g T h0 h1 h2 ov (S.set n x) D b := by
  refine ⟨(heap_setCell_same _ _ _ _ _ _ h.row).trans ?_, by simp [h.sl], h.dl⟩
  congr 2
  rw [List.setIfInBounds_toArray, List.set_append_right _ _ (by simp), show 3 + n - [h0, h1, h2].length = n by simp, List.set_append_left _ _ (by simp; have := h.sl; omega), ni_set]
theorem CtAt.d_set (h : CtAt w g T h0 h1 h2 ov S D b) (n : Nat) (hn : n < 30) (x : Int) : CtAt (w.setCell ⟨g, 289 + n, none⟩ (.int .i64 x)) g T h0 h1 h2 ov S (D.set n x) b := by
  have hs := h.sl
  have hd := h.dl
  refine ⟨(heap_setCell_same _ _ _ _ _ _ h.row).trans ?_, h.sl, by simp [h.dl]⟩
  congr 2
  rw [List.setIfInBounds_toArray, List.set_append_right _ _ (by simp; omega), List.set_append_right _ _ (by simp; omega), List.set_append_left _ _ (by simp; omega), show 289 + n - [h0, h1, h2].length - (ni S).length = n by simp; omega, ni_set]
theorem CtAt.b_set (h : CtAt w g T h0 h1 h2 ov S D b) (x : Nat) : CtAt (w.setCell ⟨g, 319, none⟩ (.int .i64 (x : Int))) g T h0 h1 h2 ov S D x := by
  have hs := h.sl
  have hd := h.dl
  refine ⟨(heap_setCell_same _ _ _ _ _ _ h.row).trans ?_, h.sl, h.dl⟩
  congr 2
  rw [List.setIfInBounds_toArray, List.set_append_right _ _ (by simp), List.set_append_right _ _ (by simp; omega), List.set_append_right _ _ (by simp; omega), show 319 - [h0, h1, h2].length - (ni S).length - (ni D).length = 0 by simp; omega]
  rfl
theorem CtAt.drew (h : CtAt w g T h0 h1 h2 ov S D b) : CtAt w.drew g T h0 h1 h2 ov S D b := ⟨h.row, h.sl, h.dl⟩
end
set_option maxRecDepth 100000 in
set_option maxHeartbeats 1000000 in
theorem csign_walk (w : World) (g : Nat) (T : TypeId) (h0 h1 h2 ov : Value) (S D : List Int) (b n : Nat) (h : CtAt w g T h0 h1 h2 ov S D b) (hn : n < 286) (hb : 0 ≤ S.getD n 0 ∧ S.getD n 0 ≤ 1099511627776) :
    Calls Tryd.prog 112 #[.pointer (some ⟨g, 3, none⟩), .int .i64 (n : Int)] w fun e w' => e = .returned (.tuple #[]) ∧ CtAt w' g T h0 h1 h2 ov (S.set n (S.getD n 0 + 1)) D b ∧ OnlyS (fun i => i = g) w w' := by
  have c := h.s_cell n hn
  have f := h.free (3 + n)
  obtain ⟨x, hx⟩ : ∃ x, x = S.getD n 0 := ⟨_, rfl⟩
  rw [← hx] at c hb ⊢
  have HQ : Hid (CtAt (w.setCell ⟨g, 3 + n, none⟩ (.int .i64 (x + 1))).drew g T h0 h1 h2 ov (S.set n (x + 1)) D b ∧ OnlyS (fun i => i = g) w (w.setCell ⟨g, 3 + n, none⟩ (.int .i64 (x + 1))).drew) := Lib.hid ⟨(h.s_set n hn _).drew, (OnlyS.setCell (S := fun i => i = g) _ _ _ _ rfl).trans (OnlyS.drew _)⟩
  have hn2 : (n : Int) < 286 := by omega
  obtain ⟨hb0, hb1⟩ := hb
  clear h hx
  go_enter Tryd.func112, Tryd.ntmps112
  go_region
  refine bodyPost_end (results_none rfl _ _ _) rfl ?_
  exact ⟨rfl, HQ.out.1, HQ.out.2⟩
set_option maxRecDepth 100000 in
set_option maxHeartbeats 1000000 in
theorem cdist_walk (w : World) (g : Nat) (T : TypeId) (h0 h1 h2 ov : Value) (S D : List Int) (b n : Nat) (h : CtAt w g T h0 h1 h2 ov S D b) (hn : n < 30) (hb : 0 ≤ D.getD n 0 ∧ D.getD n 0 ≤ 1099511627776) :
    Calls Tryd.prog 110 #[.pointer (some ⟨g, 3, none⟩), .int .i64 (n : Int)] w fun e w' => e = .returned (.tuple #[]) ∧ CtAt w' g T h0 h1 h2 ov S (D.set n (D.getD n 0 + 1)) b ∧ OnlyS (fun i => i = g) w w' := by
  have c := h.d_cell n hn
  have f := h.free (289 + n)
  obtain ⟨x, hx⟩ : ∃ x, x = D.getD n 0 := ⟨_, rfl⟩
  rw [← hx] at c hb ⊢
  have HQ : Hid (CtAt (w.setCell ⟨g, 289 + n, none⟩ (.int .i64 (x + 1))).drew g T h0 h1 h2 ov S (D.set n (x + 1)) b ∧ OnlyS (fun i => i = g) w (w.setCell ⟨g, 289 + n, none⟩ (.int .i64 (x + 1))).drew) := Lib.hid ⟨(h.d_set n hn _).drew, (OnlyS.setCell (S := fun i => i = g) _ _ _ _ rfl).trans (OnlyS.drew _)⟩
  have hn2 : (n : Int) < 30 := by omega
  obtain ⟨hb0, hb1⟩ := hb
  clear h hx
  go_enter Tryd.func110, Tryd.ntmps110
  go_region
  refine bodyPost_end (results_none rfl _ _ _) rfl ?_
  exact ⟨rfl, HQ.out.1, HQ.out.2⟩
set_option maxRecDepth 100000 in
set_option maxHeartbeats 1000000 in
theorem cmore_walk (w : World) (g : Nat) (T : TypeId) (h0 h1 h2 ov : Value) (S D : List Int) (b x m : Nat) (h : CtAt w g T h0 h1 h2 ov S D b) (hb : b + m ≤ 1099511627776) :
    Calls Tryd.prog 111 #[.pointer (some ⟨g, 3, none⟩), .int .i64 (x : Int), .int .i64 (m : Int)] w fun e w' => e = .returned (.tuple #[]) ∧ CtAt w' g T h0 h1 h2 ov S D (b + m) ∧ OnlyS (fun i => i = g) w w' := by
  have c := h.b_cell
  have f := h.free 319
  have HQ : Hid (CtAt (w.setCell ⟨g, 319, none⟩ (.int .i64 ((b + m : Nat) : Int))) g T h0 h1 h2 ov S D (b + m) ∧ OnlyS (fun i => i = g) w (w.setCell ⟨g, 319, none⟩ (.int .i64 ((b + m : Nat) : Int)))) := Lib.hid ⟨h.b_set _, OnlyS.setCell (S := fun i => i = g) _ _ _ _ rfl⟩
  have HE : Hid ((b : Int) + (m : Int) = ((b + m : Nat) : Int)) := Lib.hid (by omega)
  have hb1 : b ≤ 1099511627776 := by omega
  have hb2 : m ≤ 1099511627776 := by omega
  clear h hb
  go_enter Tryd.func111, Tryd.ntmps111
  go_wp2_with fail
  rw [HE.out]
  refine bodyPost_end (results_none rfl _ _ _) rfl ?_
  exact ⟨rfl, HQ.out.1, HQ.out.2⟩
/-- What counts hear. -/
def okC2 : Ev → Prop
  | .sign n => n < 286
  | .dist n => n < 30
  | .more _ m => m ≤ 64
/-- Counts that have heard d. -/
structure CtI (g : Nat) (T : TypeId) (h0 h1 h2 ov lv : Value) (l : List Df.Z) (N : Nat) (d : List Ev) (O : Nat → Prop) (w : World) : Prop where
  o : O = fun i => i = g
  ct : CtAt w g T h0 h1 h2 ov (cnt (sgsE d) 286) (cnt (dssE d) 30) (btsE d)
  st : SlZ w lv l
  ap : ∀ p n c, lv = .slice (some p) n c → 0 < n → p.block ≠ g
  lo : TabAt 0 Df.longs w ∧ TabAt 1 Df.fars w
  gt : 0 < g ∧ 1 < g
  bt : btsE d ≤ 64 * d.length
theorem sgsE_snoc (d : List Ev) (n : Nat) : sgsE (d ++ [.sign n]) = sgsE d ++ [n] := by simp [sgsE]
theorem dssE_snoc (d : List Ev) (n : Nat) : dssE (d ++ [.dist n]) = dssE d ++ [n] := by simp [dssE]
theorem cnt_bound (l : List Nat) (n s N : Nat) (h : s < n) (hl : l.length ≤ N) : 0 ≤ (cnt l n).getD s 0 ∧ (cnt l n).getD s 0 ≤ (N : Int) := by
  rw [cnt_getD _ _ _ h]
  have := List.count_le_length (a := s) (l := l)
  omega
theorem sgsE_le (d : List Ev) : (sgsE d).length ≤ d.length := List.length_filterMap_le _ _
theorem dssE_le (d : List Ev) : (dssE d).length ≤ d.length := List.length_filterMap_le _ _
section
variable {g : Nat} {T : TypeId} {h0 h1 h2 ov lv : Value} {l : List Df.Z} {d : List Ev} {O : Nat → Prop} {w w' : World} {N : Nat}
theorem CtI.next {S D : List Int} {b : Nat} {e : Ev} (h : CtI g T h0 h1 h2 ov lv l N d O w) (ho : OnlyS (fun i => i = g) w w') (hc : CtAt w' g T h0 h1 h2 ov S D b) (hS : S = cnt (sgsE (d ++ [e])) 286) (hD : D = cnt (dssE (d ++ [e])) 30) (hb : b = btsE (d ++ [e])) (hm : btsE [e] ≤ 64) : CtI g T h0 h1 h2 ov lv l N (d ++ [e]) O w' := by
  refine ⟨h.o, by rw [← hS, ← hD, ← hb]; exact hc, SlZ.only h.st ho (fun p n c e h0 => h.ap p n c e h0), h.ap, ⟨h.lo.1.only ho ?_, h.lo.2.only ho ?_⟩, h.gt, ?_⟩
  · have := h.gt; show ¬ _ = g; omega
  · have := h.gt; show ¬ _ = g; omega
  · have := h.bt
    rw [btsE_snoc, List.length_append, List.length_singleton]; omega
end
set_option maxRecDepth 100000 in
theorem ct_hears (g : Nat) (T : TypeId) (h0 h1 h2 ov lv : Value) (l : List Df.Z) (hl : l.length ≤ 1000000000) :
    Hears 78 ⟨g, 3, none⟩ lv l 112 110 111 okC2 (CtI g T h0 h1 h2 ov lv l 0) where
  st := fun d O w h => h.st
  lo := fun d O w h => h.lo
  lt := fun d O w h i hi => by rw [h.o] at hi; have hi' : i = g := hi; rw [hi']; exact (Array.getElem?_eq_some_iff.1 h.ct.row).1
  stay := fun d O w w' h ho => ⟨h.o, ⟨(ho.block g (Array.getElem?_eq_some_iff.1 h.ct.row).1 (fun h => h)).trans h.ct.row, h.ct.sl, h.ct.dl⟩, SlZ.only h.st ho (fun _ _ _ _ _ h => h), h.ap, ⟨h.lo.1.only ho (fun h => h), h.lo.2.only ho (fun h => h)⟩, h.gt, h.bt⟩
  ms := fun _ => by kernel_rfl
  md := fun _ => by kernel_rfl
  mm := fun _ => by kernel_rfl
  es := fun _ _ => rfl
  ed := fun _ _ => rfl
  em := fun _ _ => rfl
  sign := fun d O w n h hd he => by
    have hn : n < 286 := he
    have hsl := sgsE_le d
    refine (csign_walk w g T h0 h1 h2 ov _ _ _ n h.ct hn ?_).mono ?_
    · have := cnt_bound (sgsE d) 286 n _ hn hsl; omega
    · rintro e w' ⟨rfl, hc, ho⟩
      rw [cnt_more _ _ _ hn] at hc
      exact ⟨rfl, by rw [h.o]; exact ho, O, h.next ho hc (by rw [sgsE_snoc]) (by simp [dssE]) (by rw [btsE_snoc]; rfl) (Nat.zero_le 64), Grew.refl _ _⟩
  dist := fun d O w n h hd he => by
    have hn : n < 30 := he
    have hsl := dssE_le d
    refine (cdist_walk w g T h0 h1 h2 ov _ _ _ n h.ct hn ?_).mono ?_
    · have := cnt_bound (dssE d) 30 n _ hn hsl; omega
    · rintro e w' ⟨rfl, hc, ho⟩
      rw [cnt_more _ _ _ hn] at hc
      exact ⟨rfl, by rw [h.o]; exact ho, O, h.next ho hc (by simp [sgsE]) (by rw [dssE_snoc]) (by rw [btsE_snoc]; rfl) (Nat.zero_le 64), Grew.refl _ _⟩
  more := fun d O w x m h hd he => by
    have hn : m ≤ 64 := he
    have hb := h.bt
    refine (cmore_walk w g T h0 h1 h2 ov _ _ _ x m h.ct (by omega)).mono ?_
    rintro e w' ⟨rfl, hc, ho⟩
    exact ⟨rfl, by rw [h.o]; exact ho, O, h.next ho hc (by simp [sgsE]) (by simp [dssE]) (by rw [btsE_snoc]; simp [btsE]) (by simpa [btsE] using hn), Grew.refl _ _⟩
theorem sgsE_all (ts : List Tok) : sgsE (ts.flatMap evs ++ [.sign 256]) = Df.sgsL ts := by
  have e : ∀ ts : List Tok, sgsE (ts.flatMap evs) = ts.map Df.sg1 := fun ts => by
    induction ts with
    | nil => rfl
    | cons t ts ih =>
      rw [List.flatMap_cons]
      unfold sgsE at ih ⊢
      rw [List.filterMap_append, ih]
      cases t <;> rfl
  rw [sgsE_snoc, e]
  rfl
theorem dssE_all (ts : List Tok) : dssE (ts.flatMap evs ++ [.sign 256]) = Df.dssL ts := by
  have e : ∀ ts : List Tok, dssE (ts.flatMap evs) = ts.flatMap Df.ds1 := fun ts => by
    induction ts with
    | nil => rfl
    | cons t ts ih =>
      rw [List.flatMap_cons, List.flatMap_cons]
      unfold dssE at ih ⊢
      rw [List.filterMap_append, ih]
      cases t <;> rfl
  have : dssE (ts.flatMap evs ++ [.sign 256]) = dssE (ts.flatMap evs) := by simp [dssE]
  rw [this, e]
  rfl
theorem btsE_append : ∀ (a b : List Ev), btsE (a ++ b) = btsE a + btsE b
  | [], b => by simp [btsE]
  | .more x m :: a, b => by rw [List.cons_append, btsE, btsE, btsE_append a b]; omega
  | .sign n :: a, b => by rw [List.cons_append, btsE, btsE, btsE_append a b]
  | .dist n :: a, b => by rw [List.cons_append, btsE, btsE, btsE_append a b]
theorem btsE_all (ts : List Tok) : btsE (ts.flatMap evs ++ [.sign 256]) = Df.cB ts := by
  rw [btsE_snoc]
  have e : ∀ ts : List Tok, btsE (ts.flatMap evs) = Df.cB ts := fun ts => by
    induction ts with
    | nil => rfl
    | cons t ts ih =>
      rw [List.flatMap_cons, btsE_append, ih]
      unfold Df.cB
      rw [List.map_cons, List.sum_cons]
      congr 1
      cases t with
      | lit b => rfl
      | cpy n d a b => simp [evs, btsE, Df.bt1]
  rw [e]
  rfl
theorem okC2_of {s : Df.Z} (h : Df.okZ s) : ∀ e ∈ evs (Df.tok s), okC2 e := by
  have hl := Df.tok_low h
  cases ht : Df.tok s with
  | lit b =>
    rw [ht] at hl
    have hb : b < 256 := hl
    intro e he
    have : e = .sign b := by simpa [evs] using he
    rw [this]
    show b < 286
    omega
  | cpy n d a b =>
    rw [ht] at hl
    have h1 := Df.LSg.m_le hl.1
    have h2 := (LSg.s_gt hl.1).2
    have h3 := hl.2
    unfold FSg at h3
    intro e he
    simp only [evs, List.mem_cons, List.not_mem_nil, or_false] at he
    rcases he with rfl | rfl | rfl | rfl
    · show a.s < 286; omega
    · show a.m ≤ 64; omega
    · show b.s < 30; omega
    · show b.m ≤ 64; omega
/-- All that stands in a block is counted. -/
theorem count_walk (w : World) (g : Nat) (h0 h1 h2 ov lv : Value) (l : List Df.Z) (T : TypeId) (hc : CtAt w g T h0 h1 h2 ov (List.replicate 286 0) (List.replicate 30 0) 0) (hs : SlZ w lv l) (hap : ∀ p n c, lv = .slice (some p) n c → 0 < n → p.block ≠ g) (hlo : TabAt 0 Df.longs w ∧ TabAt 1 Df.fars w) (hg : 0 < g ∧ 1 < g) (hl : l.length ≤ 1000000000) (hz : ∀ s ∈ l, Df.okZ s) :
    Calls Tryd.prog 26 #[lv, .iface 78 (.pointer (some ⟨g, 3, none⟩))] w fun e w' => e = .returned (.tuple #[]) ∧ OnlyS (fun i => i = g) w w' ∧ CtAt w' g T h0 h1 h2 ov (Df.cS (l.map Df.tok)) (Df.cD (l.map Df.tok)) (Df.cB (l.map Df.tok)) := by
  refine (tell_walk w _ _ lv l _ _ _ _ _ (fun i => i = g) (ct_hears g T h0 h1 h2 ov lv l hl) ⟨rfl, ?_, hs, hap, hlo, hg, Nat.le_refl _⟩ (by omega) hz (fun s hs => okC2_of (hz s hs)) (by show 256 < 286; decide)).mono ?_
  · have e1 : cnt (sgsE []) 286 = List.replicate 286 0 := cnt_nil 286
    have e2 : cnt (dssE []) 30 = List.replicate 30 0 := cnt_nil 30
    rw [e1, e2]
    exact hc
  · rintro e w' ⟨rfl, O, hT⟩
    have h := hT.i.ct
    rw [sgsE_all, dssE_all, btsE_all] at h
    exact ⟨rfl, hT.only, h⟩
end Go.Proofs.YtphdcgioeokfbaaDoor
