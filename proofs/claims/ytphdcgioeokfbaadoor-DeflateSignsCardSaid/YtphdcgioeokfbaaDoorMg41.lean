/-
  Merged, in the order in which they build: Bbs Min Sho.
-/
import Derived.Test.YtphdcgioeokfbaaDoorMg40
/-
  fixedBits, dynamicBits, storable, storedBits.
-/
namespace Go.Proofs.YtphdcgioeokfbaaDoor
open Go.RowKit Hf
theorem getD_bound (l : List Int) (h : (l.all fun x => decide (0 ≤ x ∧ x ≤ 15)) = true) (i : Nat) : 0 ≤ l.getD i 0 ∧ l.getD i 0 ≤ 15 := by
  rw [List.getD_eq_getElem?_getD]
  cases hx : l[i]? with
  | none => exact ⟨Int.le_refl _, by decide⟩
  | some x =>
    have hm := List.mem_of_getElem? hx
    have := List.all_eq_true.1 h x hm
    simpa using this
theorem fixS_bound (i : Nat) : 0 ≤ Inf.fixS.getD i 0 ∧ Inf.fixS.getD i 0 ≤ 15 := getD_bound _ (by decide +kernel) i
theorem fixD_bound (i : Nat) : 0 ≤ Inf.fixD.getD i 0 ∧ Inf.fixD.getD i 0 ≤ 15 := getD_bound _ (by decide +kernel) i
theorem CtAt.only {w w' : World} {g : Nat} {T : TypeId} {h0 h1 h2 ov : Value} {S D : List Int} {b : Nat} (h : CtAt w g T h0 h1 h2 ov S D b) (ho : OnlyS (fun _ => False) w w') : CtAt w' g T h0 h1 h2 ov S D b :=
  ⟨(ho.block g (Array.getElem?_eq_some_iff.1 h.row).1 (fun h => h)).trans h.row, h.sl, h.dl⟩
theorem cost_nonneg (S zs : List Int) (hS : ∀ i, 0 ≤ S.getD i 0 ∧ S.getD i 0 ≤ 4294967296) (hz : ∀ i, 0 ≤ zs.getD i 0 ∧ zs.getD i 0 ≤ 15) (hl : S.length ≤ 1024) : 0 ≤ Df.cost S zs ∧ Df.cost S zs ≤ 65970697666560 := by
  have h := cost_bound S zs hS hz (min S.length zs.length)
  rw [cost_is] at h
  have : min S.length zs.length ≤ 1024 := by omega
  omega
set_option maxRecDepth 100000 in
set_option maxHeartbeats 1000000 in
theorem fixedBits_walk (w : World) (g : Nat) (h0 h1 h2 ov : Value) (S D : List Int) (b : Nat) (h : CtAt w g 59 h0 h1 h2 ov S D b)
    (hS : ∀ i, 0 ≤ S.getD i 0 ∧ S.getD i 0 ≤ 4294967296) (hD : ∀ i, 0 ≤ D.getD i 0 ∧ D.getD i 0 ≤ 4294967296) (hb : b ≤ 1000000000) :
    Calls Tryd.prog 48 #[.pointer (some ⟨g, 0, none⟩)] w fun e w' => e = .returned (.int .i64 (3 + (Df.cost S Inf.fixS + Df.cost D Inf.fixD + (b : Int)))) ∧ OnlyS (fun _ => False) w w' := by
  have HW : Hid (∀ wx p c q d, OnlyS (fun _ => False) w wx → SlV wx (.slice p 288 c) (ni Inf.fixS) → SlV wx (.slice q 32 d) (ni Inf.fixD) → Calls Tryd.prog 63 #[.pointer (some ⟨g, 0, none⟩), .slice p 288 c, .slice q 32 d] wx fun e w' => e = .returned (.int .i64 (Df.cost S Inf.fixS + Df.cost D Inf.fixD + (b : Int))) ∧ OnlyS (fun _ => False) wx w') :=
    Lib.hid (fun wx p c q d ho h3 h4 => wordBits_walk wx g h0 h1 h2 ov _ _ S D Inf.fixS Inf.fixD b (h.only ho) h3 h4 hS hD fixS_bound fixD_bound (by decide +kernel) (by decide +kernel) hb)
  have HF1 := Lib.hid fixedSigns_walk
  have HF2 := Lib.hid fixedDistances_walk
  have b1 := cost_nonneg S Inf.fixS hS fixS_bound (by rw [h.sl]; decide)
  have b2 := cost_nonneg D Inf.fixD hD fixD_bound (by rw [h.dl]; decide)
  obtain ⟨x, hx⟩ : ∃ x, x = Df.cost S Inf.fixS + Df.cost D Inf.fixD + (b : Int) := ⟨_, rfl⟩
  rw [← hx] at HW ⊢
  have hw1 : IntKind.i64.wrap (3 + x) = 3 + x := IntWalk.i64_in _ (by omega)
  clear h hS hD hb b1 b2 hx
  go_enter Tryd.func48, Tryd.ntmps48
  go_wp2_with (first
    | (go_at_call 45; with_reducible refine (HF1.out _).mono ?_; rintro e w1 ⟨p1, c1, rfl, hs1, ho1, -⟩)
    | (go_at_call 46; with_reducible refine (HF2.out _).mono ?_; rintro e w2 ⟨p2, c2, rfl, hs2, ho2, -⟩; have hs1' := hs1.only ho2 (fun _ _ _ _ _ h => h))
    | (go_at_call 63; with_reducible refine (HW.out _ _ _ _ _ (ho1.trans ho2) hs1' hs2).mono ?_; rintro e w3 ⟨rfl, ho3⟩))
  go_ret
  exact ⟨rfl, (ho1.trans ho2).trans ho3⟩
set_option maxRecDepth 100000 in
set_option maxHeartbeats 1000000 in
theorem storable_walk (w : World) (g : Nat) (h0 h2 ov : Value) (n : Nat) (S D : List Int) (b : Nat) (h : CtAt w g 59 h0 (.int .i64 (n : Int)) h2 ov S D b) :
    Calls Tryd.prog 50 #[.pointer (some ⟨g, 0, none⟩)] w fun e w' => e = .returned (.bool (decide (n ≤ 65535))) ∧ w' = w := by
  have c1 : w.cell? ⟨g, 1, none⟩ = some (.int .i64 (n : Int)) := cell_of_row _ _ _ _ _ _ h.row
  have hd : decide ((n : Int) ≤ 65535) = decide (n ≤ 65535) := decide_eq_decide.2 (by omega)
  have HD := Lib.hid hd
  clear h hd
  go_enter Tryd.func50, Tryd.ntmps50
  go_wp2_with fail
  go_ret
  exact ⟨congrArg (fun x => Ending.returned (.bool x)) HD.out, rfl⟩
set_option maxRecDepth 100000 in
set_option maxHeartbeats 1000000 in
theorem storedBits_walk (w : World) (g : Nat) (h0 h2 ov : Value) (n p : Nat) (S D : List Int) (b : Nat) (h : CtAt w g 59 h0 (.int .i64 (n : Int)) h2 ov S D b) (hn : n ≤ 1000000000) (hp : p ≤ 1000000000000) :
    Calls Tryd.prog 51 #[.pointer (some ⟨g, 0, none⟩), .int .i64 (p : Int)] w fun e w' => e = .returned (.int .i64 (Df.stoN p n)) ∧ w' = w := by
  have c1 : w.cell? ⟨g, 1, none⟩ = some (.int .i64 (n : Int)) := cell_of_row _ _ _ _ _ _ h.row
  obtain ⟨q, hq⟩ : ∃ q : Nat, q = (p + 3 + 8 - 1) / 8 := ⟨_, rfl⟩
  have hq1 : ((p : Int) + 3 + 8 - 1) / 8 = (q : Int) := by omega
  have hq2 : Int.tdiv ((p : Int) + 3 + 8 - 1) 8 = (q : Int) := by rw [Int.tdiv_eq_ediv_of_nonneg (by omega)]; exact hq1
  have hst : Df.stoN p n = (q : Int) * 8 - (p : Int) + 32 + 8 * (n : Int) := by unfold Df.stoN; rw [← hq]; omega
  rw [hst]
  have hqb : q ≤ 1000000000000 := by omega
  clear h hq hst
  go_enter Tryd.func51, Tryd.ntmps51
  go_wp2_with fail
  go_ret
  exact ⟨rfl, rfl⟩
set_option maxRecDepth 100000 in
set_option maxHeartbeats 1000000 in
theorem dynamicBits_walk (w : World) (g G : Nat) (h0 h1 h2 va vb vr vt : Value) (S D za zb zf : List Int) (gs : List Sg) (told b : Nat) (h : CtAt w g 59 h0 h1 h2 (.pointer (some ⟨G, 0, none⟩)) S D b)
    (hrow : w.heap[G]? = some (.cells #[va, vb, vr, vt, .int .i64 (told : Int)] 95 (0, 0))) (ha : SlV w va (ni za)) (hbv : SlV w vb (ni zb)) (hr : SlK 3 w vr gs.length (rs gs)) (ht : SlV w vt (ni zf))
    (hS : ∀ i, 0 ≤ S.getD i 0 ∧ S.getD i 0 ≤ 4294967296) (hD : ∀ i, 0 ≤ D.getD i 0 ∧ D.getD i 0 ≤ 4294967296) (hza : ∀ i, 0 ≤ za.getD i 0 ∧ za.getD i 0 ≤ 15) (hzb : ∀ i, 0 ≤ zb.getD i 0 ∧ zb.getD i 0 ≤ 15) (hal : za.length ≤ 1024) (hbl : zb.length ≤ 1024) (hb : b ≤ 1000000000)
    (htold : told ≤ 19) (hz : ∀ i, 0 ≤ zf.getD i 0 ∧ zf.getD i 0 ≤ 15) (hm : ∀ g ∈ gs, g.m ≤ 7) (hs : ∀ g ∈ gs, g.s < zf.length) (hn : gs.length ≤ 1000) :
    Calls Tryd.prog 49 #[.pointer (some ⟨g, 0, none⟩)] w fun e w' => e = .returned (.int .i64 (3 + Df.headN zf told gs + (Df.cost S za + Df.cost D zb + (b : Int)))) ∧ OnlyS (fun _ => False) w w' := by
  have HW : Hid (∀ wx, OnlyS (fun _ => False) w wx → Calls Tryd.prog 63 #[.pointer (some ⟨g, 0, none⟩), va, vb] wx fun e w' => e = .returned (.int .i64 (Df.cost S za + Df.cost D zb + (b : Int))) ∧ OnlyS (fun _ => False) wx w') :=
    Lib.hid (fun wx ho => wordBits_walk wx g h0 h1 h2 _ _ _ S D za zb b (h.only ho) (ha.only ho (fun _ _ _ _ _ h => h)) (hbv.only ho (fun _ _ _ _ _ h => h)) hS hD hza hzb hal hbl hb)
  have HH : Hid (∀ wx, OnlyS (fun _ => False) w wx → Calls Tryd.prog 64 #[.pointer (some ⟨G, 0, none⟩)] wx fun e w' => e = .returned (.int .i64 (Df.headN zf told gs)) ∧ OnlyS (fun _ => False) wx w') :=
    Lib.hid (fun wx ho => hbits_walk wx G va vb vr vt told zf gs ((ho.block G (Array.getElem?_eq_some_iff.1 hrow).1 (fun h => h)).trans hrow) (SlK.below hr (ho.below (Nat.le_refl _) (fun _ h => h.elim)) (Nat.le_refl _)) (ht.only ho (fun _ _ _ _ _ h => h)) htold hz hm hs hn)
  have HK : Hid (∀ wx, OnlyS (fun _ => False) w wx → wx.cell? ⟨g, 320, none⟩ = some (.pointer (some ⟨G, 0, none⟩)) ∧ wx.cell? ⟨G, 0, none⟩ = some va ∧ wx.cell? ⟨G, 1, none⟩ = some vb) := Lib.hid (fun wx ho => by
    have hc : w.cell? ⟨g, 320, none⟩ = some (.pointer (some ⟨G, 0, none⟩)) := by
      have hs := h.sl
      have hd := h.dl
      rw [cell_of_row _ _ _ _ _ _ h.row, List.getElem?_toArray, List.getElem?_append_right (by simp), List.getElem?_append_right (by simp; omega), List.getElem?_append_right (by simp; omega)]
      rw [show 320 - [h0, h1, h2].length - (ni S).length - (ni D).length = 1 by simp; omega]
      rfl
    obtain ⟨x0, x1, _⟩ := row5 hrow
    exact ⟨ho.cell hc (fun h => h), ho.cell x0 (fun h => h), ho.cell x1 (fun h => h)⟩)
  have b1 := cost_nonneg S za hS hza (by rw [h.sl]; decide)
  have b2 := cost_nonneg D zb hD hzb (by rw [h.dl]; decide)
  have b3 := hsum_bound zf gs hz hm gs.length (Nat.le_refl _)
  obtain ⟨y, hy⟩ : ∃ y, y = Df.headN zf told gs := ⟨_, rfl⟩
  have hyb : 0 ≤ y ∧ y ≤ 1000000 := by
    have e : y = 14 + 3 * (told : Int) + hsum zf gs gs.length := by
      rw [hy]; unfold Df.headN hsum
      rw [List.take_length]
      omega
    omega
  rw [← hy] at HH ⊢
  obtain ⟨x, hx⟩ : ∃ x, x = Df.cost S za + Df.cost D zb + (b : Int) := ⟨_, rfl⟩
  rw [← hx] at HW ⊢
  have hw1 : IntKind.i64.wrap (3 + y) = 3 + y := IntWalk.i64_in _ (by omega)
  have hw2 : IntKind.i64.wrap (3 + y + x) = 3 + y + x := IntWalk.i64_in _ (by omega)
  obtain ⟨k1, k2, k3⟩ := HK.out w (OnlyS.refl _ _)
  obtain ⟨qa, da, rfl⟩ := ha.shape
  obtain ⟨qb, db, rfl⟩ := hbv.shape
  simp only [ni_length] at HW HK k2 k3
  clear h hrow ha hbv hr ht hS hD hza hzb hal hbl hb htold hz hm hs hn b1 b2 b3 hyb hy hx
  go_enter Tryd.func49, Tryd.ntmps49
  go_upto_region 1 with fail
  go_region_held_law (fun w' => w'.cell? ⟨g, 320, none⟩ = some (.pointer (some ⟨G, 0, none⟩)) ∧ w'.cell? ⟨G, 0, none⟩ = some (.slice qa za.length da) ∧ w'.cell? ⟨G, 1, none⟩ = some (.slice qb zb.length db))
    (first | exact HK.out _ (OnlyS.drew _) | exact HK.out _ ((OnlyS.drew _).trans ho1) | exact HK.out _ (((OnlyS.drew _).trans ho1).trans ho2))
    (first
    | (go_simp; go_at_call 64; with_reducible refine (HH.out _ (OnlyS.drew _)).mono ?_; rintro e w2 ⟨rfl, ho1⟩)
    | (go_simp; go_at_call 63; with_reducible refine (HW.out _ ((OnlyS.drew _).trans ho1)).mono ?_; rintro e w3 ⟨rfl, ho2⟩))
  all_goals go_wp2_with fail
  all_goals go_ret
  all_goals exact ⟨rfl, ((OnlyS.drew _).trans ho1).trans ho2⟩
end Go.Proofs.YtphdcgioeokfbaaDoor
/-
  slices.Min, slices.Index of three; one.
-/
namespace Go.Proofs.YtphdcgioeokfbaaDoor
open Go.RowKit Hf
structure Three3 (w : World) (g : Nat) (x0 x1 x2 : Int) : Prop where
  c0 : w.cell? ⟨g, 0, none⟩ = some (.int .i64 x0)
  c1 : w.cell? ⟨g, 1, none⟩ = some (.int .i64 x1)
  c2 : w.cell? ⟨g, 2, none⟩ = some (.int .i64 x2)
set_option maxRecDepth 100000 in
set_option maxHeartbeats 1000000 in
theorem min3_walk (w : World) (g : Nat) (x0 x1 x2 : Int) (h : Three3 w g x0 x1 x2) :
    Calls Tryd.prog 53 #[.slice (some ⟨g, 0, none⟩) 3 3] w fun e w' => e = .returned (.int .i64 (min x0 (min x1 x2))) ∧ OnlyS (fun _ => False) w w' := by
  obtain ⟨c0, c1, c2⟩ := h
  go_enter Tryd.func53, Tryd.ntmps53
  go_wp2_with fail
  go_loopw [3, 4] (fun v3 v4 wr => wr = w ∧ ((v4 = .int .i64 1 ∧ v3 = .int .i64 x0) ∨ (v4 = .int .i64 2 ∧ v3 = .int .i64 (min x0 x1)) ∨ (v4 = .int .i64 3 ∧ v3 = .int .i64 (min x0 (min x1 x2))))) (fun _ v4 _ => 3 - (intOf v4).toNat)
  case atStart => exact ⟨rfl, .inl ⟨rfl, rfl⟩⟩
  case round =>
    obtain ⟨rfl, ⟨rfl, rfl⟩ | ⟨rfl, rfl⟩ | ⟨rfl, rfl⟩⟩ := hrel
    · go_wp2_with fail
      exact ⟨⟨trivial, .inr (.inl ⟨rfl, rfl⟩)⟩, by simp only [intOf]; omega⟩
    · go_wp2_with fail
      exact ⟨⟨trivial, .inr (.inr ⟨rfl, rfl⟩)⟩, by simp only [intOf]; omega⟩
    · go_wp2_with fail
      go_ret
      exact ⟨rfl, OnlyS.refl _ _⟩
set_option maxRecDepth 100000 in
set_option maxHeartbeats 1000000 in
theorem index3_walk (w : World) (g : Nat) (x0 x1 x2 v : Int) (h : Three3 w g x0 x1 x2) (hv : v = x0 ∨ v = x1 ∨ v = x2) :
    Calls Tryd.prog 52 #[.slice (some ⟨g, 0, none⟩) 3 3, .int .i64 v] w fun e w' => e = .returned (.int .i64 (if v = x0 then 0 else if v = x1 then 1 else 2)) ∧ OnlyS (fun _ => False) w w' := by
  obtain ⟨c0, c1, c2⟩ := h
  obtain ⟨r, hr⟩ : ∃ r : Int, r = if v = x0 then 0 else if v = x1 then 1 else 2 := ⟨_, rfl⟩
  rw [← hr]
  have HR := Lib.hid hr
  have HV := Lib.hid hv
  clear hv hr
  go_enter Tryd.func52, Tryd.ntmps52
  go_wp2_with fail
  go_loopw [8] (fun v8 wr => wr = w ∧ (v8 = .int .i64 0 ∨ (v8 = .int .i64 1 ∧ ¬ v = x0) ∨ (v8 = .int .i64 2 ∧ ¬ v = x0 ∧ ¬ v = x1))) (fun v8 _ => 3 - (intOf v8).toNat)
  case atStart => exact ⟨rfl, .inl rfl⟩
  case round =>
    obtain ⟨rfl, rfl | ⟨rfl, n0⟩ | ⟨rfl, n0, n1⟩⟩ := hrel
    · by_cases e0 : v = x0
      · go_wp2_with fail
        go_ret
        rw [show r = 0 by rw [HR.out, if_pos e0]]
        exact ⟨rfl, OnlyS.refl _ _⟩
      · go_wp2_with fail
        exact ⟨⟨trivial, .inr (.inl ⟨rfl, e0⟩)⟩, by simp only [intOf]; omega⟩
    · by_cases e1 : v = x1
      · go_wp2_with fail
        go_ret
        rw [show r = 1 by rw [HR.out, if_neg n0, if_pos e1]]
        exact ⟨rfl, OnlyS.refl _ _⟩
      · go_wp2_with fail
        exact ⟨⟨trivial, .inr (.inr ⟨rfl, n0, e1⟩)⟩, by simp only [intOf]; omega⟩
    · have e2 : v = x2 := by rcases HV.out with h | h | h <;> simp_all
      go_wp2_with fail
      go_ret
      rw [show r = 2 by rw [HR.out, if_neg n0, if_neg n1]]
      exact ⟨rfl, OnlyS.refl _ _⟩
set_option maxHeartbeats 400000 in
theorem one_walk (w : World) (b : Bool) : Calls Tryd.prog 34 #[.bool b] w fun e w' => e = .returned (.int .i64 (if b then 1 else 0)) ∧ w' = w := by
  cases b
  · go_enter Tryd.func34, Tryd.ntmps34
    go_wp2_with fail
    go_ret
    exact ⟨rfl, rfl⟩
  · go_enter Tryd.func34, Tryd.ntmps34
    go_wp2_with fail
    go_ret
    exact ⟨rfl, rfl⟩
end Go.Proofs.YtphdcgioeokfbaaDoor
/-
  shortest: which of the three ways a block goes.
-/
namespace Go.Proofs.YtphdcgioeokfbaaDoor
open Go.RowKit Hf
theorem pick3 (st fx dy : Int) (n : Nat) (h : n ≤ 65535) : (if min st (min fx dy) = st then (0 : Int) else if min st (min fx dy) = fx then 1 else 2) = if n ≤ 65535 ∧ st ≤ fx ∧ st ≤ dy then 0 else if fx ≤ dy then 1 else 2 := by
  by_cases h1 : n ≤ 65535 ∧ st ≤ fx ∧ st ≤ dy
  · have e1 : min st (min fx dy) = st := by omega
    rw [if_pos e1, if_pos h1]
  · have e1 : ¬ min st (min fx dy) = st := by omega
    rw [if_neg e1, if_neg h1]
    by_cases h2 : fx ≤ dy
    · have e2 : min st (min fx dy) = fx := by omega
      rw [if_pos e2, if_pos h2]
    · have e2 : ¬ min st (min fx dy) = fx := by omega
      rw [if_neg e2, if_neg h2]
theorem pick3m (st fx dy : Int) (n : Nat) (h : ¬ n ≤ 65535) (hf : fx ≤ 1000000000000000) : (if min 9223372036854775807 (min fx dy) = 9223372036854775807 then (0 : Int) else if min 9223372036854775807 (min fx dy) = fx then 1 else 2) = if n ≤ 65535 ∧ st ≤ fx ∧ st ≤ dy then 0 else if fx ≤ dy then 1 else 2 := by
  have e0 : ¬ (n ≤ 65535 ∧ st ≤ fx ∧ st ≤ dy) := fun x => h x.1
  have e1 : ¬ min (9223372036854775807 : Int) (min fx dy) = 9223372036854775807 := by omega
  rw [if_neg e1, if_neg e0]
  by_cases h2 : fx ≤ dy
  · have e2 : min (9223372036854775807 : Int) (min fx dy) = fx := by omega
    rw [if_pos e2, if_pos h2]
  · have e2 : ¬ min (9223372036854775807 : Int) (min fx dy) = fx := by omega
    rw [if_neg e2, if_neg h2]
set_option maxRecDepth 100000 in
set_option maxHeartbeats 1000000 in
theorem shortest_walk (w : World) (g p n : Nat) (h0 h2 ov : Value) (S D : List Int) (b : Nat) (fx dy : Int) (h : CtAt w g 59 h0 (.int .i64 (n : Int)) h2 ov S D b) (hn : n ≤ 1000000000) (hp : p ≤ 1000000000000)
    (hF : ∀ wx, OnlyS (fun _ => False) w wx → Calls Tryd.prog 48 #[.pointer (some ⟨g, 0, none⟩)] wx fun e w' => e = .returned (.int .i64 fx) ∧ OnlyS (fun _ => False) wx w')
    (hY : ∀ wx, OnlyS (fun _ => False) w wx → Calls Tryd.prog 49 #[.pointer (some ⟨g, 0, none⟩)] wx fun e w' => e = .returned (.int .i64 dy) ∧ OnlyS (fun _ => False) wx w')
    (hfb : fx ≤ 1000000000000000) :
    Calls Tryd.prog 31 #[.pointer (some ⟨g, 0, none⟩), .int .i64 (p : Int)] w fun e w' => e = .returned (.int .i64 (if n ≤ 65535 ∧ Df.stoN p n ≤ fx ∧ Df.stoN p n ≤ dy then 0 else if fx ≤ dy then 1 else 2)) ∧ OnlyS (fun _ => False) w w' := by
  have HF := Lib.hid hF
  have HY := Lib.hid hY
  obtain ⟨st, hst⟩ : ∃ st, st = Df.stoN p n := ⟨_, rfl⟩
  rw [← hst]
  have HT : Hid (∀ wx, OnlyS (fun _ => False) w wx → Calls Tryd.prog 51 #[.pointer (some ⟨g, 0, none⟩), .int .i64 (p : Int)] wx fun e w' => e = .returned (.int .i64 st) ∧ w' = wx) := Lib.hid (fun wx ho => by
    rw [hst]; exact storedBits_walk wx g h0 h2 ov n p S D b (h.only ho) hn hp)
  have HS : Hid (∀ wx, OnlyS (fun _ => False) w wx → Calls Tryd.prog 50 #[.pointer (some ⟨g, 0, none⟩)] wx fun e w' => e = .returned (.bool (decide (n ≤ 65535))) ∧ w' = wx) := Lib.hid (fun wx ho => storable_walk wx g h0 h2 ov n S D b (h.only ho))
  obtain ⟨r, hr⟩ : ∃ r : Int, r = if n ≤ 65535 ∧ st ≤ fx ∧ st ≤ dy then 0 else if fx ≤ dy then 1 else 2 := ⟨_, rfl⟩
  rw [← hr]
  by_cases hle : n ≤ 65535
  · have HR : Hid ((if min st (min fx dy) = st then 0 else if min st (min fx dy) = fx then 1 else 2) = r) := Lib.hid ((pick3 st fx dy n hle).trans hr.symm)
    rw [show decide (n ≤ 65535) = true from decide_eq_true hle] at HS
    clear hr hle hst h hn hp hF hY hfb
    go_enter Tryd.func31, Tryd.ntmps31
    go_wp2_with (first
      | (go_at_call 48; with_reducible refine (HF.out _ (OnlyS.refl _ _)).mono ?_; rintro e w1 ⟨rfl, ho1⟩)
      | (go_at_call 49; with_reducible refine (HY.out _ ho1).mono ?_; rintro e w2 ⟨rfl, ho2⟩; have ho3 := ho1.trans ho2; have ho4 := ho3.trans (OnlyS.alloc w2 (.cells #[.int .i64 9223372036854775807, .int .i64 fx, .int .i64 dy] 25 (0, 0))))
      | (go_at_call 50; with_reducible refine (HS.out _ ho4).mono ?_; rintro e w5 ⟨rfl, rfl⟩)
      | (go_at_call 51; with_reducible refine (HT.out _ ho4).mono ?_; rintro e w6 ⟨rfl, rfl⟩))
    obtain ⟨w4, hw4⟩ : ∃ w4, w4 = w2.alloc (.cells #[.int .i64 st, .int .i64 fx, .int .i64 dy] 25 (0, 0)) := ⟨_, rfl⟩
    rw [← hw4]
    obtain ⟨B, hB⟩ : ∃ B, B = w2.heap.size := ⟨_, rfl⟩
    rw [← hB]
    have hr4 : w4.heap[B]? = some (.cells #[.int .i64 st, .int .i64 fx, .int .i64 dy] 25 (0, 0)) := by rw [hw4, hB]; exact heap_alloc_new _ _
    have HO4 : Hid (OnlyS (fun _ => False) w w4) := Lib.hid (by rw [hw4]; exact ho3.trans (OnlyS.alloc _ _))
    have H3 : Hid (∀ wx, OnlyS (fun _ => False) w4 wx → Three3 wx B st fx dy) := Lib.hid (fun wx ho => by
      obtain ⟨c0, c1, c2, _⟩ := row3 hr4
      exact ⟨ho.cell c0 (fun h => h), ho.cell c1 (fun h => h), ho.cell c2 (fun h => h)⟩)
    have HM := Lib.hid (fun wx (ho : OnlyS (fun _ => False) w4 wx) => min3_walk wx B st fx dy (H3.out wx ho))
    obtain ⟨mn, hmn⟩ : ∃ mn, mn = min st (min fx dy) := ⟨_, rfl⟩
    rw [← hmn] at HM
    have HI := Lib.hid (fun wx (ho : OnlyS (fun _ => False) w4 wx) => index3_walk wx B st fx dy mn (H3.out wx ho) (by omega))
    rw [← hmn] at HR
    rw [HR.out] at HI
    clear hmn hr4 hw4 hB ho1 ho2 ho3 ho4 HF HY HT HS
    go_region_law (first
      | (go_simp; go_at_call 53; with_reducible refine (HM.out _ (OnlyS.drew _)).mono ?_; rintro e w5 ⟨rfl, ho5⟩)
      | (go_simp; go_at_call 52; with_reducible refine (HI.out _ ((OnlyS.drew _).trans ho5)).mono ?_; rintro e w6 ⟨rfl, ho6⟩))
    go_wp2_with fail
    go_ret
    exact ⟨rfl, ((HO4.out.trans (OnlyS.drew _)).trans ho5).trans ho6⟩
  · have HR : Hid ((if min 9223372036854775807 (min fx dy) = 9223372036854775807 then 0 else if min 9223372036854775807 (min fx dy) = fx then 1 else 2) = r) := Lib.hid ((pick3m st fx dy n hle hfb).trans hr.symm)
    rw [show decide (n ≤ 65535) = false from decide_eq_false hle] at HS
    clear hr hle hst h hn hp hF hY hfb
    go_enter Tryd.func31, Tryd.ntmps31
    go_wp2_with (first
      | (go_at_call 48; with_reducible refine (HF.out _ (OnlyS.refl _ _)).mono ?_; rintro e w1 ⟨rfl, ho1⟩)
      | (go_at_call 49; with_reducible refine (HY.out _ ho1).mono ?_; rintro e w2 ⟨rfl, ho2⟩; have ho3 := ho1.trans ho2; have ho4 := ho3.trans (OnlyS.alloc w2 (.cells #[.int .i64 9223372036854775807, .int .i64 fx, .int .i64 dy] 25 (0, 0))))
      | (go_at_call 50; with_reducible refine (HS.out _ ho4).mono ?_; rintro e w5 ⟨rfl, rfl⟩)
      | (go_at_call 51; with_reducible refine (HT.out _ ho4).mono ?_; rintro e w6 ⟨rfl, rfl⟩))
    obtain ⟨w4, hw4⟩ : ∃ w4, w4 = w2.alloc (.cells #[.int .i64 9223372036854775807, .int .i64 fx, .int .i64 dy] 25 (0, 0)) := ⟨_, rfl⟩
    rw [← hw4]
    obtain ⟨B, hB⟩ : ∃ B, B = w2.heap.size := ⟨_, rfl⟩
    rw [← hB]
    have hr4 : w4.heap[B]? = some (.cells #[.int .i64 9223372036854775807, .int .i64 fx, .int .i64 dy] 25 (0, 0)) := by rw [hw4, hB]; exact heap_alloc_new _ _
    have HO4 : Hid (OnlyS (fun _ => False) w w4) := Lib.hid (by rw [hw4]; exact ho3.trans (OnlyS.alloc _ _))
    have H3 : Hid (∀ wx, OnlyS (fun _ => False) w4 wx → Three3 wx B 9223372036854775807 fx dy) := Lib.hid (fun wx ho => by
      obtain ⟨c0, c1, c2, _⟩ := row3 hr4
      exact ⟨ho.cell c0 (fun h => h), ho.cell c1 (fun h => h), ho.cell c2 (fun h => h)⟩)
    have HM := Lib.hid (fun wx (ho : OnlyS (fun _ => False) w4 wx) => min3_walk wx B 9223372036854775807 fx dy (H3.out wx ho))
    obtain ⟨mn, hmn⟩ : ∃ mn, mn = min 9223372036854775807 (min fx dy) := ⟨_, rfl⟩
    rw [← hmn] at HM
    have HI := Lib.hid (fun wx (ho : OnlyS (fun _ => False) w4 wx) => index3_walk wx B 9223372036854775807 fx dy mn (H3.out wx ho) (by omega))
    rw [← hmn] at HR
    rw [HR.out] at HI
    clear hmn hr4 hw4 hB ho1 ho2 ho3 ho4 HF HY HT HS
    go_region_law (first
      | (go_simp; go_at_call 53; with_reducible refine (HM.out _ (OnlyS.drew _)).mono ?_; rintro e w5 ⟨rfl, ho5⟩)
      | (go_simp; go_at_call 52; with_reducible refine (HI.out _ ((OnlyS.drew _).trans ho5)).mono ?_; rintro e w6 ⟨rfl, ho6⟩))
    go_wp2_with fail
    go_ret
    exact ⟨rfl, ((HO4.out.trans (OnlyS.drew _)).trans ho5).trans ho6⟩
end Go.Proofs.YtphdcgioeokfbaaDoor
