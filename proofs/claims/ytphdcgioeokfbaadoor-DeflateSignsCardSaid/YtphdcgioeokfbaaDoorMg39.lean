/-
  Merged, in the order in which they build: Hdd.
-/
import Derived.Deep.RegionLaw
import Derived.Deep.DeepCutAuto
import Derived.Test.YtphdcgioeokfbaaDoorMg24
import Derived.Test.YtphdcgioeokfbaaDoorMg27
import Derived.Test.YtphdcgioeokfbaaDoorMg37
import Derived.Test.YtphdcgioeokfbaaDoorMg38
/-
  headed: the heading that is the best for a block's counts.
-/
namespace Go.Proofs.YtphdcgioeokfbaaDoor
open Go.RowKit Hf
set_option maxHeartbeats 400000 in
/-- The lengths that are the best for counts. -/
theorem fitted_walk (w : World) (v : Value) (counts : List Int) (L : Nat) (hv : SlV w v (ni counts)) (hok : okC counts = true) (hL1 : 1 ≤ L) (hL : L ≤ 15) (hk : (syms counts).length ≤ 2 ^ L) :
    Calls Tryd.prog 38 #[v, .int .i64 (L : Int)] w fun e w' => ∃ u, e = .returned u ∧ OnlyS (fun _ => False) w w' ∧ w.heap.size ≤ w'.heap.size ∧ w'.ownsRow w.heap.size 3 1 u counts.length (ni (lensF counts L)) := by
  have HC := Lib.hid (Lengths_any w v counts L hv hok hL1 hL hk)
  clear hv hok hL1 hL hk
  go_enter Tryd.func38, Tryd.ntmps38
  go_wp2_with (go_at_call 57; refine HC.out.mono ?_; rintro e w2 ⟨u, rfl, hb, hown⟩)
  go_ret
  exact ⟨u, rfl, OnlyS.of_below hb, hb.size, hown⟩
theorem concat2 (w : World) (g : Nat) (va vb : Value) (a b : List Int) (hr : w.heap[g]? = some (.cells #[va, vb] 91 (0, 0))) (hva : SlV w va (ni a)) (hvb : SlV w vb (ni b)) (h1 : 1 ≤ a.length) (h2 : a.length + b.length ≤ 8192) :
    Calls Tryd.prog 41 #[.slice (some ⟨g, 0, none⟩) 2 2] w fun e w' => ∃ v', e = .returned v' ∧ SlV w' v' (ni (a ++ b)) ∧ Below w.heap.size w w' := by
  have hc : catL (fun i => if i = 0 then a else b) 2 = a ++ b := by simp [catL]
  have h := concat_walk w g 0 2 2 (fun i => if i = 0 then va else vb) (fun i => if i = 0 then a else b) ⟨fun i hi => by
    obtain rfl | rfl : i = 0 ∨ i = 1 := by omega
    · exact cell_of_row _ _ _ _ _ _ hr
    · exact cell_of_row _ _ _ _ _ _ hr, fun i hi => by
    obtain rfl | rfl : i = 0 ∨ i = 1 := by omega
    · exact hva
    · exact hvb⟩ (Nat.le_refl _) (by decide) (by rw [hc, List.length_append]; omega) (by rw [hc, List.length_append]; omega)
  rw [hc] at h
  exact h
theorem row5 {w : World} {g : Nat} {x0 x1 x2 x3 x4 : Value} {t : TypeId} (h : w.heap[g]? = some (.cells #[x0, x1, x2, x3, x4] t (0, 0))) :
    w.cell? ⟨g, 0, none⟩ = some x0 ∧ w.cell? ⟨g, 1, none⟩ = some x1 ∧ w.cell? ⟨g, 2, none⟩ = some x2 ∧ w.cell? ⟨g, 3, none⟩ = some x3 ∧ w.cell? ⟨g, 4, none⟩ = some x4 ∧
    w.frozen? ⟨g, 0, none⟩ = false ∧ w.frozen? ⟨g, 1, none⟩ = false ∧ w.frozen? ⟨g, 2, none⟩ = false ∧ w.frozen? ⟨g, 3, none⟩ = false ∧ w.frozen? ⟨g, 4, none⟩ = false :=
  ⟨cell_of_row _ _ _ _ _ _ h, cell_of_row _ _ _ _ _ _ h, cell_of_row _ _ _ _ _ _ h, cell_of_row _ _ _ _ _ _ h, cell_of_row _ _ _ _ _ _ h, frozen_of_row _ _ _ _ _ h, frozen_of_row _ _ _ _ _ h, frozen_of_row _ _ _ _ _ h, frozen_of_row _ _ _ _ _ h, frozen_of_row _ _ _ _ _ h⟩
/-- The table of the order in which the lengths of the tellers' codes are told. -/
def OrdAt (w : World) : Prop := ∀ k, k < 19 → w.cell? ⟨2, k, none⟩ = some (.int .i64 (Inf.order.getD k 0 : Int))
theorem ord_lt : ∀ k, k < 19 → Inf.order.getD k 0 < 19 := by decide
/-- The slices lie in new blocks. -/
def Far4 (b : Nat) (va vb vr vt : Value) : Prop := ∀ v, v = va ∨ v = vb ∨ v = vr ∨ v = vt → ∀ p n c, v = .slice (some p) n c → b ≤ p.block
set_option maxRecDepth 100000 in
set_option maxHeartbeats 1000000 in
theorem headed_walk (w : World) (g o : Nat) (S D : List Int) (hord : OrdAt w) (hS : SlV w (.slice (some ⟨g, o, none⟩) 286 286) (ni S)) (hD : SlV w (.slice (some ⟨g, o + 286, none⟩) 30 30) (ni D)) (sl : S.length = 286) (dl : D.length = 30)
    (okS : okC S = true) (okD : okC D = true) (za zb zf : List Int) (gs : List Sg) (ha : za = Df.cut 257 (lensF S 15)) (hb : zb = Df.cut 1 (lensF D 15)) (hg : gs = Df.runsOf (za ++ zb)) (hf : zf = lensF (cnt (gs.map (·.s)) 19) 7) :
    Calls Tryd.prog 27 #[.pointer (some ⟨g, o, none⟩)] w fun e w' => ∃ G va vb vr vt, e = .returned (.pointer (some ⟨G, 0, none⟩)) ∧ OnlyS (fun _ => False) w w' ∧ w.heap.size ≤ G ∧
      w'.heap[G]? = some (.cells #[va, vb, vr, vt, .int .i64 (Df.toldN zf 19 : Int)] 95 (0, 0)) ∧ SlV w' va (ni za) ∧ SlV w' vb (ni zb) ∧ SlK 3 w' vr gs.length (rs gs) ∧ SlV w' vt (ni zf) ∧ Far4 w.heap.size va vb vr vt := by
  have HF1 : Hid (∀ wx, OnlyS (fun _ => False) w wx → Calls Tryd.prog 38 #[.slice (some ⟨g, o, none⟩) 286 286, .int .i64 15] wx fun e w' => ∃ u, e = .returned u ∧ OnlyS (fun _ => False) wx w' ∧ wx.heap.size ≤ w'.heap.size ∧ w'.ownsRow wx.heap.size 3 1 u 286 (ni (lensF S 15))) := Lib.hid (fun wx h => by
    have h2 := fitted_walk wx _ S 15 (hS.only h (fun _ _ _ _ _ h => h)) okS (by decide) (by decide) (Nat.le_trans (syms_le S) (by omega))
    rw [sl] at h2; exact h2)
  have HF2 : Hid (∀ wx, OnlyS (fun _ => False) w wx → Calls Tryd.prog 38 #[.slice (some ⟨g, o + 286, none⟩) 30 30, .int .i64 15] wx fun e w' => ∃ u, e = .returned u ∧ OnlyS (fun _ => False) wx w' ∧ wx.heap.size ≤ w'.heap.size ∧ w'.ownsRow wx.heap.size 3 1 u 30 (ni (lensF D 15))) := Lib.hid (fun wx h => by
    have h2 := fitted_walk wx _ D 15 (hD.only h (fun _ _ _ _ _ h => h)) okD (by decide) (by decide) (Nat.le_trans (syms_le D) (by omega))
    rw [dl] at h2; exact h2)
  have HLS : Hid ((lensF S 15).length = 286) := Lib.hid ((lens_are S 15 (by decide) (by decide) (Nat.le_trans (syms_le S) (by omega))).len.trans sl)
  have HLD : Hid ((lensF D 15).length = 30) := Lib.hid ((lens_are D 15 (by decide) (by decide) (Nat.le_trans (syms_le D) (by omega))).len.trans dl)
  have HBD : Hid (∀ i, 0 ≤ (za ++ zb).getD i 0 ∧ (za ++ zb).getD i 0 ≤ 15) := Lib.hid (fun i => by
    have b1 := (lens_are S 15 (by decide) (by decide) (Nat.le_trans (syms_le S) (by omega))).bound
    have b2 := (lens_are D 15 (by decide) (by decide) (Nat.le_trans (syms_le D) (by omega))).bound
    by_cases h : i < za.length
    · rw [show (za ++ zb).getD i 0 = za.getD i 0 by rw [List.getD_eq_getElem?_getD, List.getElem?_append_left h, ← List.getD_eq_getElem?_getD], ha, Df.cut_getD]; exact b1 i
    · rw [show (za ++ zb).getD i 0 = zb.getD (i - za.length) 0 by simp [List.getElem?_append_right (by omega : za.length ≤ i)], hb, Df.cut_getD]; exact b2 _)
  have HORD := Lib.hid hord
  have HA := Lib.hid ha
  have HB := Lib.hid hb
  have HG := Lib.hid hg
  have HF := Lib.hid hf
  clear hord hS hD sl dl okS okD ha hb hg hf
  go_enter Tryd.func27, Tryd.ntmps27
  go_upto_region 1 with fail
  go_cut [3] (fun v3 wx => ∃ G p1 c1 p2 c2, v3 = .pointer (some ⟨G, 0, none⟩) ∧ wx.heap[G]? = some (.cells #[.slice p1 286 c1, .slice p2 30 c2, .slice none 0 0, .slice none 0 0, .int .i64 0] 95 (0, 0)) ∧ ∃ wz, G = wz.heap.size ∧ OnlyS (fun _ => False) w wz ∧ OnlyS (fun _ => False) wz wx ∧ SlV wz (.slice p1 286 c1) (ni (lensF S 15)) ∧ SlV wz (.slice p2 30 c2) (ni (lensF D 15)) ∧ (∀ a, p1 = some a → w.heap.size ≤ a.block) ∧ (∀ a, p2 = some a → w.heap.size ≤ a.block))
  case first =>
    go_region_law (first
      | (go_simp; go_at_call 38; with_reducible refine (HF1.out _ (OnlyS.drew _)).mono ?_; rintro e w2 ⟨u1, rfl, ho1, hz1, hown1⟩; obtain ⟨p1, c1, rfl⟩ := own_shape hown1)
      | (go_simp; go_at_call 38; with_reducible refine (HF2.out _ ((OnlyS.drew _).trans ho1)).mono ?_; rintro e w3 ⟨u2, rfl, ho2, hz2, hown2⟩; obtain ⟨p2, c2, rfl⟩ := own_shape hown2))
    have hoa : OnlyS (fun _ => False) w3 (w3.alloc (.cells #[.slice p1 286 c1, .slice p2 30 c2, .slice none 0 0, .slice none 0 0, .int .i64 0] 95 (0, 0))) := OnlyS.alloc _ _
    have hs1 := (own_toV hown1).only ho2 (fun _ _ _ _ _ h => h)
    have hs2 := own_toV hown2
    have hall := ((OnlyS.drew w).trans ho1).trans ho2
    have hf1 : ∀ a, p1 = some a → w.heap.size ≤ a.block := fun a e => by subst e; exact (own_lt hown1 a.block rfl).1
    have hf2 : ∀ a, p2 = some a → w.heap.size ≤ a.block := fun a e => by subst e; exact Nat.le_trans ho1.size (own_lt hown2 a.block rfl).1
    clear hown1 hown2 ho1 ho2
    go_wp2_with fail
    go_meet
    exact ⟨w3.heap.size, p1, c1, p2, c2, rfl, heap_alloc_new _ _, w3, rfl, hall, hoa, hs1, hs2, hf1, hf2⟩
  case rest =>
  obtain ⟨G, p1, c1, p2, c2, rfl, hrow, wz, hG, how, ho1, hz1, hz2, hf1, hf2⟩ := hcut
  have HFR := Lib.hid (And.intro hf1 hf2)
  clear hf1 hf2
  have hs1 := hz1.only ho1 (fun _ _ _ _ _ h => h)
  have HU1 : Hid (∀ wx, OnlyS (fun _ => False) wc wx → Calls Tryd.prog 39 #[.slice p1 286 c1] wx fun e w' => e = .returned (.int .i64 (Df.usd (lensF S 15) : Int)) ∧ OnlyS (fun _ => False) wx w') := Lib.hid (fun wx h => used_walk wx _ (lensF S 15) (hs1.only h (fun _ _ _ _ _ h => h)) (by rw [HLS.out]; decide))
  obtain ⟨x0, x1, x2, x3, x4, f0, f1, f2, f3, f4⟩ := row5 hrow
  have HX : Hid (wc.cell? ⟨G, 0, none⟩ = some (.slice p1 286 c1)) := Lib.hid x0
  have HR := Lib.hid hrow
  have HRW : Hid (∀ wx, OnlyS (fun _ => False) wc wx → wx.heap[G]? = some (.cells #[.slice p1 286 c1, .slice p2 30 c2, .slice none 0 0, .slice none 0 0, .int .i64 0] 95 (0, 0))) := Lib.hid (fun wx h => (h.block G (Array.getElem?_eq_some_iff.1 HR.out).1 (fun h => h)).trans HR.out)
  have HZ1 := Lib.hid hz1
  have HZ2 := Lib.hid hz2
  have HGZ := Lib.hid hG
  have HOW := Lib.hid how
  have HO1 := Lib.hid ho1
  have hc1 : (286 : Int) ≤ (c1 : Int) := by have := hs1.le; omega
  have hul := Df.cut_length 257 (lensF S 15) (by rw [HLS.out]; decide)
  rw [← HA.out, HLS.out] at hul
  have HM1 := Lib.hid hul.2.2
  obtain ⟨u, hu⟩ : ∃ u, u = Df.usd (lensF S 15) := ⟨_, rfl⟩
  rw [← hu] at HU1 hul
  obtain ⟨la, hla⟩ : ∃ la, la = za.length := ⟨_, rfl⟩
  rw [← hla] at hul
  have hmx : max (257 : Int) (u : Int) = (la : Int) := by omega
  have hla2 : (la : Int) ≤ 286 := by omega
  have hlc : la ≤ c1 := by omega
  have HLA := Lib.hid hla
  have HUL := Lib.hid hul
  clear hu hla hul hrow hs1 hz1 hz2 hG how ho1 x2 x3 x4 f1 f2 f3 f4
  go_upto_region 2 with fail
  go_cut [] (fun wx => wx.heap[G]? = some (.cells #[.slice p1 la c1, .slice p2 30 c2, .slice none 0 0, .slice none 0 0, .int .i64 0] 95 (0, 0)) ∧ OnlyS (fun _ => False) wz wx)
  case first =>
    go_region_law (first
      | (go_simp; go_at_call 39; with_reducible refine (HU1.out _ (OnlyS.drew _)).mono ?_; rintro e w2 ⟨rfl, ho2⟩; have hr2 := HRW.out _ ((OnlyS.drew _).trans ho2); obtain ⟨y0, y1, _, _, _, g0, g1, _, _, _⟩ := row5 hr2))
    all_goals go_wp2_with fail
    all_goals go_meet
    all_goals exact ⟨heap_setCell_same _ _ _ _ _ _ hr2, (HO1.out.trans ((OnlyS.drew _).trans ho2)).trans' (OnlyS.setCell (S := fun k => k = G) _ _ _ _ rfl) (fun i hi => .inr (by rw [hi, HGZ.out]; exact Nat.le_refl _))⟩
  case rest =>
  obtain ⟨hrow, ho2⟩ := hcut
  clear HU1 HRW HX HR HO1 x0 f0 hmx
  rename World => wd
  have HU2 : Hid (∀ wx, OnlyS (fun _ => False) wd wx → Calls Tryd.prog 39 #[.slice p2 30 c2] wx fun e w' => e = .returned (.int .i64 (Df.usd (lensF D 15) : Int)) ∧ OnlyS (fun _ => False) wx w') := Lib.hid (fun wx h => used_walk wx _ (lensF D 15) ((HZ2.out.only ho2 (fun _ _ _ _ _ h => h)).only h (fun _ _ _ _ _ h => h)) (by rw [HLD.out]; decide))
  have HRW : Hid (∀ wx, OnlyS (fun _ => False) wd wx → wx.heap[G]? = some (.cells #[.slice p1 la c1, .slice p2 30 c2, .slice none 0 0, .slice none 0 0, .int .i64 0] 95 (0, 0))) := Lib.hid (fun wx h => (h.block G (Array.getElem?_eq_some_iff.1 hrow).1 (fun h => h)).trans hrow)
  obtain ⟨x0, x1, x2, x3, x4, f0, f1, f2, f3, f4⟩ := row5 hrow
  have HO2 := Lib.hid ho2
  have hc2 : (30 : Int) ≤ (c2 : Int) := by have := HZ2.out.le; omega
  have hul := Df.cut_length 1 (lensF D 15) (by rw [HLD.out]; decide)
  rw [← HB.out, HLD.out] at hul
  have HM2 := Lib.hid hul.2.2
  obtain ⟨u, hu⟩ : ∃ u, u = Df.usd (lensF D 15) := ⟨_, rfl⟩
  rw [← hu] at HU2 hul
  obtain ⟨lb, hlb⟩ : ∃ lb, lb = zb.length := ⟨_, rfl⟩
  rw [← hlb] at hul
  have hmx : max (1 : Int) (u : Int) = (lb : Int) := by omega
  have hlb2 : (lb : Int) ≤ 30 := by omega
  have hldc : lb ≤ c2 := by omega
  have HLB := Lib.hid hlb
  have HULB := Lib.hid hul
  clear hu hlb hul hrow ho2 x0 x2 x3 x4 f0 f2 f3 f4
  go_upto_region 3 with fail
  go_cut [] (fun wx => wx.heap[G]? = some (.cells #[.slice p1 la c1, .slice p2 lb c2, .slice none 0 0, .slice none 0 0, .int .i64 0] 95 (0, 0)) ∧ OnlyS (fun _ => False) wz wx)
  case first =>
    go_region_law (first
      | (go_simp; go_at_call 39; with_reducible refine (HU2.out _ (OnlyS.drew _)).mono ?_; rintro e w2 ⟨rfl, ho2⟩; have hr2 := HRW.out _ ((OnlyS.drew _).trans ho2); obtain ⟨y0, y1, _, _, _, g0, g1, _, _, _⟩ := row5 hr2))
    all_goals go_wp2_with fail
    all_goals go_meet
    all_goals exact ⟨heap_setCell_same _ _ _ _ _ _ hr2, (HO2.out.trans ((OnlyS.drew _).trans ho2)).trans' (OnlyS.setCell (S := fun k => k = G) _ _ _ _ rfl) (fun i hi => .inr (by rw [hi, HGZ.out]; exact Nat.le_refl _))⟩
  case rest =>
  obtain ⟨hrow, ho2⟩ := hcut
  clear HU2 HRW HO2 x1 f1 hmx
  rename World => wd
  have hla3 := HLA.out
  have hlb3 := HLB.out
  have hta : SlV wz (.slice p1 la c1) (ni za) := by
    have h := HZ1.out.take la (by omega)
    rw [HA.out]; unfold Df.cut; rw [← HM1.out, ← hla3, ← ni_take]; exact h
  have htb : SlV wz (.slice p2 lb c2) (ni zb) := by
    have h := HZ2.out.take lb (by omega)
    rw [HB.out]; unfold Df.cut; rw [← HM2.out, ← hlb3, ← ni_take]; exact h
  have HTA := Lib.hid hta
  have HTB := Lib.hid htb
  have hoe : OnlyS (fun _ => False) wz (wd.alloc (.cells #[.slice p1 la c1, .slice p2 lb c2] 91 (0, 0))).drew := (ho2.trans (OnlyS.alloc _ _)).trans (OnlyS.drew _)
  have HOE : Hid (OnlyS (fun _ => False) wd (wd.alloc (.cells #[.slice p1 la c1, .slice p2 lb c2] 91 (0, 0))).drew) := Lib.hid ((OnlyS.alloc _ _).trans (OnlyS.drew _))
  have HCC := Lib.hid (concat2 (wd.alloc (.cells #[.slice p1 la c1, .slice p2 lb c2] 91 (0, 0))).drew wd.heap.size (.slice p1 la c1) (.slice p2 lb c2) za zb (heap_alloc_new _ _) (hta.only hoe (fun _ _ _ _ _ h => h)) (htb.only hoe (fun _ _ _ _ _ h => h)) (by rw [← hla3]; have := HUL.out.1; omega) (by rw [← hla3, ← hlb3]; omega))
  have HRN : Hid (∀ wx v, SlV wx v (ni (za ++ zb)) → Calls Tryd.prog 40 #[v] wx fun e w' => ∃ u, e = .returned u ∧ OnlyS (fun _ => False) wx w' ∧ w'.ownsRow wx.heap.size 101 3 u gs.length (rs gs)) := Lib.hid (fun wx v h => by
    have h2 := runs_walk wx v (za ++ zb) h (by rw [List.length_append, ← hla3, ← hlb3]; omega) HBD.out
    rw [← HG.out] at h2; exact h2)
  have HRW : Hid (∀ wx, OnlyS (fun _ => False) wd wx → wx.heap[G]? = some (.cells #[.slice p1 la c1, .slice p2 lb c2, .slice none 0 0, .slice none 0 0, .int .i64 0] 95 (0, 0))) := Lib.hid (fun wx h => (h.block G (Array.getElem?_eq_some_iff.1 hrow).1 (fun h => h)).trans hrow)
  have HGL : Hid (G < wd.heap.size) := Lib.hid (Array.getElem?_eq_some_iff.1 hrow).1
  obtain ⟨x0, x1, x2, x3, x4, f0, f1, f2, f3, f4⟩ := row5 hrow
  have HO2 := Lib.hid ho2
  clear hla3 hlb3 hta htb hoe hrow ho2 x2 x3 x4 f0 f1 f2 f3 f4
  go_upto_region 4 with fail
  go_cut [] (fun wx => ∃ p3 c3 B, G < B ∧ wx.heap[G]? = some (.cells #[.slice p1 la c1, .slice p2 lb c2, .slice p3 gs.length c3, .slice none 0 0, .int .i64 0] 95 (0, 0)) ∧ OnlyS (fun _ => False) wz wx ∧ wx.ownsRow B 101 3 (.slice p3 gs.length c3) gs.length (rs gs))
  case first =>
    go_region_law (first
      | (go_simp; go_at_call 41; with_reducible refine HCC.out.mono ?_; rintro e w2 ⟨v2, rfl, hsv2, hb2⟩; have ho2 := HOE.out.trans (OnlyS.of_below hb2))
      | (go_simp; go_at_call 40; with_reducible refine (HRN.out _ _ hsv2).mono ?_; rintro e w3 ⟨v3, rfl, ho3, hown3⟩; obtain ⟨p3, c3, rfl⟩ := own_shape hown3; have hr3 := HRW.out _ (ho2.trans ho3); obtain ⟨y0, y1, y2, _, _, g0, g1, g2, _, _⟩ := row5 hr3))
    all_goals go_wp2_with fail
    all_goals go_meet
    all_goals exact ⟨p3, c3, w2.heap.size, Nat.lt_of_lt_of_le HGL.out ho2.size, heap_setCell_same _ _ _ _ _ _ hr3, ((HO2.out.trans ho2).trans ho3).trans' (OnlyS.setCell (S := fun k => k = G) _ _ _ _ rfl) (fun i hi => .inr (by rw [hi, HGZ.out]; exact Nat.le_refl _)), own_staysK hown3 (fun j hj => (OnlyS.setCell (S := fun k => k = G) w3 G 2 _ rfl).block j (hown3.lt j hj).2 (fun e => by have h1 := (hown3.lt j hj).1; have h2 := HGL.out; have h3 := ho2.size; omega))⟩
  case rest =>
  obtain ⟨p3, c3, B, hGB, hrow, ho2, hown⟩ := hcut
  clear HCC HRN HRW HO2 x0 x1
  rename World => wd
  obtain ⟨n, hn⟩ : ∃ n, n = gs.length := ⟨_, rfl⟩
  rw [← hn] at hrow hown
  have HN := Lib.hid hn
  have HROW := Lib.hid hrow
  have HO2 := Lib.hid ho2
  have HOWN := Lib.hid hown
  have HGB := Lib.hid hGB
  clear hrow ho2 hown hGB hn
  go_upto_region 6 with fail
  obtain ⟨w1, hw1⟩ : ∃ w1, w1 = wd.alloc (.cells (ni (List.replicate 19 0)).toArray 99 (0, 0)) := ⟨_, rfl⟩
  have hwe : wd.alloc (.cells #[.int .i64 0, .int .i64 0, .int .i64 0, .int .i64 0, .int .i64 0, .int .i64 0, .int .i64 0, .int .i64 0, .int .i64 0, .int .i64 0, .int .i64 0, .int .i64 0, .int .i64 0, .int .i64 0, .int .i64 0, .int .i64 0, .int .i64 0, .int .i64 0, .int .i64 0] 99 (0, 0)) = w1 := hw1.symm
  rw [hwe]
  have hr1 : w1.heap[G]? = some (.cells #[.slice p1 la c1, .slice p2 lb c2, .slice p3 n c3, .slice none 0 0, .int .i64 0] 95 (0, 0)) := by rw [hw1]; exact (heap_alloc_old _ _ (Array.getElem?_eq_some_iff.1 HROW.out).1).trans HROW.out
  have ho3 : OnlyS (fun _ => False) wd w1 := by rw [hw1]; exact OnlyS.alloc _ _
  have hO1 : w1.heap[wd.heap.size]? = some (.cells (ni (List.replicate 19 0)).toArray 99 (0, 0)) := by rw [hw1]; exact heap_alloc_new _ _
  obtain ⟨O, hO⟩ : ∃ O, O = wd.heap.size := ⟨_, rfl⟩
  rw [← hO] at hO1 ⊢
  have hGO : G < O := by rw [hO]; exact (Array.getElem?_eq_some_iff.1 HROW.out).1
  obtain ⟨hok, hdec⟩ := Df.runsOf_dec (za ++ zb) HBD.out
  rw [← HG.out] at hok hdec
  have hn1 : n ≤ 316 := by
    have h := dec_le gs []
    rw [hdec, List.length_append, ← HLA.out, ← HLB.out, ← HN.out] at h
    simp at h; omega
  have HOK : Hid (∀ g ∈ gs, g.s ≤ 18) := Lib.hid (Df.okGs_s gs [] hok)
  have HSK : Hid (SlK 3 wd (.slice p3 n c3) n (rs gs)) := Lib.hid (own_toK HOWN.out (by rw [rs_length, HN.out]))
  have HWD := Lib.hid ho3
  obtain ⟨x0, x1, x2, x3, x4, f0, f1, f2, f3, f4⟩ := row5 hr1
  have HR1 := Lib.hid hr1
  have HO3 := Lib.hid (HO2.out.trans ho3)
  have HWO := Lib.hid hO
  have HGO := Lib.hid hGO
  have HRO := Lib.hid hO1
  clear hr1 ho3 hO1 hO hGO hok hdec hw1 hwe x0 x1 x3 x4 f0 f1 f2 f3 f4 HROW HO2
  go_wp2_with fail
  go_loopw [66] (fun v66 wr => ∃ k : Nat, k ≤ n ∧ v66 = .int .i64 (k : Int) ∧ wr.heap[O]? = some (.cells (ni (cnt ((gs.take k).map (·.s)) 19)).toArray 99 (0, 0)) ∧ OnlyS (fun i => i = O) w1 wr) (fun v66 _ => n - (intOf v66).toNat)
  case atStart => exact ⟨0, Nat.zero_le _, rfl, by rw [List.take_zero, List.map_nil, cnt_nil]; exact HRO.out, OnlyS.refl _ _⟩
  case round =>
    obtain ⟨k, hk, rfl, hro, how⟩ := hrel
    by_cases hlt : k < n
    · have hlti : (k : Int) < (n : Int) := by omega
      have hk0 : (0 : Int) ≤ (k : Int) := by omega
      obtain ⟨_, ⟨gr, or, cap, he, hcap, hrow3⟩ | ⟨_, _, hm⟩⟩ := HSK.out
      case inr => omega
      simp only [Value.slice.injEq] at he
      obtain ⟨rfl, _, rfl⟩ := he
      have hlg : k < gs.length := by rw [← HN.out]; exact hlt
      obtain ⟨r1, r2, r3⟩ := rs_at gs k hlg
      have hs18 : (gs.getD k ⟨0, 0, 0⟩).s ≤ 18 := HOK.out _ (by rw [List.getD_eq_getElem?_getD, List.getElem?_eq_getElem hlg]; exact List.getElem_mem _)
      have htk : (gs.take (k + 1)).map (·.s) = (gs.take k).map (·.s) ++ [(gs.getD k ⟨0, 0, 0⟩).s] := by
        rw [show gs.getD k ⟨0, 0, 0⟩ = gs[k] by simp [List.getD_eq_getElem?_getD, List.getElem?_eq_getElem hlg], List.take_succ_eq_append_getElem hlg, List.map_append, List.map_cons, List.map_nil]
      obtain ⟨⟨s, x, m⟩, hg⟩ : ∃ g, g = gs.getD k ⟨0, 0, 0⟩ := ⟨_, rfl⟩
      rw [← hg] at r1 r2 r3 hs18 htk
      simp only at r1 r2 r3 hs18 htk
      have hgr : gr < O := by rw [HWO.out]; exact block_lt_of_cell (hrow3 _ _ r1)
      have hne : ¬ gr = O := by omega
      have c0 := how.cell (HWD.out.cell (hrow3 _ _ r1) (fun h => h)) hne
      have c1' := how.cell (HWD.out.cell (hrow3 _ _ r2) (fun h => h)) hne
      have c2' := how.cell (HWD.out.cell (hrow3 _ _ r3) (fun h => h)) hne
      rw [← Nat.add_assoc] at c1' c2'
      obtain ⟨y, hy⟩ : ∃ y, y = (cnt ((gs.take k).map (·.s)) 19).getD s 0 := ⟨_, rfl⟩
      have hyb : 0 ≤ y ∧ y ≤ 316 := by
        have h1 := List.count_le_length (a := s) (l := (gs.take k).map (·.s))
        have h2 : ((gs.take k).map (·.s)).length ≤ k := by rw [List.length_map, List.length_take]; exact Nat.min_le_left _ _
        have h3 := Nat.le_trans h1 h2
        rw [hy, cnt_getD _ _ _ (by omega)]
        omega
      have HHY := Lib.hid hy
      have HTK := Lib.hid htk
      have HRO2 := Lib.hid hro
      have HOW2 := Lib.hid how
      have hs19 : (s : Int) < 19 := by omega
      clear hg hy htk hro how r1 r2 r3 hrow3 hlg hlt
      go_upto_region 9 with fail
      obtain ⟨w2, hw2⟩ : ∃ w2, w2 = wr.alloc (.cells #[.int .i64 (s : Int), .int .i64 (x : Int), .int .i64 (m : Int)] 101 (0, 0)) := ⟨_, rfl⟩
      rw [← hw2]
      have hw3 : OnlyS (fun _ => False) wr w2 := by rw [hw2]; exact OnlyS.alloc _ _
      have hr3 : w2.heap[wr.heap.size]? = some (.cells #[.int .i64 (s : Int), .int .i64 (x : Int), .int .i64 (m : Int)] 101 (0, 0)) := by rw [hw2]; exact heap_alloc_new _ _
      obtain ⟨z0, z1, z2, _, _, _⟩ := row3 hr3
      have hro3 := (hw3.block O (Array.getElem?_eq_some_iff.1 HRO2.out).1 (fun h => h)).trans HRO2.out
      have co : w2.cell? ⟨O, s, none⟩ = some (.int .i64 y) := by
        rw [cell_of_row _ _ _ _ _ _ hro3, List.getElem?_toArray, ni_get _ _ (by rw [cnt_length]; omega), HHY.out]
      have fo : w2.frozen? ⟨O, s, none⟩ = false := frozen_of_row _ _ _ _ _ hro3
      have HRO3 := Lib.hid hro3
      have HW3 := Lib.hid hw3
      clear hw2 hw3 hr3 hro3 c0 c1' c2'
      go_wp2_with fail
      refine ⟨⟨k + 1, by omega, by go_num, ?_, ?_⟩, by simp only [intOf]; omega⟩
      · rw [heap_setCell_same _ _ _ _ _ _ HRO3.out, List.setIfInBounds_toArray, ni_set, HHY.out, cnt_more _ _ _ (by omega), ← HTK.out]
      · exact (HOW2.out.trans (HW3.out.mono (fun _ _ h => h.elim))).trans (OnlyS.setCell _ _ _ _ rfl)
    · obtain rfl : k = n := by omega
      rw [show gs.take k = gs by rw [HN.out]; exact List.take_length] at hro
      have hG4 := (how.block G (Array.getElem?_eq_some_iff.1 HR1.out).1 (fun e => by have := HGO.out; omega)).trans HR1.out
      have hsv : SlV wr (.slice (some ⟨O, 0, none⟩) 19 19) (ni (cnt (gs.map (·.s)) 19)) := .inl ⟨O, 0, 19, by rw [ni_length, cnt_length], by rw [ni_length, cnt_length]; exact Nat.le_refl _, fun i v hi => by
        rw [Nat.zero_add, cell_of_row _ _ _ _ _ _ hro, List.getElem?_toArray]; exact hi⟩
      have HF7 : Hid (Calls Tryd.prog 38 #[.slice (some ⟨O, 0, none⟩) 19 19, .int .i64 7] wr fun e w' => ∃ u, e = .returned u ∧ OnlyS (fun _ => False) wr w' ∧ wr.heap.size ≤ w'.heap.size ∧ w'.ownsRow wr.heap.size 3 1 u 19 (ni zf)) := Lib.hid (by
        have h2 := fitted_walk wr _ (cnt (gs.map (·.s)) 19) 7 hsv (cnt_ok _ 19 (by decide) (by rw [List.length_map, ← HN.out]; omega)) (by decide) (by decide) (Nat.le_trans (Df.syms_cnt _ 19) (by decide))
        rw [cnt_length, ← HF.out] at h2; exact h2)
      have HG4 := Lib.hid hG4
      have HOW2 := Lib.hid how
      clear hro hG4 hsv how
      go_upto_region 11 with fail
      go_wp2_with (go_at_call 38; refine HF7.out.mono ?_; rintro e w2 ⟨u4, rfl, ho4, hz4, hown4⟩; obtain ⟨p4, c4, rfl⟩ := own_shape hown4; have hr4 := (ho4.block G (Array.getElem?_eq_some_iff.1 HG4.out).1 (fun h => h)).trans HG4.out; obtain ⟨_, _, _, y3, y4, _, _, _, g3, g4⟩ := row5 hr4)
      obtain ⟨w3, hw3⟩ : ∃ w3, w3 = (w2.setCell ⟨G, 3, none⟩ (.slice p4 19 c4)).setCell ⟨G, 4, none⟩ (.int .i64 19) := ⟨_, rfl⟩
      have hs3 : OnlyS (fun i => i = G) w2 w3 := by rw [hw3]; exact (OnlyS.setCell (S := fun i => i = G) _ _ _ _ rfl).trans (OnlyS.setCell (S := fun i => i = G) _ _ _ _ rfl)
      have hr5 : w3.heap[G]? = some (.cells #[.slice p1 la c1, .slice p2 lb c2, .slice p3 k c3, .slice p4 19 c4, .int .i64 (19 : Nat)] 95 (0, 0)) := by rw [hw3]; exact heap_setCell_same _ _ _ _ _ _ (heap_setCell_same _ _ _ _ _ _ hr4)
      rw [← hw3]
      have hzG : wz.heap.size ≤ G := by rw [HGZ.out]; exact Nat.le_refl _
      have hOG := HGO.out
      have hz3 : OnlyS (fun _ => False) wz w3 := ((HO3.out.trans' HOW2.out (fun i hi => .inr (by omega))).trans ho4).trans' hs3 (fun i hi => .inr (by omega))
      have hGr : G < wr.heap.size := (Array.getElem?_eq_some_iff.1 HG4.out).1
      have hv4 := own_staysK hown4 (fun j hj => hs3.block j (hown4.lt j hj).2 (fun e => by have := (hown4.lt j hj).1; omega))
      have hv3 := own_staysK HOWN.out (fun j hj => (((HWD.out.mono (T := fun i => i = G ∨ i = O) (fun _ _ h => h.elim)).trans (HOW2.out.mono (fun _ _ h => .inr h))).trans ((ho4.mono (fun _ _ h => h.elim)).trans (hs3.mono (fun _ _ h => .inl h)))).block j (HOWN.out.lt j hj).2 (fun e => by
        have h1 := (HOWN.out.lt j hj).1
        have h2 := (HOWN.out.lt j hj).2
        have h3 := HGB.out
        have h4 := HWO.out
        rcases e with e | e <;> omega))
      have hf19 : zf.length = 19 := by have := (own_toV hv4).len; rwa [ni_length] at this
      have hw03 := HOW.out.trans hz3
      have HV3 := Lib.hid hv3
      have HV4 := Lib.hid hv4
      have HW03 := Lib.hid hw03
      have HZ3 := Lib.hid hz3
      have HR5 := Lib.hid hr5
      have HF19 := Lib.hid hf19
      have HZG := Lib.hid hzG
      have HGR := Lib.hid hGr
      clear hw3 hs3 hr5 hzG hOG hz3 hGr hv4 hv3 hf19 hw03 hr4 ho4 hz4 hown4 y3 y4 g3 g4 HG4 HF7 HOW2 HRO HSK HWD HR1 HO3
      have HFIN : Hid (∀ (wx : World) (c : Nat), c = Df.toldN zf 19 → wx.heap[G]? = some (.cells #[.slice p1 la c1, .slice p2 lb c2, .slice p3 k c3, .slice p4 19 c4, .int .i64 (c : Int)] 95 (0, 0)) → OnlyS (fun i => i = G) w3 wx → ∃ G' va vb vr vt, Ending.returned (.pointer (some ⟨G, 0, none⟩)) = Ending.returned (.pointer (some ⟨G', 0, none⟩)) ∧ OnlyS (fun _ => False) w wx ∧ w.heap.size ≤ G' ∧
          wx.heap[G']? = some (.cells #[va, vb, vr, vt, .int .i64 (Df.toldN zf 19 : Int)] 95 (0, 0)) ∧ SlV wx va (ni za) ∧ SlV wx vb (ni zb) ∧ SlK 3 wx vr gs.length (rs gs) ∧ SlV wx vt (ni zf) ∧ Far4 w.heap.size va vb vr vt) := Lib.hid (fun wx c hc hr ho => by
        have h1 := HZG.out
        have h2 := HOW.out.size
        have hz := HZ3.out.trans' ho (fun i hi => .inr (by omega))
        refine ⟨G, _, _, _, _, rfl, HW03.out.trans' ho (fun i hi => .inr (by omega)), by omega, by rw [← hc]; exact hr, HTA.out.only hz (fun _ _ _ _ _ h => h), HTB.out.only hz (fun _ _ _ _ _ h => h), ?_, ?_, ?_⟩
        · have h := own_toK (own_staysK HV3.out (fun j hj => ho.block j (HV3.out.lt j hj).2 (fun e => by have h3 := (HV3.out.lt j hj).1; have h4 := HGB.out; omega))) (by rw [rs_length, HN.out])
          rw [← HN.out]; exact h
        · exact own_toV (own_staysK HV4.out (fun j hj => ho.block j (HV4.out.lt j hj).2 (fun e => by have h3 := (HV4.out.lt j hj).1; have h4 := HGR.out; omega)))
        · intro v hv p m c e
          rcases hv with rfl | rfl | rfl | rfl
          · cases e; exact HFR.out.1 p rfl
          · cases e; exact HFR.out.2 p rfl
          · cases e
            have h5 := (HV3.out.lt p.block rfl).1
            have h6 := HGB.out
            omega
          · cases e
            have h5 := (HV4.out.lt p.block rfl).1
            have h6 := HGR.out
            omega)
      go_loopw [] (fun wx => ∃ c : Nat, 4 ≤ c ∧ c ≤ 19 ∧ wx.heap[G]? = some (.cells #[.slice p1 la c1, .slice p2 lb c2, .slice p3 k c3, .slice p4 19 c4, .int .i64 (c : Int)] 95 (0, 0)) ∧ Df.toldN zf c = Df.toldN zf 19 ∧ OnlyS (fun i => i = G) w3 wx) (fun wx => match wx.cell? ⟨G, 4, none⟩ with | some (.int _ n) => n.toNat | _ => 0)
      case atStart => exact ⟨19, by decide, Nat.le_refl _, HR5.out, rfl, OnlyS.refl _ _⟩
      case round =>
        obtain ⟨c, h4c, hc19, hrc, htc, hoc⟩ := hrel
        obtain ⟨y0, y1, y2, y3, y4, g0, g1, g2, g3, g4⟩ := row5 hrc
        have HRC := Lib.hid hrc
        have HOC := Lib.hid hoc
        have HTC := Lib.hid htc
        by_cases hgt : 4 < c
        · obtain ⟨q, hq⟩ : ∃ q, c = q + 1 := ⟨c - 1, by omega⟩
          have hcq : (c : Int) - 1 = (q : Int) := by omega
          have hwq : IntKind.i64.wrap (q : Int) = (q : Int) := IntWalk.i64_in _ (by omega)
          have hq0 : (0 : Int) ≤ (q : Int) := by omega
          have hq19 : (q : Int) < 19 := by omega
          have hqn : q < 19 := by omega
          have hgl : ¬ 2 = G := by
            have h1 := block_lt_of_cell (HORD.out q hqn)
            have h2 := HOW.out.size
            have h3 := HZG.out
            simp only at h1
            omega
          have co := hoc.cell (HW03.out.cell (HORD.out q hqn) (fun h => h)) hgl
          have he19 := ord_lt q hqn
          obtain ⟨e, he⟩ : ∃ e, e = Inf.order.getD q 0 := ⟨_, rfl⟩
          rw [← he] at co he19
          obtain ⟨g4', o4, rfl, hrow4⟩ := (own_toV HV4.out).some (by decide)
          have hne4 : ¬ g4' = G := by
            have h1 := (HV4.out.lt g4' rfl).1
            have h2 := HGR.out
            omega
          have ce := hoc.cell (hrow4.ni e (by rw [HF19.out]; exact he19)) hne4
          have hle4 := (own_toV HV4.out).le
          obtain ⟨z, hz⟩ : ∃ z, z = zf.getD e 0 := ⟨_, rfl⟩
          rw [← hz] at ce
          have hei : (e : Int) < 19 := by omega
          have he0 : (0 : Int) ≤ (e : Int) := by omega
          have hgti : (4 : Int) < (c : Int) := by omega
          have HST : Hid (Df.toldN zf c = if z = 0 then Df.toldN zf q else c) := Lib.hid (by
            rw [hq, Df.toldN, ← he, ← hz]
            by_cases h0 : z = 0
            · rw [if_pos ⟨by omega, h0⟩, if_pos h0]
            · rw [if_neg (fun h => h0 h.2), if_neg h0])
          have HQ := Lib.hid hq
          clear hq hz he hrow4 hrc hoc htc hle4 y0 y1 y2 g0 g1 g2 g3
          by_cases h0 : z = 0
          · subst h0
            go_upto_region 13 with fail
            go_quiet (fail)
            have HRD : Hid ((wr.drewN nq).heap[G]? = some (.cells #[.slice p1 la c1, .slice p2 lb c2, .slice p3 k c3, .slice (some ⟨g4', o4, none⟩) 19 c4, .int .i64 (c : Int)] 95 (0, 0))) := Lib.hid HRC.out
            have HOD : Hid (OnlyS (fun i => i = G) w3 (wr.drewN nq)) := Lib.hid ⟨HOC.out.os, HOC.out.tape, HOC.out.output, HOC.out.size, HOC.out.block⟩
            have HY4 := Lib.hid y4
            obtain ⟨_, _, _, _, z4, _, _, _, _, h4⟩ := row5 HRD.out
            clear y3 y4 g4 co ce
            go_wp2_with fail
            refine ⟨⟨q, by omega, by omega, heap_setCell_same _ _ _ _ _ _ HRD.out, ?_, HOD.out.trans (OnlyS.setCell (S := fun i => i = G) _ _ _ _ rfl)⟩, ?_⟩
            · rw [← HTC.out, HST.out, if_pos rfl]
            · have q4 := (row5 (w := (wr.drewN nq).setCell ⟨G, 4, none⟩ (.int .i64 (q : Int))) (x4 := .int .i64 (q : Int)) (heap_setCell_same _ _ _ _ _ _ HRD.out)).2.2.2.2.1
              rw [q4, HY4.out]
              simp only [Int.toNat_natCast]
              have := HQ.out
              omega
          · go_upto_region 13 with fail
            go_quiet (fail)
            go_wp2_with fail
            go_ret
            exact HFIN.out _ c (by rw [← HTC.out, HST.out, if_neg h0]) HRC.out ⟨HOC.out.os, HOC.out.tape, HOC.out.output, HOC.out.size, HOC.out.block⟩
        · have hgd : decide ((4 : Int) < (c : Int)) = false := decide_eq_false (by omega)
          have hc4 : c = 4 := by omega
          have HC4 : Hid (c = Df.toldN zf 19) := Lib.hid (by rw [← HTC.out, hc4, Df.toldN, if_neg (by omega)])
          clear hc4
          go_upto_region 13 with fail
          go_quiet (fail)
          go_wp2_with fail
          go_ret
          exact HFIN.out _ c HC4.out HRC.out ⟨HOC.out.os, HOC.out.tape, HOC.out.output, HOC.out.size, HOC.out.block⟩
end Go.Proofs.YtphdcgioeokfbaaDoor
