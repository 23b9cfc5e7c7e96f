/-
  The document's own answers: Clean.
-/
import Derived.Test.YtgdnemjlmhmhhaaDoorHre
namespace Go.Proofs.YtgdnemjlmhmhhaaDoor
open Go.RowKit Go.Maps

def weight (l : List (List UInt8)) : Nat := (l.map fun x => x.length + 1).sum
theorem weight_filter (f : List UInt8 → Bool) (l : List (List UInt8)) : weight (l.filter f) ≤ weight l := by
  induction l with
  | nil => exact Nat.le_refl _
  | cons a r ih =>
    unfold weight at *
    rw [List.filter_cons]
    split <;> simp <;> omega
theorem glue_weight : ∀ l : List (List UInt8), l ≠ [] → (Pt.glue l).length + 1 = weight l
  | [], h => absurd rfl h
  | [a], _ => by simp [Pt.glue, weight]
  | a :: b :: r, _ => by
    have := glue_weight (b :: r) (by simp)
    show (a ++ 47 :: Pt.glue (b :: r)).length + 1 = _
    unfold weight at *
    rw [List.map_cons, List.sum_cons, ← this]
    simp; omega
theorem glue_parts (p : List UInt8) : Pt.glue (Pt.parts p) = p := by
  induction p with
  | nil => rfl
  | cons x t ih =>
    rw [parts_cons]
    have hne := parts_ne t
    by_cases hx : x = 47
    · rw [if_pos hx]
      cases hp : Pt.parts t with
      | nil => exact absurd hp hne
      | cons a r =>
        show [] ++ 47 :: Pt.glue (a :: r) = _
        rw [← hp, ih, hx]; rfl
    · rw [if_neg hx]
      cases hp : Pt.parts t with
      | nil => exact absurd hp hne
      | cons a r =>
        rw [hp] at ih
        cases r with
        | nil => show x :: a = _; have : a = t := ih; rw [this]
        | cons b r => show x :: (a ++ 47 :: Pt.glue (b :: r)) = _; have : a ++ 47 :: Pt.glue (b :: r) = t := ih; rw [this]
theorem kept_len (raw : List UInt8) : (Pt.join (Pt.kept (Pt.parts raw))).length ≤ raw.length := by
  rw [join_kept]
  by_cases h : Pt.kept (Pt.parts raw) = []
  · rw [h]; exact Nat.zero_le _
  · have h1 := glue_weight _ h
    have h2 := weight_filter (fun a => a != [] && a != [46]) (Pt.parts raw)
    have h3 := glue_weight _ (parts_ne raw)
    rw [glue_parts] at h3
    unfold Pt.kept at *
    omega
theorem kept_split (raw : List UInt8) : Pt.kept (Pt.split raw) = Pt.kept (Pt.parts raw) ∧ (Pt.split raw).contains [46, 46] = (Pt.parts raw).contains [46, 46] := by
  unfold Pt.split
  split
  · rename_i h; rw [h]; exact ⟨rfl, rfl⟩
  · exact ⟨rfl, rfl⟩
theorem kept_succ (l : List (List UInt8)) (k : Nat) (hk : k < l.length) : Pt.kept (l.take (k + 1)) = if l.getD k [] = [] ∨ l.getD k [] = [46] then Pt.kept (l.take k) else Pt.kept (l.take k) ++ [l.getD k []] := by
  have e : l.getD k [] = l[k] := by simp [hk]
  rw [List.take_succ_eq_append_getElem hk, e]
  unfold Pt.kept
  rw [List.filter_append]
  by_cases h : l[k] = [] ∨ l[k] = [46]
  · rw [if_pos h]
    rcases h with h | h <;> (rw [h]; simp)
  · rw [if_neg h]
    rw [not_or] at h
    have : (l[k] != [] && l[k] != [46]) = true := by simpa using h
    simp [this]
def bigs (l : List (List UInt8)) : Bool := l.any (fun a => decide (255 < a.length))
theorem bigs_snoc (l : List (List UInt8)) (x : List UInt8) : bigs (l ++ [x]) = (bigs l || decide (255 < x.length)) := by
  unfold bigs; rw [List.any_append]; simp
theorem cleanE_end {raw : List UInt8} (h0 : raw.contains 0 = false) (hp : [47].isPrefixOf raw = false) (hd : (Pt.split raw).contains [46, 46] = false) :
    Pt.cleanE raw = (if (bigs (Pt.kept (Pt.split raw)) || decide (255 < (Pt.kept (Pt.split raw)).length) || decide (4096 < (Pt.join (Pt.kept (Pt.split raw))).length)) = true then 3 else 0) ∧
    Pt.cleanP raw = (if (bigs (Pt.kept (Pt.split raw)) || decide (255 < (Pt.kept (Pt.split raw)).length) || decide (4096 < (Pt.join (Pt.kept (Pt.split raw))).length)) = true then [] else Pt.join (Pt.kept (Pt.split raw))) := by
  rw [(kept_split raw).2] at hd
  rw [(kept_split raw).1, join_kept]
  have key : Pt.cleanE raw = (if (bigs (Pt.kept (Pt.parts raw)) || decide (255 < (Pt.kept (Pt.parts raw)).length) || decide (4096 < (Pt.glue (Pt.kept (Pt.parts raw))).length)) = true then 3 else 0) := by
    unfold Pt.cleanE
    rw [h0, hp, hd, if_neg (by decide)]
    rfl
  refine ⟨key, ?_⟩
  unfold Pt.cleanP
  rw [key]
  cases (bigs (Pt.kept (Pt.parts raw)) || decide (255 < (Pt.kept (Pt.parts raw)).length) || decide (4096 < (Pt.glue (Pt.kept (Pt.parts raw))).length)) <;> rfl
theorem kept_le (l : List (List UInt8)) (k : Nat) : (Pt.kept (l.take k)).length ≤ k := by
  unfold Pt.kept
  have h1 := List.length_filter_le (fun a : List UInt8 => a != [] && a != [46]) (l.take k)
  rw [List.length_take] at h1
  omega
def RCPost (raw : List UInt8) (w : World) (e : Ending) (w' : World) : Prop := e = .returned (.tuple #[.string (sb (Pt.cleanP raw)), .int .i64 (Pt.cleanE raw)]) ∧ Below w.heap.size w w'
set_option maxRecDepth 100000 in
set_option maxHeartbeats 8000000 in
theorem rclean_walk (raw : List UInt8) (hr : raw.length ≤ 50000) (w : World) : Calls Tryd.prog 9 #[.string (sb raw)] w (RCPost raw w) := by
  unfold RCPost
  have hsz : (sb raw).size = raw.length := sb_size raw
  have HIX : Hid (∀ k, k < raw.length → ∀ w, _) := Lib.hid (fun k hk w => sidx raw k hk w)
  have HS := Lib.hid (rsplit_walk raw (by omega) w)
  unfold SlPost at HS
  have HP : Hid (∀ w, _) := Lib.hid (fun w => begins_walk raw [47] (by omega) (by decide) w)
  have hml := split_mem raw
  have hsl := split_len raw
  have hkl := kept_len raw
  rw [← (kept_split raw).1] at hkl
  have HEND := Lib.hid (@cleanE_end raw)
  have HBAD := Lib.hid (@clean_bad raw)
  have HDOT := Lib.hid (@clean_dots raw)
  rw [← (kept_split raw).2] at HDOT
  obtain ⟨L, hL⟩ : ∃ L, Pt.split raw = L := ⟨_, rfl⟩
  rw [hL] at HS hml hsl hkl HEND HDOT
  obtain ⟨M, hM⟩ : ∃ M, L.length = M := ⟨_, rfl⟩
  have HM := Lib.hid hM
  rw [hM] at hsl
  obtain ⟨N, hN⟩ : ∃ N, raw.length = N := ⟨_, rfl⟩
  have HN := Lib.hid hN
  rw [hN] at hr hsz HIX hsl hml hkl
  have HML := Lib.hid hml
  have HKL := Lib.hid hkl
  have HPC : Hid (∀ w, Calls Tryd.prog 40 #[.string (sb raw), .string ⟨#[47]⟩] w fun e w' => e = .returned (.bool ([47].isPrefixOf raw)) ∧ w' = w) := HP
  generalize sb raw = b at *
  have hbz : (b.size : Int) = (N : Int) := by omega
  obtain ⟨i0, hi, hz0, hz1, hz2⟩ := info_parts info9
  have HI0 := Lib.hid (And.intro hi (And.intro hz0 (And.intro hz1 hz2)))
  clear hM hN hL hsz hml hkl HP hi hz0 hz1 hz2
  go_enter Tryd.func9, Tryd.ntmps9
  go_wp2_with ((with_reducible refine HS.out.mono ?_); rintro e w1 ⟨v, rfl, hv, hb⟩; obtain ⟨pp, cap, rfl⟩ := hv.shape; have hnn := HM.out; rw [sl_length, hnn] at hv ⊢; clear hnn; have HV := Lib.hid hv; have HB := Lib.hid hb; clear hv hb)
  go_loopw [5] (fun v5 wr => ∃ k : Nat, k ≤ N ∧ v5 = .int .i64 (k : Int) ∧ (raw.take k).contains 0 = false ∧ w1 = wr) (fun v5 _ => N - (intOf v5).toNat)
  case atStart => exact ⟨0, Nat.zero_le _, rfl, rfl, rfl⟩
  case round =>
    obtain ⟨k, hk, rfl, hal, rfl⟩ := hrel
    have HA := Lib.hid hal
    clear hal
    by_cases hkN : k < N
    · have hix := HIX.out k hkN
      have hkl : k < raw.length := by rw [HN.out]; exact hkN
      have hkI : (k : Int) < (N : Int) := by omega
      have ek : raw.getD k 0 = raw[k] := by simp [hkl]
      have HT : Hid ((raw.take (k + 1)).contains 0 = (0 == raw.getD k 0)) := Lib.hid (by
        rw [List.take_succ_eq_append_getElem hkl, List.contains_append, HA.out, ek]
        simp only [List.contains_cons, List.contains_nil, Bool.or_false, Bool.false_or])
      have HF : Hid (raw.getD k 0 = 0 → raw.contains 0 = true) := Lib.hid (fun h => by
        rw [List.contains_iff_mem, ← h, ek]; exact List.getElem_mem hkl)
      have h00 := @bi_inj (raw.getD k 0) 0
      rw [show bi 0 = 0 from rfl] at h00
      by_cases h0 : raw.getD k 0 = 0
      · have hb0 : bi (raw.getD k 0) = 0 := h00.2 h0
        rw [hb0] at hix
        have HR := Lib.hid (HBAD.out (by rw [HF.out h0]; rfl))
        clear h00 hb0 h0 hkl ek HT HF
        go_wp2_with fail
        go_ret2
        exact ⟨by rw [HR.out.1, HR.out.2]; rfl, HB.out⟩
      · have hb0 : (bi (raw.getD k 0) == 0) = false := beq_eq_false_iff_ne.2 (fun e => h0 (h00.1 e))
        have HT2 : Hid ((raw.take (k + 1)).contains 0 = false) := Lib.hid (by rw [HT.out, beq_eq_false_iff_ne]; exact fun e => h0 e.symm)
        generalize bi (raw.getD k 0) = bx at *
        clear h00 h0 hkl ek HT HF
        go_wp2_with fail
        go_roundw
        case rel => exact ⟨k + 1, by omega, by go_num, HT2.out, trivial⟩
        case measure => simp [intOf] <;> omega
    · obtain rfl : k = N := by omega
      have hz : decide ((k : Int) < (k : Int)) = false := decide_eq_false (by omega)
      have hno := HA.out
      rw [List.take_of_length_le (by rw [HN.out]; exact Nat.le_refl _)] at hno
      have HNO := Lib.hid hno
      clear hno
      cases hpre : [47].isPrefixOf raw
      · rw [hpre] at HPC
        have HEND2 := Lib.hid (HEND.out HNO.out hpre)
        clear hpre
        go_wp2_with ((with_reducible refine (HPC.out _).mono ?_); rintro e w2 ⟨rfl, hw⟩; rw [hw]; clear hw)
        go_loopw [6, 7, 8] (fun v6 v7 v8 wr => ∃ k : Nat, k ≤ M ∧ v8 = .int .i64 (k : Int) ∧ v7 = .bool (bigs (Pt.kept (L.take k))) ∧ (L.take k).contains [46, 46] = false ∧ (∃ pv cv, v6 = .slice pv (Pt.kept (L.take k)).length cv) ∧ wr.ownsRow w1.heap.size 9 1 v6 (Pt.kept (L.take k)).length (sl (Pt.kept (L.take k))) ∧ Below w1.heap.size w1 wr) (fun _ _ v8 _ => M - (intOf v8).toNat)
        case atStart => exact ⟨0, Nat.zero_le _, rfl, rfl, rfl, ⟨_, _, rfl⟩, World.ownsRow_nil _ _ _ _, Below.refl _ _⟩
        case round =>
          obtain ⟨k2, hk2, rfl, rfl, hdot, ⟨pv, cv, rfl⟩, hO, hB2⟩ := hrel
          have HD := Lib.hid hdot
          have HO := Lib.hid hO
          have HB2 := Lib.hid hB2
          have hle : w1.heap.size ≤ wr.heap.size := hB2.size
          have hkl2 := kept_le L k2
          clear hdot hO hB2
          by_cases hkM : k2 < M
          · obtain ⟨g, o, rfl, hrow⟩ := HV.out.some (by omega)
            have hlk : k2 < L.length := by rw [HM.out]; exact hkM
            have HC0 := Lib.hid (hrow.sl k2 hlk)
            have hcell := HB2.out.cell (p := ⟨g, o + k2, none⟩) (block_lt_of_cell (hrow.sl k2 hlk))
            rw [hrow.sl k2 hlk] at hcell
            have hcap := HV.out.le
            have hkI : (k2 : Int) < (M : Int) := by omega
            have hx2 : ((sb (L.getD k2 [])).toList == [46, 46]) = (L.getD k2 [] == [46, 46]) := by rw [sb_list]
            have hx1 : ((sb (L.getD k2 [])).toList == [46]) = (L.getD k2 [] == [46]) := by rw [sb_list]
            have hx0 : ((sb (L.getD k2 [])).toList == []) = (L.getD k2 [] == []) := by rw [sb_list]
            have hxs : ((sb (L.getD k2 [])).size : Int) = ((L.getD k2 []).length : Int) := by rw [sb_size]
            have HKS := Lib.hid (kept_succ L k2 hlk)
            have HHS := Lib.hid (has_succ L k2 hlk [46, 46])
            have HDD : Hid (L.getD k2 [] = [46, 46] → L.contains [46, 46] = true) := Lib.hid (fun h => by
              have ek : L.getD k2 [] = L[k2] := by simp [hlk]
              rw [List.contains_iff_mem, ← h, ek]; exact List.getElem_mem hlk)
            have HSX : ∀ x : List UInt8, Hid (sl [x] = [.string (sb x)]) := fun x => Lib.hid rfl
            have HX := HSX (L.getD k2 [])
            generalize L.getD k2 [] = x at *
            clear hrow hlk HSX
            by_cases c1 : x = [46, 46]
            · rw [show (x == [46, 46]) = true by rw [c1]; rfl] at hx2
              have HR := Lib.hid (HDOT.out (HDD.out c1))
              clear c1 hx1 hx0 hxs
              generalize sb x = bx at *
              go_wp2_with fail
              go_ret2
              exact ⟨by rw [HR.out.1, HR.out.2]; rfl, HB.out.trans (HB2.out.mono HB.out.size)⟩
            · rw [show (x == [46, 46]) = false by simpa using c1] at hx2
              have HD2 : Hid ((L.take (k2 + 1)).contains [46, 46] = false) := Lib.hid (by
                rw [HHS.out, HD.out, Bool.false_or, beq_eq_false_iff_ne]
                exact fun e => c1 e.symm)
              by_cases c2 : x = []
              · rw [show (x == []) = true by rw [c2]; rfl] at hx0
                have HQ := HKS.out
                rw [if_pos (.inl c2)] at HQ
                have HQ := Lib.hid HQ
                clear c1 c2 hx1 hxs HKS HHS
                generalize sb x = bx at *
                generalize hbg : bigs (Pt.kept (L.take k2)) = BG at *
                have HBG := Lib.hid hbg
                clear hbg
                go_wp2_with fail
                go_roundw
                case rel => exact ⟨k2 + 1, by omega, by go_num, by rw [HQ.out, HBG.out], HD2.out, ⟨_, _, by rw [HQ.out]⟩, by rw [HQ.out]; exact HO.out, HB2.out⟩
                case measure => simp [intOf] <;> omega
              · rw [show (x == []) = false by simpa using c2] at hx0
                by_cases c3 : x = [46]
                · rw [show (x == [46]) = true by rw [c3]; rfl] at hx1
                  have HQ := HKS.out
                  rw [if_pos (.inr c3)] at HQ
                  have HQ := Lib.hid HQ
                  clear c1 c2 c3 hxs HKS HHS
                  generalize sb x = bx at *
                  generalize hbg : bigs (Pt.kept (L.take k2)) = BG at *
                  have HBG := Lib.hid hbg
                  clear hbg
                  go_wp2_with fail
                  go_roundw
                  case rel => exact ⟨k2 + 1, by omega, by go_num, by rw [HQ.out, HBG.out], HD2.out, ⟨_, _, by rw [HQ.out]⟩, by rw [HQ.out]; exact HO.out, HB2.out⟩
                  case measure => simp [intOf] <;> omega
                · rw [show (x == [46]) = false by simpa using c3] at hx1
                  have HQ := HKS.out
                  rw [if_neg (by rw [not_or]; exact ⟨c2, c3⟩)] at HQ
                  have HQ := Lib.hid HQ
                  have HBS : Hid (bigs (Pt.kept (L.take (k2 + 1))) = (bigs (Pt.kept (L.take k2)) || decide (255 < x.length))) := Lib.hid (by rw [HQ.out, bigs_snoc])
                  have hdx : decide (255 < ((sb x).size : Int)) = decide (255 < x.length) := decide_eq_decide.2 (by omega)
                  generalize decide (255 < x.length) = DX at *
                  generalize bigs (Pt.kept (L.take k2)) = BG at *
                  clear c1 c2 c3 hxs HKS HHS
                  generalize sb x = bx at *
                  generalize hpk : (Pt.kept (L.take k2)).length = np at *
                  have HPK := Lib.hid hpk
                  clear hpk
                  cases BG
                  · go_wp2_with (refine wpList_appK 31 9 i0 (.string ByteArray.empty) 1 16 Tryd.underlying31 HI0.out.1 HI0.out.2.1 HI0.out.2.2.1 HI0.out.2.2.2 rfl (by decide) (by decide) rfl _ _ rfl w1.heap.size (.slice pv np cv) (.slice (some ⟨wr.heap.size, 0, none⟩) 1 1) np 1 _ [.string bx] rfl rfl (by intro y hy; simp at hy; subst hy; rfl) (HO.out.alloc _) (⟨rfl, .inl ⟨wr.heap.size, 0, 1, rfl, Nat.le_refl _, fun i v hi => by rw [Nat.zero_add]; exact (cell_of_row _ _ _ _ _ _ (heap_alloc_new wr _)).trans (by simpa using hi)⟩⟩) (by simp; omega) (by omega) ?_; intro v' w9 hown hgrow hat; obtain ⟨p9, cap9, hv'⟩ := own_shape hown; have hb9 := (HB2.out.alloc HB2.out.size _).grown hgrow (by simp; omega) (fun k e => (HO.out.lt k e).1); have hcell9 := hb9.cell (p := ⟨g, o + k2, none⟩) (block_lt_of_cell HC0.out); rw [HC0.out] at hcell9; have HB9 := Lib.hid hb9; have HOW := Lib.hid hown; clear hown hgrow hat hb9; subst hv')
                    go_roundw
                    case rel =>
                      refine ⟨k2 + 1, by omega, by go_num, by rw [HBS.out]; cases DX <;> rfl, HD2.out, ⟨p9, cap9, by rw [HQ.out, List.length_append, HPK.out]; rfl⟩, ?_, HB9.out⟩
                      rw [HQ.out, List.length_append, HPK.out, sl_append, HX.out]
                      exact HOW.out
                    case measure => simp [intOf] <;> omega
                  · go_wp2_with (refine wpList_appK 31 9 i0 (.string ByteArray.empty) 1 16 Tryd.underlying31 HI0.out.1 HI0.out.2.1 HI0.out.2.2.1 HI0.out.2.2.2 rfl (by decide) (by decide) rfl _ _ rfl w1.heap.size (.slice pv np cv) (.slice (some ⟨wr.heap.size, 0, none⟩) 1 1) np 1 _ [.string bx] rfl rfl (by intro y hy; simp at hy; subst hy; rfl) (HO.out.alloc _) (⟨rfl, .inl ⟨wr.heap.size, 0, 1, rfl, Nat.le_refl _, fun i v hi => by rw [Nat.zero_add]; exact (cell_of_row _ _ _ _ _ _ (heap_alloc_new wr _)).trans (by simpa using hi)⟩⟩) (by simp; omega) (by omega) ?_; intro v' w9 hown hgrow hat; obtain ⟨p9, cap9, hv'⟩ := own_shape hown; have hb9 := (HB2.out.alloc HB2.out.size _).grown hgrow (by simp; omega) (fun k e => (HO.out.lt k e).1); have hcell9 := hb9.cell (p := ⟨g, o + k2, none⟩) (block_lt_of_cell HC0.out); rw [HC0.out] at hcell9; have HB9 := Lib.hid hb9; have HOW := Lib.hid hown; clear hown hgrow hat hb9; subst hv')
                    go_roundw
                    case rel =>
                      refine ⟨k2 + 1, by omega, by go_num, by rw [HBS.out]; rfl, HD2.out, ⟨p9, cap9, by rw [HQ.out, List.length_append, HPK.out]; rfl⟩, ?_, HB9.out⟩
                      rw [HQ.out, List.length_append, HPK.out, sl_append, HX.out]
                      exact HOW.out
                    case measure => simp [intOf] <;> omega
          · obtain rfl : k2 = M := by omega
            have hz2 : decide ((k2 : Int) < (k2 : Int)) = false := decide_eq_false (by omega)
            have htk : L.take k2 = L := List.take_of_length_le (by rw [HM.out]; exact Nat.le_refl _)
            rw [htk] at HD HO
            have hkl3 : (Pt.kept L).length ≤ k2 := by have := kept_le L k2; rw [htk] at this; exact this
            rw [htk]
            obtain ⟨e1, e2⟩ := HEND2.out HD.out
            have HJ : Hid (∀ w9 : World, w9 = wr → Calls Tryd.prog 20 #[.slice pv (Pt.kept L).length cv] w9 fun e w' => e = .returned (.string (sb (Pt.join (Pt.kept L)))) ∧ w' = w9) := Lib.hid (fun w9 h9 => by
              subst h9
              refine rjoin_walk (Pt.kept L) (by omega) (by have := HKL.out; omega) (fun x hx => ?_) _ _ (own_toV HO.out)
              have h1 := HML.out x (List.mem_filter.1 hx).1
              omega)
            have HE := Lib.hid (And.intro e1 e2)
            have hd1 : decide (255 < ((Pt.kept L).length : Int)) = decide (255 < (Pt.kept L).length) := decide_eq_decide.2 (by omega)
            have hjs := sb_size (Pt.join (Pt.kept L))
            have hd2 : decide (4096 < ((sb (Pt.join (Pt.kept L))).size : Int)) = decide (4096 < (Pt.join (Pt.kept L)).length) := decide_eq_decide.2 (by omega)
            generalize decide (255 < (Pt.kept L).length) = D1 at *
            generalize decide (4096 < (Pt.join (Pt.kept L)).length) = D2 at *
            generalize bigs (Pt.kept L) = BG at *
            have HJZ := Lib.hid hjs
            generalize hbj : sb (Pt.join (Pt.kept L)) = bj at *
            have HBJ := Lib.hid hbj
            generalize (Pt.kept L).length = np at *
            have HFB := Lib.hid (HB.out.trans (HB2.out.mono HB.out.size))
            clear e1 e2 hjs hbj htk HO hkl3 hkl2
            cases BG
            · cases D1
              · cases D2
                · go_wp2_with ((with_reducible refine (HJ.out _ rfl).mono ?_); rintro e w2 ⟨rfl, hw⟩; rw [hw]; clear hw)
                  go_ret2
                  exact ⟨by rw [HE.out.1, HE.out.2, ← HBJ.out]; rfl, HFB.out⟩
                · go_wp2_with ((with_reducible refine (HJ.out _ rfl).mono ?_); rintro e w2 ⟨rfl, hw⟩; rw [hw]; clear hw)
                  go_ret2
                  exact ⟨by rw [HE.out.1, HE.out.2]; rfl, HFB.out⟩
              · go_wp2_with ((with_reducible refine (HJ.out _ rfl).mono ?_); rintro e w2 ⟨rfl, hw⟩; rw [hw]; clear hw)
                go_ret2
                exact ⟨by rw [HE.out.1, HE.out.2]; cases D2 <;> rfl, HFB.out⟩
            · go_wp2_with ((with_reducible refine (HJ.out _ rfl).mono ?_); rintro e w2 ⟨rfl, hw⟩; rw [hw]; clear hw)
              go_ret2
              exact ⟨by rw [HE.out.1, HE.out.2]; cases D1 <;> cases D2 <;> rfl, HFB.out⟩
      · rw [hpre] at HPC
        have HR := Lib.hid (HBAD.out (by rw [hpre, Bool.or_true]))
        clear hpre
        go_wp2_with ((with_reducible refine (HPC.out _).mono ?_); rintro e w2 ⟨rfl, hw⟩; rw [hw]; clear hw)
        go_ret2
        exact ⟨by rw [HR.out.1, HR.out.2]; rfl, HB.out⟩
end Go.Proofs.YtgdnemjlmhmhhaaDoor
