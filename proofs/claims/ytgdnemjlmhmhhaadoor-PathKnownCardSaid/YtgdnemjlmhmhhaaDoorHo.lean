/-
  Join: the names that are not empty, a slash between.
-/
import Derived.Test.YtgdnemjlmhmhhaaDoorHy
namespace Go.Proofs.YtgdnemjlmhmhhaaDoor
open Go.RowKit Go.Maps

theorem glue_join (l : List (List UInt8)) : Lib.join l [47] = Pt.glue l := by
  cases l with
  | nil => rfl
  | cons x r =>
    rw [Lib.join_cons]
    induction r generalizing x with
    | nil => simp [Lib.joinTail, Pt.glue]
    | cons y r ih =>
      show x ++ (([47] ++ y) ++ Lib.joinTail [47] r) = x ++ 47 :: Pt.glue (y :: r)
      rw [← ih y, List.append_assoc]; rfl
theorem sl_map (l : List (List UInt8)) : sl l = (l.map sb).map Value.string := by simp [sl]
theorem sjoin_walk (l : List (List UInt8)) (w : World) (g n c : Nat) (hn : l.length = n) (hc : ∀ i u, (sl l)[i]? = some u → w.cell? ⟨g, i, none⟩ = some u) (hg : g < w.heap.size) (hcap : n ≤ c) (hN : n ≤ 1000000) (hG : (Pt.glue l).length ≤ 140737488355328) :
    Calls Tryd.prog 47 #[.slice (some ⟨g, 0, none⟩) n c, .string ⟨#[47]⟩] w fun e w' => e = .returned (.string (sb (Pt.glue l))) ∧ Below w.heap.size w w' := by
  have hd : (l.map sb).map (fun x => x.data.toList) = l := by
    rw [List.map_map]
    conv => rhs; rw [← List.map_id l]
    rfl
  have := Any.strings_Join Tryd.laysJo Tryd.extraJo g 0 c (l.map sb) ⟨#[47]⟩ w (fun j x hx => by
      rw [Nat.zero_add]
      refine hc j _ ?_
      rw [sl_map, List.getElem?_map, hx]; rfl) hg (by rw [List.length_map]; omega) (by rw [List.length_map]; omega) (by
      rw [hd, show (⟨#[47]⟩ : ByteArray).data.toList = [47] from rfl, glue_join]; exact hG)
  rw [hd, show (⟨#[47]⟩ : ByteArray).data.toList = [47] from rfl, glue_join, List.length_map, hn] at this
  exact this
theorem made_texts (m : Nat) (hm : m ≤ 16777216) (w : World) : ∃ cur : Array Value, cur.size = m * 1 ∧ (Instr.makeSlice 31 (.int .i64 0) (.int .i64 (m : Int))).run Tryd.prog w = .ok (.slice (some ⟨w.heap.size, 0, none⟩) 0 m) (w.alloc (.cells cur 9)) := by
  obtain ⟨i0, hi, hz0, hz1, hz2⟩ := info_parts info9
  have hmk := run_makeSlice (P := Tryd.prog) w 31 9 i0 (.string ByteArray.empty) Tryd.underlying31 hi hz0 .i64 .i64 0 (m : Int) (Int.le_refl _) (by omega) (by rw [hz1]; simp only [Int.toNat_natCast]; omega) (by rw [hz2]; omega) (by omega)
  simp only [Int.toNat_natCast, Int.toNat_zero, hz1] at hmk
  exact ⟨_, by simp [madeCells], hmk⟩
theorem own_some {base : Nat} {e : TypeId} {w : World} {v : Value} {n : Nat} {l : List Value} (h : w.ownsRow base e 1 v n l) (hb : v.ownBlock ≠ none) : ∃ g cap, v = .slice (some ⟨g, 0, none⟩) n cap := by
  rcases h with ⟨_, ⟨h1, _⟩ | ⟨g, cap, cur, h1, _⟩⟩
  · rw [h1] at hb; simp [Value.ownBlock] at hb
  · exact ⟨g, cap, h1⟩
def JoinPost (l : List (List UInt8)) (w : World) (e : Ending) (w' : World) : Prop := e = .returned (.string (sb (Pt.join l))) ∧ Below w.heap.size w w'
theorem full_succ (l : List (List UInt8)) (k : Nat) (hk : k < l.length) : Pt.full (l.take (k + 1)) = if l.getD k [] = [] then Pt.full (l.take k) else Pt.full (l.take k) ++ [l.getD k []] := by
  unfold Pt.full
  rw [List.take_succ_eq_append_getElem hk, List.filter_append]
  have e : l.getD k [] = l[k] := by simp [hk]
  rw [e]
  by_cases h : l[k] = []
  · rw [if_pos h, h]; simp
  · rw [if_neg h]
    have : (l[k] != []) = true := by simpa using h
    simp [this]
theorem full_le (l : List (List UInt8)) (k : Nat) : (Pt.full (l.take k)).length ≤ k := by
  unfold Pt.full
  have h1 := List.length_filter_le (fun a : List UInt8 => a != []) (l.take k)
  rw [List.length_take] at h1
  omega
set_option maxHeartbeats 2000000 in
theorem join_walk (l : List (List UInt8)) (hl : l.length ≤ 1000000) (hG : (Pt.join l).length ≤ 140737488355328) (v : Value) (w : World) (hv : SlV w v (sl l)) : Calls Tryd.prog 19 #[v] w (JoinPost l w) := by
  obtain ⟨p, cap, rfl⟩ := hv.shape
  rw [sl_length] at *
  obtain ⟨N, hN⟩ : ∃ N, l.length = N := ⟨_, rfl⟩
  have HV := Lib.hid hv
  have HN := Lib.hid hN
  rw [hN] at hl HV ⊢
  obtain ⟨i0, hi, hz0, hz1, hz2⟩ := info_parts info9
  have HI0 := Lib.hid (And.intro hi (And.intro hz0 (And.intro hz1 hz2)))
  obtain ⟨cur, hcur, hmk⟩ := made_texts N (by omega) w
  have hO0 := World.ownsRow_made (e := 9) (size := 1) w cur N (Nat.le_refl _) (by unfold maxLen; omega) hcur
  have HO0 := Lib.hid hO0
  have HB0 : Hid (Below w.heap.size w (w.alloc (.cells cur 9))) := Lib.hid ((Below.refl _ w).alloc (Nat.le_refl _) _)
  have HGL := Lib.hid hG
  generalize w.alloc (.cells cur 9) = w1 at *
  clear hv hN hi hz0 hz1 hz2 hcur hO0 hG
  unfold JoinPost
  go_enter Tryd.func19, Tryd.ntmps19
  go_wp2_with fail
  go_loopw [3, 11] (fun v3 v11 wr => ∃ k g3 cap3 : Nat, k ≤ N ∧ v11 = .int .i64 (k : Int) ∧ v3 = .slice (some ⟨g3, 0, none⟩) (Pt.full (l.take k)).length cap3 ∧ wr.ownsRow w.heap.size 9 1 (.slice (some ⟨g3, 0, none⟩) (Pt.full (l.take k)).length cap3) (Pt.full (l.take k)).length (sl (Pt.full (l.take k))) ∧ Below w.heap.size w wr) (fun _ v11 _ => N - (intOf v11).toNat)
  case atStart => exact ⟨0, _, _, Nat.zero_le _, rfl, rfl, HO0.out, HB0.out⟩
  case round =>
    obtain ⟨k, g3, cap3, hk, rfl, rfl, hO, hb⟩ := hrel
    have HB := Lib.hid hb
    have HO := Lib.hid hO
    clear hb hO
    have hfl := full_le l k
    by_cases hkN : k < N
    · have hkl : k < l.length := by rw [HN.out]; exact hkN
      obtain ⟨g, o, rfl, hrow⟩ := HV.out.some (by omega)
      have hcell := HB.out.cell (p := ⟨g, o + k, none⟩) (block_lt_of_cell (hrow.sl k hkl))
      rw [hrow.sl k hkl] at hcell
      have hkI : (k : Int) < (N : Int) := by omega
      have hemp : ((sb (l.getD k [])).toList == []) = (l.getD k [] == []) := by rw [sb_list]
      have HS := Lib.hid (full_succ l k hkl)
      clear hrow hkl
      obtain ⟨x, hx⟩ : ∃ x, l.getD k [] = x := ⟨_, rfl⟩
      rw [hx] at hcell hemp HS
      clear hx
      by_cases hx0 : x = []
      · rw [show (x == []) = true by rw [hx0]; rfl] at hemp
        have HS2 := HS.out
        rw [if_pos hx0] at HS2
        have HS2 := Lib.hid HS2
        clear HS hx0
        generalize sb x = b at *
        go_wp2_with fail
        go_roundw
        case rel => exact ⟨k + 1, g3, cap3, by omega, by go_num, by rw [HS2.out], by rw [HS2.out]; exact HO.out, HB.out⟩
        case measure => simp [intOf]; omega
      · rw [show (x == []) = false by simpa using hx0] at hemp
        have HS2 := HS.out
        rw [if_neg hx0] at HS2
        have HS2 := Lib.hid HS2
        clear HS hx0
        have hsx : sl [x] = [.string (sb x)] := rfl
        have HSX := Lib.hid hsx
        clear hsx
        generalize sb x = b at *
        generalize hpk : (Pt.full (l.take k)).length = np at *
        have HPK := Lib.hid hpk
        clear hpk
        go_wp2_with (refine wpList_appK 31 9 i0 (.string ByteArray.empty) 1 16 Tryd.underlying31 HI0.out.1 HI0.out.2.1 HI0.out.2.2.1 HI0.out.2.2.2 rfl (by decide) (by decide) rfl _ _ rfl w.heap.size (.slice (some ⟨g3, 0, none⟩) np cap3) (.slice (some ⟨wr.heap.size, 0, none⟩) 1 1) np 1 _ [.string b] rfl rfl (by intro y hy; simp at hy; subst hy; rfl) (HO.out.alloc _) (⟨rfl, .inl ⟨wr.heap.size, 0, 1, rfl, Nat.le_refl _, fun i v hi => by rw [Nat.zero_add]; exact (cell_of_row _ _ _ _ _ _ (heap_alloc_new wr _)).trans (by simpa using hi)⟩⟩) (by have := HB.out.size; simp; omega) (by omega) ?_; intro v' w9 hown hgrow hat; obtain ⟨g9, cap9, hv'⟩ := own_some hown (by rcases hat with h | h <;> rw [h] <;> simp [Value.ownBlock]); have HOW := Lib.hid hown; have HGR := Lib.hid hgrow; clear hown hgrow hat; subst hv')
        go_roundw
        case rel =>
          refine ⟨k + 1, g9, cap9, by omega, by go_num, by rw [HS2.out, List.length_append, HPK.out]; rfl, ?_, ((HB.out.alloc HB.out.size _).grown HGR.out (by have := HB.out.size; simp; omega) (fun k e => (HO.out.lt k e).1))⟩
          rw [HS2.out, List.length_append, HPK.out, sl_append, HSX.out]
          exact HOW.out
        case measure => simp [intOf]; omega
    · obtain rfl : k = N := by omega
      have hz : decide ((k : Int) < (k : Int)) = false := decide_eq_false (by omega)
      have htk : l.take k = l := List.take_of_length_le (by rw [HN.out]; exact Nat.le_refl _)
      rw [htk] at HO hfl ⊢
      obtain ⟨n, hn⟩ : ∃ n, (Pt.full l).length = n := ⟨_, rfl⟩
      have HC : Hid (Calls Tryd.prog 47 #[.slice (some ⟨g3, 0, none⟩) n cap3, .string ⟨#[47]⟩] wr fun e w' => e = .returned (.string (sb (Pt.join l))) ∧ Below wr.heap.size wr w') := Lib.hid (by
        have hsv := own_toV HO.out
        rw [hn] at hsv
        have hcap := hsv.le
        refine sjoin_walk (Pt.full l) wr g3 n cap3 hn ?_ ?_ hcap (by omega) HGL.out
        · intro i u hu
          rcases hsv with ⟨g', o', cap', he, _, hB⟩ | ⟨p', he, h0⟩
          · cases he
            have := hB i u hu
            rwa [Nat.zero_add] at this
          · rw [h0] at hu; simp at hu
        · exact (HO.out.lt g3 rfl).2)
      rw [hn] at HO ⊢
      clear hn htk
      go_wp2_with ((with_reducible refine HC.out.mono ?_); rintro e w2 ⟨rfl, hb2⟩; have HB2 := Lib.hid hb2; clear hb2)
      go_ret
      exact ⟨rfl, HB.out.trans (HB2.out.mono HB.out.size)⟩
end Go.Proofs.YtgdnemjlmhmhhaaDoor
