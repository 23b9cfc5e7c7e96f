/-
  The first records, cut short, as both packages' records: few.
-/
import Derived.Test.YtjgphicmkmdeiaaDoorPfa
import Derived.Test.YtjgphicmkmdeiaaDoorPta
import Derived.BigRegion
import Derived.Deep.RegionLaw
namespace Go.Proofs.YtjgphicmkmdeiaaDoor
open Go.RowKit Go.Maps Inv

/-- A record, cut short. -/
def cutR (r : Px.Rec) : Px.Rec := (r.1.take 260, r.2.take 1200)
def fewL (l : List Px.Rec) : List Px.Rec := (l.take 20).map cutR
/-- few's answer. -/
def FewPost (w : World) (l : List Px.Rec) (e : Ending) (w' : World) : Prop := ∃ a b, e = .returned (.tuple #[a, b]) ∧ OwnR w.heap.size 37 w' a (fewL l) ∧ OwnR w.heap.size 39 w' b (fewL l) ∧ Below w.heap.size w w'
theorem few_step (l : List Px.Rec) (j : Nat) (r : Px.Rec) (hr : l[j]? = some r) : (l.take (j + 1)).map cutR = (l.take j).map cutR ++ [cutR r] := by
  rw [List.take_add_one, hr, Option.toList_some, List.map_append]; rfl
theorem ext_min (s : ByteArray) (l : List UInt8) (hl : s.data.toList = l) (e : Nat) : s.extract 0 (min (s.size : Int) (e : Int)).toNat = ⟨(l.take e).toArray⟩ := by
  rw [← min_ext s l hl e, Int.min_comm]
set_option maxRecDepth 100000 in
set_option maxHeartbeats 8000000 in
theorem few_walk (w : World) (v : Value) (l : List Px.Rec) (hv : SlR w v l) (hl : l.length ≤ maxLen) (hz : ∀ r ∈ l, r.1.length ≤ maxLen ∧ r.2.length ≤ maxLen) :
    Calls Tryd.prog 10 #[v] w (FewPost w l) := by
  obtain ⟨p, cap, rfl⟩ := hv.shape
  have HV := Lib.hid hv
  have HZ := Lib.hid hz
  have hcap := hv.le
  unfold maxLen at hl
  obtain ⟨n, hn⟩ : ∃ n, l.length = n := ⟨_, rfl⟩
  rw [hn] at hcap hl ⊢
  have hnI : (n : Int) ≤ 9223372036854775807 := by omega
  have HN := Lib.hid hn
  obtain ⟨i1, hi, hz0, hz1, hz2⟩ := info_parts info37
  have HI1 := Lib.hid (And.intro hi (And.intro hz0 (And.intro hz1 hz2)))
  clear hi hz0 hz1 hz2
  obtain ⟨i2, hi, hz0, hz1, hz2⟩ := info_parts info39
  have HI2 := Lib.hid (And.intro hi (And.intro hz0 (And.intro hz1 hz2)))
  clear hi hz0 hz1 hz2 hv hz hn hl
  go_enter Tryd.func10, Tryd.ntmps10
  go_wp2_with fail
  go_loopw [4, 5, 6] (fun a b i wr => ∃ j : Nat, j ≤ n ∧ j ≤ 20 ∧ i = .int .i64 (j : Int) ∧ OwnR w.heap.size 37 wr a ((l.take j).map cutR) ∧ OwnR w.heap.size 39 wr b ((l.take j).map cutR) ∧ Below w.heap.size w wr) (fun _ _ i _ => 20 - (intOf i).toNat)
  case atStart => exact ⟨0, Nat.zero_le _, by omega, rfl, ⟨rfl, .inl ⟨rfl, rfl⟩⟩, ⟨rfl, .inl ⟨rfl, rfl⟩⟩, Below.refl _ _⟩
  case round =>
    obtain ⟨j, hj, hj20, rfl, hoa, hob, hb⟩ := hrel
    have HOA := Lib.hid hoa
    have HOB := Lib.hid hob
    have HB := Lib.hid hb
    obtain ⟨pa, ca, ha⟩ := own_shape hoa
    obtain ⟨pb, cb, hb'⟩ := own_shape hob
    subst ha hb'
    clear hoa hob hb
    by_cases hjn : j < n
    · by_cases h20 : j < 20
      · have hjl : j < l.length := by rw [HN.out]; exact hjn
        obtain ⟨r, hr⟩ : ∃ r, l[j]? = some r := ⟨_, List.getElem?_eq_getElem hjl⟩
        have HV2 := Lib.hid (HV.out.below HB.out (Nat.le_refl _))
        rw [HN.out] at HV2
        obtain ⟨g, o, rfl, hcap2, hcell⟩ := HV2.out.at (by omega)
        obtain ⟨e0, e1⟩ := hcell j r hr
        have hrm : r ∈ l := List.mem_of_getElem? hr
        have hrz := HZ.out r hrm
        unfold maxLen at hrz
        have HST := Lib.hid (few_step l j r hr)
        obtain ⟨k1, k2⟩ := r
        obtain ⟨b1, hb1⟩ : ∃ x, (⟨k1.toArray⟩ : ByteArray) = x := ⟨_, rfl⟩
        obtain ⟨b2, hb2⟩ : ∃ x, (⟨k2.toArray⟩ : ByteArray) = x := ⟨_, rfl⟩
        simp only at e0 e1 hrz
        rw [hb1] at e0
        rw [hb2] at e1
        have x1 : b1.extract 0 (min (b1.size : Int) 260).toNat = ⟨(k1.take 260).toArray⟩ := ext_min b1 k1 (by rw [← hb1]) 260
        have x2 : b2.extract 0 (min (b2.size : Int) 1200).toNat = ⟨(k2.take 1200).toArray⟩ := ext_min b2 k2 (by rw [← hb2]) 1200
        have z1 : (b1.size : Int) ≤ 9223372036854775807 := by rw [← hb1]; show ((k1.toArray.size : Nat) : Int) ≤ _; simp; omega
        have z2 : (b2.size : Int) ≤ 9223372036854775807 := by rw [← hb2]; show ((k2.toArray.size : Nat) : Int) ≤ _; simp; omega
        obtain ⟨c1, hc1⟩ : ∃ x, (⟨(k1.take 260).toArray⟩ : ByteArray) = x := ⟨_, rfl⟩
        obtain ⟨c2, hc2⟩ : ∃ x, (⟨(k2.take 1200).toArray⟩ : ByteArray) = x := ⟨_, rfl⟩
        rw [hc1] at x1
        rw [hc2] at x2
        have HNR : Hid (nr [cutR (k1, k2)] = [.string c1, .string c2]) := Lib.hid (by rw [← hc1, ← hc2]; rfl)
        have e0A : (wr.alloc (.cells #[.string ⟨#[]⟩, .string ⟨#[]⟩] 37)).drew.cell? ⟨g, o + j * 2, none⟩ = some (.string b1) := ((((Below.refl wr.heap.size wr).alloc (Nat.le_refl _) (.cells #[.string ⟨#[]⟩, .string ⟨#[]⟩] 37)).cell (p := ⟨g, o + j * 2, none⟩) (block_lt_of_cell e0)).trans e0)
        have e1A : (wr.alloc (.cells #[.string ⟨#[]⟩, .string ⟨#[]⟩] 37)).drew.cell? ⟨g, o + j * 2 + 1, none⟩ = some (.string b2) := ((((Below.refl wr.heap.size wr).alloc (Nat.le_refl _) (.cells #[.string ⟨#[]⟩, .string ⟨#[]⟩] 37)).cell (p := ⟨g, o + j * 2 + 1, none⟩) (block_lt_of_cell e1)).trans e1)
        have m1 : 0 ≤ min (b1.size : Int) 260 := by omega
        have m2 : min (b1.size : Int) 260 ≤ (b1.size : Int) := by omega
        have m3 : 0 ≤ min (b2.size : Int) 1200 := by omega
        have m4 : min (b2.size : Int) 1200 ≤ (b2.size : Int) := by omega
        have hjI : (j : Int) < (n : Int) := by omega
        have h20I : (j : Int) < 20 := by omega
        clear hr hcell hrm hrz HV2 hb1 hb2 hc1 hc2 hjl
        go_wp2_with fail
        go_region
        obtain ⟨la, hla⟩ : ∃ x, (l.take j).map cutR = x := ⟨_, rfl⟩
        rw [hla] at HOA HOB HST
        rw [hla]
        have hlj : la.length = j := by rw [← hla, List.length_map, List.length_take, HN.out]; omega
        have HLA : Hid (la.length + 1 ≤ 1099511627776) := Lib.hid (by omega)
        have HAP : Hid ((Value.slice pa la.length ca).ownBlock ≠ some wr.heap.size) := Lib.hid (fun he => by
          have := (HOA.out.lt _ he).2
          omega)
        have HBX : Hid ((wr.alloc (.cells #[.string c1, .string c2] 37)).drew.heap[wr.heap.size]? = some (.cells #[.string c1, .string c2] 37 (0, 0))) := Lib.hid (heap_alloc_new _ _)
        have HBA : Hid (Below w.heap.size w (wr.alloc (.cells #[.string c1, .string c2] 37)).drew) := Lib.hid (HB.out.alloc HB.out.size (.cells #[.string c1, .string c2] 37)).drew
        have HOA2 : Hid (OwnR w.heap.size 37 (wr.alloc (.cells #[.string c1, .string c2] 37)).drew (.slice pa la.length ca) la) := Lib.hid (own_staysK (own_allocK HOA.out _) (fun _ _ => rfl))
        have HOB2 : Hid (OwnR w.heap.size 39 (wr.alloc (.cells #[.string c1, .string c2] 37)).drew (.slice pb la.length cb) la) := Lib.hid (own_staysK (own_allocK HOB.out _) (fun _ _ => rfl))
        clear e0 e1 e0A e1A m1 m2 m3 m4 x1 x2 z1 z2
        have HJ := Lib.hid (And.intro hjn h20)
        clear hjn h20 hla hlj
        go_wp2_with fail
        refine few_region _ ?_ (wr.alloc (.cells #[.string c1, .string c2] 37)).drew w.heap.size wr.heap.size c1 c2 (.slice pa la.length ca) (.slice pb la.length cb) la la (cutR (k1, k2)) HNR.out ?_ ?_ ?_ HBX.out HOA2.out HOB2.out HAP.out HBA.out.size HLA.out HLA.out _ ?_
        · rfl
        · rfl
        · rfl
        · rfl
        intro p q va' vb' W ha hb2 hbl
        obtain ⟨p5, c5, hv5⟩ := own_shape ha
        obtain ⟨p6, c6, hv6⟩ := own_shape hb2
        subst hv5 hv6
        have HA9 := Lib.hid ha
        have HB9 := Lib.hid hb2
        have HL9 := Lib.hid (HBA.out.trans hbl)
        clear ha hb2 hbl
        simp only [putAll, Act.put, List.setIfInBounds_toArray, List.set_cons_zero, List.set_cons_succ]
        go_wp2_with fail
        refine ⟨⟨j + 1, HJ.out.1, HJ.out.2, by go_num, ?_, ?_, HL9.out⟩, ?_⟩
        · rw [HST.out]; exact HA9.out
        · rw [HST.out]; exact HB9.out
        · simp only [intOf]; have := HJ.out.2; omega
      · have h20I : decide ((j : Int) < 20) = false := decide_eq_false (by omega)
        have hjI : (j : Int) < (n : Int) := by omega
        have hj2 : j = 20 := by omega
        have HE : Hid ((l.take j).map cutR = fewL l) := Lib.hid (by rw [hj2]; rfl)
        rw [HE.out] at HOA HOB ⊢
        obtain ⟨fl, hfl⟩ : ∃ fl, fewL l = fl := ⟨_, rfl⟩
        rw [hfl] at HOA HOB ⊢
        have HF := Lib.hid hfl
        clear hfl HE
        clear hjn h20
        go_wp2_with fail
        go_ret2
        exact ⟨_, _, rfl, by rw [HF.out]; exact HOA.out, by rw [HF.out]; exact HOB.out, HB.out⟩
    · have hj2 : j = n := by omega
      have hjI : decide ((j : Int) < (n : Int)) = false := decide_eq_false (by omega)
      have HE : Hid ((l.take j).map cutR = fewL l) := Lib.hid (by unfold fewL; rw [List.take_of_length_le (by rw [HN.out]; omega), List.take_of_length_le (by rw [HN.out]; omega)])
      rw [HE.out] at HOA HOB ⊢
      obtain ⟨fl, hfl⟩ : ∃ fl, fewL l = fl := ⟨_, rfl⟩
      rw [hfl] at HOA HOB ⊢
      have HF := Lib.hid hfl
      clear hfl HE
      clear hjn
      go_wp2_with fail
      go_ret2
      exact ⟨_, _, rfl, by rw [HF.out]; exact HOA.out, by rw [HF.out]; exact HOB.out, HB.out⟩
end Go.Proofs.YtjgphicmkmdeiaaDoor
