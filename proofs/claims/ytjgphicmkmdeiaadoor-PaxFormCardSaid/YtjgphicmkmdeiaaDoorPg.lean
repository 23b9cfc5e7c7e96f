/-
  Get's closure: the next record; what stays to be read.
-/
import Derived.Test.YtjgphicmkmdeiaaDoorPr
import Derived.Test.YtjgphicmkmdeiaaDoorPo
namespace Go.Proofs.YtjgphicmkmdeiaaDoor
open Go.RowKit Go.Maps

/-- One value in a block of its own. -/
def BoxAt (w : World) (g : Nat) (x : Value) (T : TypeId) : Prop := w.heap[g]? = some (.cells #[x] T (0, 0))
theorem BoxAt.cell {w : World} {g : Nat} {x : Value} {T : TypeId} (h : BoxAt w g x T) : w.cell? ⟨g, 0, none⟩ = some x := cell_of_row _ _ _ _ _ _ h
theorem BoxAt.free {w : World} {g : Nat} {x : Value} {T : TypeId} (h : BoxAt w g x T) : w.frozen? ⟨g, 0, none⟩ = false := frozen_of_row _ _ _ _ _ h
theorem BoxAt.lt {w : World} {g : Nat} {x : Value} {T : TypeId} (h : BoxAt w g x T) : g < w.heap.size := (Array.getElem?_eq_some_iff.1 h).1
theorem BoxAt.later {w w' : World} {g : Nat} {x : Value} {T : TypeId} (h : BoxAt w g x T) {B : Nat} (hb : Below B w w') (hB : w.heap.size ≤ B) : BoxAt w' g x T := (hb.block g (Nat.lt_of_lt_of_le h.lt hB)).trans h
theorem BoxAt.set {w : World} {g : Nat} {x : Value} {T : TypeId} (h : BoxAt w g x T) (y : Value) : BoxAt (w.setCell ⟨g, 0, none⟩ y) g y T := (heap_setCell_same _ _ _ _ _ _ h).trans rfl
theorem BoxAt.new (w : World) (x : Value) (T : TypeId) : BoxAt (w.alloc (.cells #[x] T)) w.heap.size x T := heap_alloc_new _ _
/-- Only one block of those that were there is changed. -/
structure ButG (g : Nat) (w w' : World) : Prop where
  os : w'.os = w.os
  tape : w'.tape = w.tape
  output : w'.output = w.output
  size : w.heap.size ≤ w'.heap.size
  block : ∀ k, k < w.heap.size → k ≠ g → w'.heap[k]? = w.heap[k]?
theorem ButG.of {g : Nat} {w w' : World} (h : Below w.heap.size w w') : ButG g w w' := ⟨h.os, h.tape, h.output, h.size, fun k hk _ => h.block k hk⟩
theorem ButG.trans {g : Nat} {a b c : World} (h : ButG g a b) (k : ButG g b c) : ButG g a c :=
  ⟨k.os.trans h.os, k.tape.trans h.tape, k.output.trans h.output, Nat.le_trans h.size k.size, fun i hi hg => (k.block i (Nat.lt_of_lt_of_le hi h.size) hg).trans (h.block i hi hg)⟩
theorem ButG.below {g B : Nat} {w w' : World} (h : ButG g w w') (hg : B ≤ g) (hB : B ≤ w.heap.size) : Below B w w' :=
  ⟨h.os, h.tape, h.output, h.size, fun k hk => h.block k (by omega) (by omega)⟩
theorem ButG.set {g : Nat} {w w' : World} (h : ButG g w w') (y : Value) : ButG g w (w'.setCell ⟨g, 0, none⟩ y) :=
  ⟨h.os, h.tape, h.output, by rw [World.size_setCell]; exact h.size, fun k hk hg => (heap_setCell_other _ _ _ _ hg).trans (h.block k hk hg)⟩
theorem ButG.setNew {g : Nat} {w w' : World} (h : ButG g w w') {k : Nat} (hk : w.heap.size ≤ k) (i : Nat) (y : Value) : ButG g w (w'.setCell ⟨k, i, none⟩ y) :=
  ⟨h.os, h.tape, h.output, by rw [World.size_setCell]; exact h.size, fun j hj hg => (heap_setCell_other _ _ _ _ (show j ≠ k by omega)).trans (h.block j hj hg)⟩
set_option maxRecDepth 100000 in
set_option maxHeartbeats 2000000 in
theorem next_a (w : World) (gb : Nat) (s : List UInt8) (x : Nat) (hB : BoxAt w gb (.string ⟨s.toArray⟩) 9) (hs : s.length ≤ 16777216) (hP : PxAt w) (hx : Px.rdSize s = .error x) :
    Calls Tryd.prog 31 #[.pointer (some ⟨gb, 0, none⟩)] w fun e w' => e = .returned (.tuple #[.agg #[.string ⟨#[]⟩, .string ⟨#[]⟩], .int .i64 (x : Int)]) ∧ Below w.heap.size w w' := by
  obtain ⟨bs, hbs⟩ : ∃ b, (⟨s.toArray⟩ : ByteArray) = b := ⟨_, rfl⟩
  rw [hbs] at hB
  have hA : Below w.heap.size w (w.alloc (.cells #[.string ⟨#[]⟩, .string ⟨#[]⟩] 37)) := (Below.refl _ _).alloc (Nat.le_refl _) _
  have HA := Lib.hid hA
  have HBX := Lib.hid (hB.later hA (Nat.le_refl _))
  have hb0 := HBX.out.cell
  have HS := Lib.hid (rdSize_walk bs s (by rw [← hbs]) (by omega) _ (hP.below hA (Nat.le_refl _)))
  rw [hx] at HS
  have HX0 : Hid (1 ≤ x) := Lib.hid (by rcases Px.rdSize_err hx with h | h <;> omega)
  have hx0 : ((x : Int) == 0) = false := by rw [beq_eq_false_iff_ne]; have := HX0.out; omega
  unfold rsV at HS
  simp only at HS
  clear hA hB hP hx hbs hs
  go_enter Tryd.func31, Tryd.ntmps31
  go_wp2_with ((with_reducible refine HS.out.mono ?_); rintro e w1 ⟨rfl, hb⟩; have HH1 : Hid (w1.heap[w.heap.size]? = some (.cells #[.string ⟨#[]⟩, .string ⟨#[]⟩] 37 (0, 0))) := Lib.hid ((hb.block _ (by rw [World.size_alloc]; omega)).trans (heap_alloc_new w _)); have HB1 : Hid (Below w.heap.size w w1) := Lib.hid (HA.out.trans (hb.mono HA.out.size)); obtain ⟨c0, c1, f0, f1⟩ := row2 HH1.out; clear hb)
  exact bodyPost_ret (results_cell_tmp (p := 1) (q := 2) (ty := 37) rfl _ _ w.heap.size 37 _ (0, 0) _ _ rfl rfl (set2 HH1.out) Tryd.underlying37 rfl (by kernel_rfl)) rfl ⟨rfl, below2 HB1.out (Nat.le_refl _) _ _⟩
set_option maxRecDepth 100000 in
set_option maxHeartbeats 2000000 in
theorem next_b (w : World) (gb : Nat) (s b : List UInt8) (n x : Nat) (hB : BoxAt w gb (.string ⟨s.toArray⟩) 9) (hs : s.length ≤ 16777216) (hP : PxAt w) (hx : Px.rdSize s = .ok (n, b)) (hr : Px.rdRec b (n - (s.length - b.length)) = .error x) :
    Calls Tryd.prog 31 #[.pointer (some ⟨gb, 0, none⟩)] w fun e w' => e = .returned (.tuple #[.agg #[.string ⟨#[]⟩, .string ⟨#[]⟩], .int .i64 (x : Int)]) ∧ Below w.heap.size w w' := by
  obtain ⟨bs, hbs⟩ : ∃ b, (⟨s.toArray⟩ : ByteArray) = b := ⟨_, rfl⟩
  rw [hbs] at hB
  have hA : Below w.heap.size w (w.alloc (.cells #[.string ⟨#[]⟩, .string ⟨#[]⟩] 37)) := (Below.refl _ _).alloc (Nat.le_refl _) _
  have HA := Lib.hid hA
  have HBX := Lib.hid (hB.later hA (Nat.le_refl _))
  have hb0 := HBX.out.cell
  have HS := Lib.hid (rdSize_walk bs s (by rw [← hbs]) (by omega) _ (hP.below hA (Nat.le_refl _)))
  rw [hx] at HS
  unfold rsV at HS
  simp only at HS
  obtain ⟨hsp, hsz⟩ := Px.rdSize_ok hx
  have hle := Px.isSz_le hsz
  have hsl : s.length = Lib.nDigits n + 1 + b.length := by rw [hsp]; simp only [List.length_append, List.length_cons, Px.dec_len]; omega
  have hmm : n - (s.length - b.length) = n - Lib.nDigits n - 1 := by omega
  have hbsz : bs.size = s.length := by rw [← hbs]; simp [ByteArray.size]
  obtain ⟨bb, hbb⟩ : ∃ x, (⟨b.toArray⟩ : ByteArray) = x := ⟨_, rfl⟩
  have hbbz : bb.size = b.length := by rw [← hbb]; simp [ByteArray.size]
  rw [hbb] at HS
  rw [hmm] at hr
  obtain ⟨m, hm⟩ : ∃ m, n - Lib.nDigits n - 1 = m := ⟨_, rfl⟩
  rw [hm] at hr
  have hhd : (bs.size : Int) - (bb.size : Int) = ((Lib.nDigits n + 1 : Nat) : Int) := by omega
  have hmI : (n : Int) - ((Lib.nDigits n + 1 : Nat) : Int) = (m : Int) := by omega
  have HR : Hid (∀ w, Calls Tryd.prog 33 #[.string bb, .int .i64 (m : Int)] w _) := Lib.hid (fun w => rdRec_walk bb b (by rw [← hbb]) (by omega) m (by omega) (by omega) w)
  rw [hr] at HR
  unfold rrV at HR
  simp only at HR
  have hnI : (n : Int) ≤ 16777216 := by omega
  have hdI : ((Lib.nDigits n + 1 : Nat) : Int) ≤ 16777216 := by omega
  have hmu : (m : Int) ≤ 16777216 := by omega
  have HX0 : Hid (1 ≤ x) := Lib.hid (by rcases Px.rdRec_err hr with h | h <;> omega)
  have hx0 : ((x : Int) == 0) = false := by rw [beq_eq_false_iff_ne]; have := HX0.out; omega
  clear hA hB hP hx hr hbs hs hsp hsz hle hsl hmm hbsz hbb hbbz hm
  generalize Lib.nDigits n + 1 = d at *
  go_enter Tryd.func31, Tryd.ntmps31
  go_wp2_with (first
    | ((with_reducible refine HS.out.mono ?_); rintro e w1 ⟨rfl, hb⟩; have HH1 : Hid (w1.heap[w.heap.size]? = some (.cells #[.string ⟨#[]⟩, .string ⟨#[]⟩] 37 (0, 0))) := Lib.hid ((hb.block _ (by rw [World.size_alloc]; omega)).trans (heap_alloc_new w _)); have HB1 : Hid (Below w.heap.size w w1) := Lib.hid (HA.out.trans (hb.mono HA.out.size)); have HX1 := Lib.hid (HBX.out.later hb (Nat.le_refl _)); have hb1 := HX1.out.cell; clear hb0 hb)
    | ((with_reducible refine (HR.out _).mono ?_); rintro e w2 ⟨rfl, hb⟩; have HH2 : Hid ((w2.alloc (.cells #[.string ⟨#[]⟩, .string ⟨#[]⟩] 37)).heap[w.heap.size]? = some (.cells #[.string ⟨#[]⟩, .string ⟨#[]⟩] 37 (0, 0))) := Lib.hid (by have h9 := (Array.getElem?_eq_some_iff.1 HH1.out).1; rw [heap_alloc_old _ _ (Nat.lt_of_lt_of_le h9 hb.size)]; exact (hb.block _ h9).trans HH1.out); have HB2 : Hid (Below w.heap.size w w2) := Lib.hid (HB1.out.trans (hb.mono HB1.out.size)); have HX2 := Lib.hid (HX1.out.later hb (Nat.le_refl _)); obtain ⟨c0, c1, f0, f1⟩ := row2 HH2.out; clear hb1 hb))
  exact bodyPost_ret (results_cell_tmp (p := 1) (q := 2) (ty := 37) rfl _ _ w.heap.size 37 _ (0, 0) _ _ rfl rfl (set2 HH2.out) Tryd.underlying37 rfl (by kernel_rfl)) rfl ⟨rfl, below2 (HB2.out.alloc HB2.out.size _) (Nat.le_refl _) _ _⟩
set_option maxRecDepth 100000 in
set_option maxHeartbeats 2000000 in
theorem next_c (w : World) (gb : Nat) (s b : List UInt8) (n : Nat) (r : Px.Rec) (hB : BoxAt w gb (.string ⟨s.toArray⟩) 9) (hs : s.length ≤ 16777216) (hP : PxAt w) (hx : Px.rdSize s = .ok (n, b)) (hr : Px.rdRec b (n - (s.length - b.length)) = .ok r) :
    Calls Tryd.prog 31 #[.pointer (some ⟨gb, 0, none⟩)] w fun e w' => e = .returned (.tuple #[.agg #[.string ⟨r.1.toArray⟩, .string ⟨r.2.toArray⟩], .int .i64 0]) ∧ BoxAt w' gb (.string ⟨(s.drop n).toArray⟩) 9 ∧ ButG gb w w' := by
  obtain ⟨bs, hbs⟩ : ∃ b, (⟨s.toArray⟩ : ByteArray) = b := ⟨_, rfl⟩
  rw [hbs] at hB
  have hA : Below w.heap.size w (w.alloc (.cells #[.string ⟨#[]⟩, .string ⟨#[]⟩] 37)) := (Below.refl _ _).alloc (Nat.le_refl _) _
  have HA := Lib.hid hA
  have HBX := Lib.hid (hB.later hA (Nat.le_refl _))
  have hb0 := HBX.out.cell
  have HS := Lib.hid (rdSize_walk bs s (by rw [← hbs]) (by omega) _ (hP.below hA (Nat.le_refl _)))
  rw [hx] at HS
  unfold rsV at HS
  simp only at HS
  obtain ⟨hsp, hsz⟩ := Px.rdSize_ok hx
  have hle := Px.isSz_le hsz
  have hsl : s.length = Lib.nDigits n + 1 + b.length := by rw [hsp]; simp only [List.length_append, List.length_cons, Px.dec_len]; omega
  have hmm : n - (s.length - b.length) = n - Lib.nDigits n - 1 := by omega
  have hbsz : bs.size = s.length := by rw [← hbs]; simp [ByteArray.size]
  obtain ⟨bb, hbb⟩ : ∃ x, (⟨b.toArray⟩ : ByteArray) = x := ⟨_, rfl⟩
  have hbbz : bb.size = b.length := by rw [← hbb]; simp [ByteArray.size]
  rw [hbb] at HS
  rw [hmm] at hr
  obtain ⟨m, hm⟩ : ∃ m, n - Lib.nDigits n - 1 = m := ⟨_, rfl⟩
  rw [hm] at hr
  have hhd : (bs.size : Int) - (bb.size : Int) = ((Lib.nDigits n + 1 : Nat) : Int) := by omega
  have hmI : (n : Int) - ((Lib.nDigits n + 1 : Nat) : Int) = (m : Int) := by omega
  have HR : Hid (∀ w, Calls Tryd.prog 33 #[.string bb, .int .i64 (m : Int)] w _) := Lib.hid (fun w => rdRec_walk bb b (by rw [← hbb]) (by omega) m (by omega) (by omega) w)
  rw [hr] at HR
  unfold rrV at HR
  simp only at HR
  have hnI : (n : Int) ≤ 16777216 := by omega
  have hdI : ((Lib.nDigits n + 1 : Nat) : Int) ≤ 16777216 := by omega
  have hmu : (m : Int) ≤ 16777216 := by omega
  have hml : m ≤ b.length := by
    obtain ⟨_, h8, this⟩ := Px.rdRec_ok (by omega) hr
    have h9 := congrArg List.length this
    simp only [List.length_append, List.length_cons, List.length_drop] at h9
    omega
  have hnb : (n : Int) ≤ (bs.size : Int) := by omega
  have hdr := ext_drop bs s (by rw [← hbs]) n
  obtain ⟨bd, hbd⟩ : ∃ x, (⟨(s.drop n).toArray⟩ : ByteArray) = x := ⟨_, rfl⟩
  rw [hbd] at hdr ⊢
  obtain ⟨k1, k2⟩ := r
  simp only at HR ⊢
  obtain ⟨b1, hb1⟩ : ∃ x, (⟨k1.toArray⟩ : ByteArray) = x := ⟨_, rfl⟩
  obtain ⟨b2, hb2⟩ : ∃ x, (⟨k2.toArray⟩ : ByteArray) = x := ⟨_, rfl⟩
  rw [hb1, hb2] at HR ⊢
  have hgl := hB.lt
  have HGL := Lib.hid hgl
  clear hb1 hb2 hbd hml hgl
  clear hA hB hP hx hr hbs hs hsp hsz hle hsl hmm hbsz hbb hbbz hm
  generalize Lib.nDigits n + 1 = d at *
  go_enter Tryd.func31, Tryd.ntmps31
  go_wp2_with (first
    | ((with_reducible refine HS.out.mono ?_); rintro e w1 ⟨rfl, hb⟩; have HH1 : Hid (w1.heap[w.heap.size]? = some (.cells #[.string ⟨#[]⟩, .string ⟨#[]⟩] 37 (0, 0))) := Lib.hid ((hb.block _ (by rw [World.size_alloc]; omega)).trans (heap_alloc_new w _)); have HB1 : Hid (Below w.heap.size w w1) := Lib.hid (HA.out.trans (hb.mono HA.out.size)); have HX1 := Lib.hid (HBX.out.later hb (Nat.le_refl _)); have hb1 := HX1.out.cell; clear hb0 hb)
    | ((with_reducible refine (HR.out _).mono ?_); rintro e w2 ⟨rfl, hb⟩; have HH2 : Hid ((w2.alloc (.cells #[.string b1, .string b2] 37)).heap[w.heap.size]? = some (.cells #[.string ⟨#[]⟩, .string ⟨#[]⟩] 37 (0, 0))) := Lib.hid (by have h9 := (Array.getElem?_eq_some_iff.1 HH1.out).1; rw [heap_alloc_old _ _ (Nat.lt_of_lt_of_le h9 hb.size)]; exact (hb.block _ h9).trans HH1.out); have HB2 : Hid (Below w.heap.size w w2) := Lib.hid (HB1.out.trans (hb.mono HB1.out.size)); have HX2 := Lib.hid (HX1.out.later hb (Nat.le_refl _)); have HX3 := Lib.hid (HX2.out.later (((Below.refl _ _).alloc (Nat.le_refl _) (.cells #[.string b1, .string b2] 37)) : Below w2.heap.size w2 _) (Nat.le_refl _)); have hb3 := HX3.out.cell; have fb3 := HX3.out.free; have HX4 := Lib.hid (HX3.out.set (.string bd)); have HH4 : Hid (((w2.alloc (.cells #[.string b1, .string b2] 37)).setCell ⟨gb, 0, none⟩ (.string bd)).heap[w.heap.size]? = some (.cells #[.string ⟨#[]⟩, .string ⟨#[]⟩] 37 (0, 0))) := Lib.hid ((heap_setCell_other _ _ _ _ (show w.heap.size ≠ gb by have := HGL.out; omega)).trans HH2.out); have HG2 := Lib.hid HX2.out.lt; have HH5 : Hid (((w2.alloc (.cells #[.string b1, .string b2] 37)).setCell ⟨gb, 0, none⟩ (.string bd)).heap[w2.heap.size]? = some (.cells #[.string b1, .string b2] 37 (0, 0))) := Lib.hid ((heap_setCell_other _ _ _ _ (show w2.heap.size ≠ gb by have := HG2.out; omega)).trans (heap_alloc_new w2 _)); obtain ⟨c0, c1, f0, f1⟩ := row2 HH4.out; obtain ⟨e0, e1, -, -⟩ := row2 HH5.out; clear hb1 hb))
  exact bodyPost_ret (results_cell_tmp (p := 1) (q := 2) (ty := 37) rfl _ _ w.heap.size 37 _ (0, 0) _ _ rfl rfl (set2 HH4.out) Tryd.underlying37 rfl (by kernel_rfl)) rfl ⟨rfl, (other2 (show gb ≠ w.heap.size by have := HGL.out; omega) _ _).trans HX4.out, (((ButG.of (HB2.out.alloc HB2.out.size _)).set _).setNew (Nat.le_refl _) _ _).setNew (Nat.le_refl _) _ _⟩
end Go.Proofs.YtjgphicmkmdeiaaDoor
