/-
  PaxKnown: what is known of its texts.
-/
import Derived.Test.YtfbbccpbedahhaaDoorPyc
import Derived.Test.YtfbbccpbedahhaaDoorPsa
namespace Go.Proofs.YtfbbccpbedahhaaDoor
open Go.RowKit Go.Maps

theorem made_bytes (m : Nat) (hm : m ≤ 16777216) (w : World) : (Instr.makeSlice 26 (.int .i64 (m : Int)) (.int .i64 (m : Int))).run Tryd.prog w = .ok (.slice (some ⟨w.heap.size, 0, none⟩) m m) (w.alloc (.cells (bl (List.replicate m 0)).toArray 5)) := by
  obtain ⟨i0, hi, hz0, hz1, hz2⟩ := info_parts info5
  have hmk := run_makeSlice (P := Tryd.prog) w 26 5 i0 (.int .u8 0) Tryd.underlying26 hi hz0 .i64 .i64 (m : Int) (m : Int) (by omega) (Int.le_refl _) (by rw [hz1]; simp only [Int.toNat_natCast]; omega) (by rw [hz2]; omega) (by omega)
  simp only [Int.toNat_natCast] at hmk
  rw [hmk, hz1]
  have e : madeCells (Value.int .u8 0).cells (m * 1) = (bl (List.replicate m 0)).toArray := by
    apply Array.ext
    · simp [size_madeCells]
    · intro i h1 h2
      simp [madeCells, bl, bi, Value.cells, Nat.mod_one]
  rw [e]
theorem made_str (m : Nat) (w : World) : (convert 26 9 (.slice (some ⟨w.heap.size, 0, none⟩) m m)).run Tryd.prog (w.alloc (.cells (bl (List.replicate m 0)).toArray 5)) = .ok (.string ⟨(List.replicate m (0 : UInt8)).toArray⟩) (w.alloc (.cells (bl (List.replicate m 0)).toArray 5)) := by
  have h := slv_marked w (bl (List.replicate m 0)) 5 (0, 0)
  rw [bl_length, List.length_replicate] at h
  exact run_toString h
def formsL : List (List UInt8) := [[120], [48, 32], [53, 32, 107, 10], [54, 32, 107, 61, 10, 32], [52, 32, 107, 61], [53, 32, 107, 61, 120], [55, 32, 61, 97, 98, 10], [57, 32, 107, 61, 97, 98, 99, 100, 101], [57, 57, 57, 57, 57, 57, 57, 57, 57, 57, 57, 32], [55, 32, 107, 10, 97, 98, 10], [54, 32, 107, 61, 118, 10, 120], [49, 54, 55, 55, 55, 50, 49, 55, 32], [54, 32, 107, 61, 118, 118], [49, 48, 32, 112, 97, 116, 104, 61, 97], [49, 48, 48, 32], [49, 48, 48, 48, 48, 48, 48, 48]]
def shortsL : List (List UInt8) := [[49], [49, 48], [49, 48, 48, 48, 48, 48, 48], [54], [54, 32], [54, 32, 107], [54, 32, 107, 61], [54, 32, 107, 61, 118], [54, 32, 107, 61, 118, 10, 55, 32], [49, 50, 32, 107, 61, 97, 61, 98]]
def keysL : List (List UInt8) := [[], [97, 61, 98], [97, 10], [0], List.replicate 256 0]
def badB (x : Nat) (l : List UInt8) : Bool := decide (l.length ≤ 1000) && (match Px.get l with | .error e => e == x | .ok _ => false)
theorem bad_of {x : Nat} {L : List (List UInt8)} (h : L.all (badB x) = true) : ∀ l ∈ L, l.length ≤ 1000 ∧ Px.get l = .error x := by
  intro l hl
  have h1 := List.all_eq_true.1 h l hl
  unfold badB at h1
  rw [Bool.and_eq_true] at h1
  refine ⟨of_decide_eq_true h1.1, ?_⟩
  have h2 := h1.2
  split at h2
  · rename_i e he
    rw [he]; congr 1; simpa using h2
  · cases h2
theorem forms_bad : ∀ l ∈ formsL, l.length ≤ 1000 ∧ Px.get l = .error 5 := bad_of (by kernel_rfl)
theorem shorts_bad : ∀ l ∈ shortsL, l.length ≤ 1000 ∧ Px.get l = .error 4 := bad_of (by kernel_rfl)
theorem keys_bad : ∀ l ∈ keysL, Px.sz (l, []) = 0 := fun l hl => by
  have h : keysL.all (fun l => Px.sz (l, []) == 0) = true := by kernel_rfl
  simpa using List.all_eq_true.1 h l hl
theorem get_str (l : List UInt8) (x : Nat) (hl : l.length ≤ 1000 ∧ Px.get l = .error x) (w : World) (hP : PxAt w) (b : ByteArray) (hb : (⟨l.toArray⟩ : ByteArray) = b) (cp : Nat) (hcp : grownCap w b.size 0 5 = cp) :
    Calls Tryd.prog 18 #[.slice (some ⟨w.heap.size, 0, none⟩) b.size cp] (Lib.bytesWorld w 5 b) fun e w' => e = .returned (.tuple #[.slice none 0 0, .int .i64 (x : Int)]) ∧ Below w.heap.size w w' := by
  have hO := OwnG.conv w b l (by rw [← hb]) (by omega)
  have hA : Below w.heap.size w (Lib.bytesWorld w 5 b) := Lib.bytesWorld_below w 5 b
  rw [hcp] at hO
  have hs : b.size = l.length := by rw [← hb]; simp [ByteArray.size]
  rw [hs]
  refine (get_walk _ _ l hO.toV (by omega) (hP.below hA (Nat.le_refl _))).mono ?_
  rintro e w' ⟨hb, h1 | ⟨_, y, h2, h3⟩ | ⟨_, rs, u, h2, _⟩⟩
  · omega
  · rw [hl.2] at h2
    cases h2
    exact ⟨h3, hA.trans (hb.mono hA.size)⟩
  · rw [hl.2] at h2; cases h2
theorem slr_of (w : World) (rs : List Px.Rec) (n : Nat) (C : Array Value) (hC : C = (nr rs).toArray) (hn : rs.length = n) (t : TypeId) : SlR (w.alloc (.cells C t)) (.slice (some ⟨w.heap.size, 0, none⟩) n n) rs := by
  subst hC hn
  refine ⟨by simp [nr_length], .inl ⟨w.heap.size, 0, _, rfl, Nat.le_refl _, fun i v hi => ?_⟩⟩
  rw [Nat.zero_add]
  exact (cell_of_row _ _ _ _ _ _ (heap_alloc_new _ _)).trans (by simpa using hi)
theorem put_keys (key : List UInt8) (h : Px.sz (key, []) = 0) (b : ByteArray) (hb : (⟨key.toArray⟩ : ByteArray) = b) (w : World) (hP : PxAt w) : Calls Tryd.prog 11 #[.slice (some ⟨w.heap.size, 0, none⟩) 2 2] (w.alloc (.cells #[.string ⟨#[111, 107]⟩, .string ⟨#[]⟩, .string b, .string ⟨#[]⟩] 37)) fun e w' => e = .returned (.tuple #[.slice none 0 0, .int .i64 1]) ∧ Below w.heap.size w w' := by
  subst hb
  have hA : Below w.heap.size w (w.alloc (.cells #[.string ⟨#[111, 107]⟩, .string ⟨#[]⟩, .string ⟨key.toArray⟩, .string ⟨#[]⟩] 37)) := (Below.refl _ _).alloc (Nat.le_refl _) _
  refine (put_walk _ _ [([111, 107], []), (key, [])] (slr_of w _ 2 _ rfl rfl _) (by simp) (by intro r hr; simp at hr; rcases hr with rfl | rfl <;> simp) (hP.below hA (Nat.le_refl _))).mono ?_
  rintro e w' ⟨hb, ⟨_, h1⟩ | ⟨h1, _⟩ | ⟨h1, _⟩⟩
  · exact ⟨h1, hA.trans (hb.mono hA.size)⟩
  · exact absurd h (h1 _ (by simp))
  · exact absurd h (h1 _ (by simp))
theorem put_big (z : List UInt8) (hzl : z.length = 16777216) (b : ByteArray) (hb : (⟨z.toArray⟩ : ByteArray) = b) (w : World) (hP : PxAt w) : Calls Tryd.prog 11 #[.slice (some ⟨w.heap.size, 0, none⟩) 1 1] (w.alloc (.cells #[.string ⟨#[107]⟩, .string b] 37)) fun e w' => e = .returned (.tuple #[.slice none 0 0, .int .i64 3]) ∧ Below w.heap.size w w' := by
  subst hb
  have hA : Below w.heap.size w (w.alloc (.cells #[.string ⟨#[107]⟩, .string ⟨z.toArray⟩] 37)) := (Below.refl _ _).alloc (Nat.le_refl _) _
  have hw : 16777216 < Px.wd 16777220 := of_decide_eq_true (by kernel_rfl)
  have hz : Px.sz ([107], z) = Px.wd 16777220 := by
    unfold Px.sz
    rw [if_pos (show Px.okK [107] = true by kernel_rfl)]
    show Px.wd ([107].length + z.length + 3) = _
    rw [hzl]
    rfl
  have hs : sums [([107], z)] = Px.wd 16777220 := by
    rw [← hz]; simp [sums]
  generalize Px.wd 16777220 = q at *
  refine (put_walk _ _ [([107], z)] (slr_of w _ 1 _ rfl rfl _) (by simp) (by intro r hr; rw [List.mem_singleton] at hr; subst hr; show z.length ≤ _; omega) (hP.below hA (Nat.le_refl _))).mono ?_
  rintro e w' ⟨hb, ⟨⟨r, hr, h1⟩, _⟩ | ⟨_, _, h1⟩ | ⟨_, h1, _⟩⟩
  · rw [List.mem_singleton] at hr; subst hr; rw [hz] at h1; omega
  · exact ⟨h1, hA.trans (hb.mono hA.size)⟩
  · rw [hs] at h1; omega
def recsA : List Px.Rec := [([107], [118]), ([107], [97, 61, 98, 10, 0, 99]), ([106], [])]
def recsB : List Px.Rec := [([107], [118]), ([107], [97, 61, 98, 10, 0, 99])]
theorem get_ok (w : World) (l : List UInt8) (rs : List Px.Rec) (hr : Px.get l = .ok rs) (hl : l.length ≤ 1000) (n : Nat) (hn : l.length = n) (C : Array Value) (hC : C = (bl l).toArray) (fr : Nat × Nat) (hP : PxAt w) :
    Calls Tryd.prog 18 #[.slice (some ⟨w.heap.size, 0, none⟩) n n] (w.alloc (.cells C 5 fr)) fun e w' => (∃ u, e = .returned (.tuple #[u, .int .i64 0]) ∧ SlR w' u rs) ∧ Below w.heap.size w w' := by
  subst hC hn
  have h := slv_marked w (bl l) 5 fr
  rw [bl_length] at h
  have hA : Below w.heap.size w (w.alloc (.cells (bl l).toArray 5 fr)) := (Below.refl _ _).alloc (Nat.le_refl _) _
  refine (get_walk _ _ l h (by omega) (hP.below hA (Nat.le_refl _))).mono ?_
  rintro e w' ⟨hb, h1 | ⟨_, y, h2, _⟩ | ⟨_, rs', u, h2, h3, h4⟩⟩
  · omega
  · rw [hr] at h2; cases h2
  · rw [hr] at h2
    cases h2
    exact ⟨⟨u, h3, h4.toR⟩, hA.trans (hb.mono hA.size)⟩
theorem get_nil (w : World) (hP : PxAt w) : Calls Tryd.prog 18 #[.slice none 0 0] w fun e w' => (∃ u, e = .returned (.tuple #[u, .int .i64 0]) ∧ SlR w' u []) ∧ Below w.heap.size w w' := by
  refine (get_walk _ _ [] (.inr ⟨none, rfl, rfl⟩) (by simp) hP).mono ?_
  have hr : Px.get [] = .ok [] := by kernel_rfl
  rintro e w' ⟨hb, h1 | ⟨_, y, h2, _⟩ | ⟨_, rs', u, h2, h3, h4⟩⟩
  · simp at h1
  · rw [hr] at h2; cases h2
  · rw [hr] at h2
    cases h2
    exact ⟨⟨u, h3, h4.toR⟩, hb⟩
theorem getA (w : World) (hP : PxAt w) : Calls Tryd.prog 18 #[.slice (some ⟨w.heap.size, 0, none⟩) 23 23] (w.alloc (.cells #[.int .u8 54, .int .u8 32, .int .u8 107, .int .u8 61, .int .u8 118, .int .u8 10, .int .u8 49, .int .u8 50, .int .u8 32, .int .u8 107, .int .u8 61, .int .u8 97, .int .u8 61, .int .u8 98, .int .u8 10, .int .u8 0, .int .u8 99, .int .u8 10, .int .u8 53, .int .u8 32, .int .u8 106, .int .u8 61, .int .u8 10] 5 (23, 24))) fun e w' => (∃ u, e = .returned (.tuple #[u, .int .i64 0]) ∧ SlR w' u recsA) ∧ Below w.heap.size w w' := get_ok w [54, 32, 107, 61, 118, 10, 49, 50, 32, 107, 61, 97, 61, 98, 10, 0, 99, 10, 53, 32, 106, 61, 10] recsA (by kernel_rfl) (by decide) 23 rfl _ rfl (23, 24) hP
theorem getB (w : World) (hP : PxAt w) : Calls Tryd.prog 18 #[.slice (some ⟨w.heap.size, 0, none⟩) 18 18] (w.alloc (.cells #[.int .u8 54, .int .u8 32, .int .u8 107, .int .u8 61, .int .u8 118, .int .u8 10, .int .u8 49, .int .u8 50, .int .u8 32, .int .u8 107, .int .u8 61, .int .u8 97, .int .u8 61, .int .u8 98, .int .u8 10, .int .u8 0, .int .u8 99, .int .u8 10] 5 (18, 19))) fun e w' => (∃ u, e = .returned (.tuple #[u, .int .i64 0]) ∧ SlR w' u recsB) ∧ Below w.heap.size w w' := get_ok w [54, 32, 107, 61, 118, 10, 49, 50, 32, 107, 61, 97, 61, 98, 10, 0, 99, 10] recsB (by kernel_rfl) (by decide) 18 rfl _ rfl (18, 19) hP
theorem last3 (w : World) : Calls Tryd.prog 13 #[.slice (some ⟨w.heap.size, 0, none⟩) 3 3, .string ⟨#[107]⟩] (w.alloc (.cells #[.string ⟨#[107]⟩, .string ⟨#[49]⟩, .string ⟨#[106]⟩, .string ⟨#[]⟩, .string ⟨#[107]⟩, .string ⟨#[50]⟩] 37)) fun e w' => e = .returned (.tuple #[.string ⟨#[50]⟩, .bool true]) ∧ Below w.heap.size w w' := by
  have hA : Below w.heap.size w (w.alloc (.cells #[.string ⟨#[107]⟩, .string ⟨#[49]⟩, .string ⟨#[106]⟩, .string ⟨#[]⟩, .string ⟨#[107]⟩, .string ⟨#[50]⟩] 37)) := (Below.refl _ _).alloc (Nat.le_refl _) _
  have h := last_walk [([107], [49]), ([106], []), ([107], [50])] (by simp) _ [107] _ (slr_of w _ 3 #[.string ⟨#[107]⟩, .string ⟨#[49]⟩, .string ⟨#[106]⟩, .string ⟨#[]⟩, .string ⟨#[107]⟩, .string ⟨#[50]⟩] rfl rfl 37)
  unfold LastPost at h
  rw [show lastK [([107], [49]), ([106], []), ([107], [50])] [107] = ([50], true) by kernel_rfl] at h
  exact h.mono fun _ _ ⟨h1, h2⟩ => ⟨h1, hA.trans (h2.mono hA.size)⟩
theorem last0 (w : World) : Calls Tryd.prog 13 #[.slice none 0 0, .string ⟨#[107]⟩] w fun e w' => e = .returned (.tuple #[.string ⟨#[]⟩, .bool false]) ∧ Below w.heap.size w w' := by
  have h := last_walk [] (by simp) (.slice none 0 0) [107] w ⟨rfl, .inr ⟨none, rfl, rfl⟩⟩
  unfold LastPost at h
  rw [show lastK [] [107] = ([], false) by kernel_rfl] at h
  exact h
theorem size_lit (r : Px.Rec) (n : Nat) (h : Px.sz r = n) (hl : r.2.length ≤ 1000) (w : World) (hP : PxAt w) : Calls Tryd.prog 15 #[.agg #[.string ⟨r.1.toArray⟩, .string ⟨r.2.toArray⟩]] w fun e w' => e = .returned (.int .i64 (n : Int)) ∧ Below w.heap.size w w' := by
  have := size_walk r w (by omega) hP
  rw [h] at this
  exact this
end Go.Proofs.YtfbbccpbedahhaaDoor
