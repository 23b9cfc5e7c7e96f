/-
  The chapter's examples: wakes.
-/
import Derived.Test.YtghphgpbgekoiaaCut
import Derived.Lib.SlBytesConst
namespace Go.Proofs.Ytghphgpbgekoiaa
open Go.RowKit Go.Maps
theorem own_toK {base k : Nat} {e : TypeId} {w : World} {v : Value} {n : Nat} {l : List Value} (h : w.ownsRow base e k v n l) (hl : l.length = n * k) : SlK k w v n l := by
  obtain ⟨h0, ⟨h1, h2⟩ | ⟨g, cap, cur, h1, h2, h3, h4, h5, h6, h7⟩⟩ := h
  · exact ⟨hl, .inr ⟨none, h1, by omega⟩⟩
  · refine ⟨hl, .inl ⟨g, 0, cap, h1, by omega, fun i u hi => ?_⟩⟩
    rw [Nat.zero_add, cell_of_row _ _ _ _ _ _ h3]
    have hi' := (List.getElem?_eq_some_iff.1 hi).1
    have e : cur.toList[i]? = l[i]? := by
      rw [← h7, List.getElem?_take, if_pos (by omega)]
    rw [← Array.getElem?_toList, e, hi]
theorem SlK.below {k m : Nat} {w w' : World} {v : Value} {vs : List Value} (h : SlK k w v m vs) {B : Nat} (hb : Below B w w') (hB : w.heap.size ≤ B) : SlK k w' v m vs := by
  obtain ⟨h0, ⟨g, o, cap, h1, h2, h3⟩ | h⟩ := h
  · refine ⟨h0, .inl ⟨g, o, cap, h1, h2, fun i u hi => ?_⟩⟩
    have h4 := h3 i u hi
    have h5 := block_lt_of_cell h4
    exact (hb.cell (p := ⟨g, o + i, none⟩) (Nat.lt_of_lt_of_le h5 hB)).trans h4
  · exact ⟨h0, .inr h⟩
theorem SlK.shape {k m : Nat} {w : World} {v : Value} {vs : List Value} (h : SlK k w v m vs) : ∃ p cap, v = .slice p m cap := by
  obtain ⟨_, ⟨g, o, cap, h, _⟩ | ⟨p, h, rfl⟩⟩ := h
  · exact ⟨_, _, h⟩
  · exact ⟨_, _, h⟩
/-- Steps in memory. -/
def SlS (w : World) (v : Value) (ss : List Mt.St) : Prop := SlK 3 w v ss.length (ns ss)
theorem ns_get (ss : List Mt.St) : ∀ (i : Nat) (s : Mt.St), ss[i]? = some s → (ns ss)[i * 3]? = some (.int .i64 (s.1 : Int)) ∧ (ns ss)[i * 3 + 1]? = some (.int .i64 (s.2.1 : Int)) ∧ (ns ss)[i * 3 + 2]? = some (.int .u8 (bi s.2.2)) := by
  induction ss with
  | nil => intro i s h; simp at h
  | cons a t ih =>
    intro i s h
    cases i with
    | zero => simp at h; subst h; exact ⟨rfl, rfl, rfl⟩
    | succ i =>
      simp at h
      obtain ⟨h1, h2, h3⟩ := ih i s h
      have e : ns (a :: t) = .int .i64 (a.1 : Int) :: .int .i64 (a.2.1 : Int) :: .int .u8 (bi a.2.2) :: ns t := rfl
      rw [e, show (i + 1) * 3 = i * 3 + 1 + 1 + 1 by omega]
      simp only [List.getElem?_cons_succ]
      exact ⟨h1, h2, h3⟩
theorem SlS.at {w : World} {p : Option Addr} {n cap : Nat} {ss : List Mt.St} (h : SlS w (.slice p n cap) ss) (h0 : 0 < n) : ∃ g o, p = some ⟨g, o, none⟩ ∧ n ≤ cap ∧ ∀ i s, ss[i]? = some s →
    w.cell? ⟨g, o + i * 3, none⟩ = some (.int .i64 (s.1 : Int)) ∧ w.cell? ⟨g, o + i * 3 + 1, none⟩ = some (.int .i64 (s.2.1 : Int)) ∧ w.cell? ⟨g, o + i * 3 + 2, none⟩ = some (.int .u8 (bi s.2.2)) := by
  obtain ⟨_, ⟨g, o, cap', h, h2, hB⟩ | ⟨p', h, h3⟩⟩ := h
  · cases h
    refine ⟨g, o, rfl, h2, fun i s hi => ?_⟩
    obtain ⟨h1, h3, h4⟩ := ns_get ss i s hi
    exact ⟨hB _ _ h1, by rw [Nat.add_assoc]; exact hB _ _ h3, by rw [Nat.add_assoc]; exact hB _ _ h4⟩
  · cases h; omega
theorem own_toS {B : Nat} {w : World} {v : Value} {ss : List Mt.St} (h : w.ownsRow B 32 3 v ss.length (ns ss)) : SlS w v ss := own_toK h (ns_length ss)
set_option maxRecDepth 100000 in
set_option maxHeartbeats 1000000 in
theorem is_walk (w : World) (v : Value) (ss : List Mt.St) (i : Nat) (s : Mt.St) (hs : SlS w v ss) (hi : ss[i]? = some s) (hl : ss.length ≤ 32768) :
    Calls Try.prog 24 #[v, .int .i64 (i : Int), .int .i64 (s.1 : Int), .int .i64 (s.2.1 : Int)] w fun e w' => e = .returned (.bool true) ∧ w' = w := by
  obtain ⟨p, cap, rfl⟩ := SlK.shape hs
  have hil := (List.getElem?_eq_some_iff.1 hi).1
  obtain ⟨g, o, rfl, hcap, hc⟩ := hs.at (by omega)
  obtain ⟨c0, c1, c2⟩ := hc i s hi
  clear hs hc hi
  generalize ss.length = n at *
  obtain ⟨x, y, z⟩ := s
  simp only at c0 c1 c2 ⊢
  have hii : (i : Int) < (n : Int) := by omega
  go_enter Try.func24, Try.ntmps24
  go_wp2_with fail
  go_ret
  exact ⟨rfl, rfl⟩
theorem slv_litF (w : World) (vs : List Value) (e : TypeId) (fr : Nat × Nat) : SlV (w.alloc (.cells vs.toArray e fr)) (.slice (some ⟨w.heap.size, 0, none⟩) vs.length vs.length) vs :=
  .inl ⟨w.heap.size, 0, _, rfl, Nat.le_refl _, fun i v hi => by
    rw [Nat.zero_add]
    exact (cell_of_row _ _ _ _ _ _ (heap_alloc_new _ _)).trans (by simpa using hi)⟩
theorem cut1 : Mt.cutAt [97, 97, 97, 97, 97] 8 0 = [(0, 0, 97), (4, 1, 0)] := by kernel_rfl
theorem cut2 : Mt.cutAt [97, 98, 99, 97, 98, 99, 100] 8 0 = [(0, 0, 97), (0, 0, 98), (0, 0, 99), (3, 3, 0), (0, 0, 100)] := by kernel_rfl
theorem cut3 : Mt.cutAt [97, 98, 99, 98, 99, 100, 97, 98, 99, 100] 8 0 = [(0, 0, 97), (0, 0, 98), (0, 0, 99), (0, 0, 98), (0, 0, 99), (0, 0, 100), (3, 6, 0), (0, 0, 100)] := by kernel_rfl
/-- Cut of a row of bytes by chains of 8. -/
theorem cut_row (w : World) (v : Value) (b : List UInt8) (ss : List Mt.St) (hv : SlV w v (bl b)) (hb : b.length ≤ 32768) (he : Mt.cutAt b 8 0 = ss) :
    Calls Try.prog 8 #[v, .int .i64 8] w fun e w' => ∃ u, e = .returned (.tuple #[u, .int .i64 0]) ∧ Below w.heap.size w w' ∧ SlS w' u ss := by
  refine (Cut_walk w v b 8 hv hb).mono ?_
  rintro e w' ⟨u, rfl, hb1, ho, _⟩
  have ho := own_toS (ho (by decide))
  rw [show Int.toNat 8 = 8 from rfl, he] at ho
  exact ⟨u, rfl, hb1, ho⟩
set_option maxRecDepth 100000 in
set_option maxHeartbeats 1000000 in
theorem wakes_walk (w : World) : Calls Try.prog 14 #[] w fun e w' => e = .returned (.bool true) ∧ Below w.heap.size w w' := by
  have kc := fun (w : World) (C : Array Value) (n c : Nat) => Lib.run_convert_bytes_const (P := Try.prog) w 22 5 C n c Try.underlying22 Try.underlying5
  go_enter Try.func14, Try.ntmps14
  go_wp2_with fail
  refine (cut_row _ _ [97, 97, 97, 97, 97] _ (slv_litF w (bl [97, 97, 97, 97, 97]) 5 (5, 6)) (by decide) cut1).mono ?_
  rintro e w1 ⟨u1, rfl, hb1, hs1⟩
  have HB1 : Hid (Below w.heap.size w w1) := Lib.hid (((Below.refl _ _).alloc (Nat.le_refl _) _).trans (hb1.mono (by simp)))
  have HS1 := Lib.hid hs1
  clear hb1 hs1
  go_wp2_with fail
  refine (cut_row _ _ [97, 98, 99, 97, 98, 99, 100] _ (slv_litF w1 (bl [97, 98, 99, 97, 98, 99, 100]) 5 (7, 8)) (by decide) cut2).mono ?_
  rintro e w2 ⟨u2, rfl, hb2, hs2⟩
  have hx : Below w1.heap.size w1 w2 := ((Below.refl _ _).alloc (Nat.le_refl _) _).trans (hb2.mono (by simp))
  have HB2 := Lib.hid (bt HB1.out hx)
  have HS1 := Lib.hid (SlK.below HS1.out hx (Nat.le_refl _))
  have HS2 := Lib.hid hs2
  clear hb2 hs2 hx
  go_wp2_with fail
  refine (cut_row _ _ [97, 98, 99, 98, 99, 100, 97, 98, 99, 100] _ (slv_litF w2 (bl [97, 98, 99, 98, 99, 100, 97, 98, 99, 100]) 5 (10, 11)) (by decide) cut3).mono ?_
  rintro e w3 ⟨u3, rfl, hb3, hs3⟩
  have hx : Below w2.heap.size w2 w3 := ((Below.refl _ _).alloc (Nat.le_refl _) _).trans (hb3.mono (by simp))
  have HB3 := Lib.hid (bt HB2.out hx)
  have HS1 : Hid (SlS w3 u1 _) := Lib.hid (SlK.below HS1.out hx (Nat.le_refl _))
  have HS2 : Hid (SlS w3 u2 _) := Lib.hid (SlK.below HS2.out hx (Nat.le_refl _))
  have HS3 := Lib.hid hs3
  clear hb3 hs3 hx HB1 HB2
  obtain ⟨p1, k1, rfl⟩ := SlK.shape HS1.out
  obtain ⟨p2, k2, rfl⟩ := SlK.shape HS2.out
  obtain ⟨p3, k3, rfl⟩ := SlK.shape HS3.out
  obtain ⟨g3, o3, rfl, hc3, hat⟩ := HS3.out.at (by decide)
  have hz := (hat 7 _ rfl).2.2
  clear hat
  simp only [List.length_cons, List.length_nil] at hc3 HS1 HS2 HS3 ⊢
  go_wp2_with fail
  refine (is_walk w3 _ _ 1 _ HS1.out rfl (by decide)).mono ?_
  rintro e w4 ⟨rfl, rfl⟩
  go_wp2_with fail
  refine (is_walk w4 _ _ 3 _ HS2.out rfl (by decide)).mono ?_
  rintro e w5 ⟨rfl, rfl⟩
  go_wp2_with fail
  refine (is_walk w5 _ _ 6 _ HS3.out rfl (by decide)).mono ?_
  rintro e w6 ⟨rfl, rfl⟩
  have hz2 : w6.cell? ⟨g3, o3 + 21 + 2, none⟩ = some (.int .u8 100) := hz
  go_wp2_with fail
  go_ret
  exact ⟨rfl, HB3.out⟩
end Go.Proofs.Ytghphgpbgekoiaa
