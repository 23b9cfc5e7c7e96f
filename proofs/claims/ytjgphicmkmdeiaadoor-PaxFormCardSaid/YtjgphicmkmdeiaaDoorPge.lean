/-
  The law on Get.
-/
import Derived.Test.YtjgphicmkmdeiaaDoorPgc
import Derived.Test.YtjgphicmkmdeiaaDoorPgd
import Derived.Test.YtjgphicmkmdeiaaDoorPta
namespace Go.Proofs.YtjgphicmkmdeiaaDoor
open Go.RowKit Go.Maps

theorem SlV.takeB {w : World} {p : Option Addr} {n cap : Nat} {L : List UInt8} (h : SlV w (.slice p n cap) (bl L)) (k : Nat) (hk : k ≤ n) : SlV w (.slice p k cap) (bl (L.take k)) := by
  have e : bl (L.take k) = (bl L).take k := by simp [bl]
  have hn := h.len
  rw [e]
  rcases h with ⟨g, o, cap', h, h2, hB⟩ | ⟨p', h, h0⟩
  · cases h
    have hl : ((bl L).take k).length = k := by rw [List.length_take]; omega
    exact .inl ⟨g, o, cap, by rw [hl], by rw [hl]; omega, hB.take k⟩
  · cases h
    obtain rfl : k = 0 := by omega
    exact .inr ⟨p, rfl, by rw [h0]; rfl⟩
theorem get_len : ∀ (m : Nat) (s : List UInt8) (rs : List Px.Rec), s.length ≤ m → Px.get s = .ok rs → rs.length ≤ s.length := by
  intro m
  induction m with
  | zero =>
    intro s rs h h1
    obtain rfl : s = [] := List.eq_nil_of_length_eq_zero (by omega)
    rw [Px.get_nil] at h1
    cases h1
    exact Nat.le_refl _
  | succ m ih =>
    intro s rs h h1
    by_cases hs : s = []
    · subst hs
      rw [Px.get_nil] at h1
      cases h1
      exact Nat.le_refl _
    · cases ho : Px.one s with
      | error x => rw [Px.get_stop hs ho] at h1; cases h1
      | ok pr =>
        obtain ⟨r, rest⟩ := pr
        have hl := Px.one_less ho
        rw [Px.get_one ho] at h1
        cases hg : Px.get rest with
        | error x => rw [hg] at h1; cases h1
        | ok t =>
          rw [hg] at h1
          have := ih rest t (by omega) hg
          cases h1
          simp only [List.length_cons]
          omega
theorem get_err (w : World) (v : Value) (T : List UInt8) (hv : SlV w v (bl T)) (hT : T.length ≤ 2000) (hP : PxAt w) (x : Nat) (hg : Px.get T = .error x) :
    Calls Tryd.prog 18 #[v] w fun e w' => e = .returned (.tuple #[.slice none 0 0, .int .i64 (x : Int)]) ∧ Below w.heap.size w w' := by
  refine (get_walk w v T hv (by omega) hP).mono ?_
  rintro e w' ⟨hb, ⟨h, _⟩ | ⟨_, y, h1, h2⟩ | ⟨_, rs, u, h1, _⟩⟩
  · omega
  · rw [hg] at h1; cases h1; exact ⟨h2, hb⟩
  · rw [hg] at h1; cases h1
theorem get_good (w : World) (v : Value) (T : List UInt8) (hv : SlV w v (bl T)) (hT : T.length ≤ 2000) (hP : PxAt w) (rs : List Px.Rec) (hg : Px.get T = .ok rs) :
    Calls Tryd.prog 18 #[v] w fun e w' => ∃ u, e = .returned (.tuple #[u, .int .i64 0]) ∧ SlR w' u rs ∧ Below w.heap.size w w' := by
  refine (get_walk w v T hv (by omega) hP).mono ?_
  rintro e w' ⟨hb, ⟨h, _⟩ | ⟨_, y, h1, h2⟩ | ⟨_, ss, u, h1, h2, h3⟩⟩
  · omega
  · rw [hg] at h1; cases h1
  · rw [hg] at h1; cases h1; exact ⟨u, h2, h3.toR, hb⟩
theorem rget_err (w : World) (v : Value) (T : List UInt8) (hv : SlV w v (bl T)) (hT : T.length ≤ 2000) (x : Nat) (hg : Px.get T = .error x) :
    Calls Tryd.prog 19 #[v] w fun e w' => e = .returned (.tuple #[.slice none 0 0, .int .i64 (x : Int)]) ∧ Below w.heap.size w w' := by
  refine (rget_walk w v T hv hT).mono ?_
  rintro e w' ⟨hb, ⟨y, h1, h2⟩ | ⟨rs, u, h1, _⟩⟩
  · rw [hg] at h1; cases h1; exact ⟨h2, hb⟩
  · rw [hg] at h1; cases h1
theorem rget_good (w : World) (v : Value) (T : List UInt8) (hv : SlV w v (bl T)) (hT : T.length ≤ 2000) (rs : List Px.Rec) (hg : Px.get T = .ok rs) :
    Calls Tryd.prog 19 #[v] w fun e w' => ∃ u, e = .returned (.tuple #[u, .int .i64 0]) ∧ SlR w' u rs ∧ Below w.heap.size w w' := by
  refine (rget_walk w v T hv hT).mono ?_
  rintro e w' ⟨hb, ⟨y, h1, h2⟩ | ⟨ss, u, h1, h2, h3⟩⟩
  · rw [hg] at h1; cases h1
  · rw [hg] at h1; cases h1; exact ⟨u, h2, h3.toR, hb⟩
end Go.Proofs.YtjgphicmkmdeiaaDoor
