/-
  Merged, in the order in which they build: Loc.
-/
import Derived.Test.YtefeilgbofphjaaDoorMg17
/-
  What is read depends on what is taken alone; which errors there are.
-/
namespace Go.Proofs.YtefeilgbofphjaaDoor
open Hf

/-- A result is read of some bits, whatever stands behind (in whole bytes). -/
def Loc {α : Type} (f : List Bool → Inf.Res α) : Prop := ∀ r x r', f r = .ok (x, r') → ∃ L, r = L ++ r' ∧ ∀ t, t.length % 8 = r'.length % 8 → f (L ++ t) = .ok (x, t)
/-- The errors that reading tells. -/
def Ers {α : Type} (f : List Bool → Inf.Res α) : Prop := ∀ r e, f r = .error e → e = 4 ∨ e = 20 ∨ e = 22
theorem Loc.bnd {α β : Type} {f : List Bool → Inf.Res α} {g : α → List Bool → Inf.Res β} {h : List Bool → Inf.Res β} (hf : Loc f) (hg : ∀ x r r', f r = .ok (x, r') → Loc (g x)) (h1 : ∀ r x r', f r = .ok (x, r') → h r = g x r') (h2 : ∀ r e, f r = .error e → h r = .error e) : Loc h := by
  intro r y r' hy
  cases hx : f r with
  | error e => rw [h2 r e hx] at hy; cases hy
  | ok p =>
    obtain ⟨x, r1⟩ := p
    rw [h1 r x r1 hx] at hy
    obtain ⟨L, rfl, hL⟩ := hf r x r1 hx
    obtain ⟨M, rfl, hM⟩ := hg x _ _ hx r1 y r' hy
    refine ⟨L ++ M, by rw [List.append_assoc], fun t ht => ?_⟩
    rw [List.append_assoc, h1 _ _ _ (hL (M ++ t) (by rw [List.length_append, List.length_append]; omega))]
    exact hM t ht
theorem Ers.bnd {α β : Type} {f : List Bool → Inf.Res α} {g : α → List Bool → Inf.Res β} {h : List Bool → Inf.Res β} (hf : Ers f) (hg : ∀ x r r', f r = .ok (x, r') → Ers (g x)) (h1 : ∀ r x r', f r = .ok (x, r') → h r = g x r') (h2 : ∀ r e, f r = .error e → h r = .error e) : Ers h := by
  intro r e he
  cases hx : f r with
  | error e' =>
    rw [h2 r e' hx] at he
    cases he
    exact hf r e hx
  | ok p =>
    obtain ⟨x, r1⟩ := p
    rw [h1 r x r1 hx] at he
    exact hg x _ _ hx r1 e he
theorem loc_ok {α : Type} (x : α) : Loc (fun r => .ok (x, r)) := fun r y r' h => by
  cases h
  exact ⟨[], rfl, fun t _ => rfl⟩
theorem ers_ok {α : Type} (x : α) : Ers (fun r => .ok (x, r)) := fun r e h => by cases h
theorem loc_no {α : Type} (e : Int) : Loc (fun _ => (.error e : Inf.Res α)) := fun r y r' h => by cases h
theorem ers_20 {α : Type} : Ers (fun _ => (.error 20 : Inf.Res α)) := fun r e h => by cases h; exact .inr (.inl rfl)
theorem ers_22 {α : Type} : Ers (fun _ => (.error 22 : Inf.Res α)) := fun r e h => by cases h; exact .inr (.inr rfl)
theorem loc_numb (n : Nat) : Loc (Inf.numb n) := by
  intro r x r' h
  unfold Inf.numb at h
  split at h
  · rename_i hl
    cases h
    refine ⟨r.take n, (List.take_append_drop n r).symm, fun t _ => ?_⟩
    have hn : (r.take n).length = n := by rw [List.length_take]; omega
    unfold Inf.numb
    rw [if_pos (by rw [List.length_append]; omega), List.take_append_of_le_length (by omega), List.drop_append_of_le_length (by omega), List.take_of_length_le (Nat.le_of_eq hn), List.drop_of_length_le (Nat.le_of_eq hn), List.nil_append]
  · cases h
theorem ers_numb (n : Nat) : Ers (Inf.numb n) := by
  intro r e h
  unfold Inf.numb at h
  split at h
  · cases h
  · cases h; exact .inl rfl
theorem loc_symb (zs : List Int) : Loc (Inf.symb zs) := by
  intro r s r' h
  unfold Inf.symb at h
  obtain ⟨q, hq⟩ : ∃ q, rd zs (deep zs) 0 0 r = q := ⟨_, rfl⟩
  rw [hq] at h
  obtain ⟨q1, q2, q3⟩ := q
  simp only at h
  split at h
  · rename_i h0
    subst h0
    cases h
    have hc := rd_count zs _ _ _ _ _ _ hq
    refine ⟨r.take q3, (List.take_append_drop q3 r).symm, fun t _ => ?_⟩
    have hn : (r.take q3).length = q3 := by rw [List.length_take]; omega
    have := rd_local zs (deep zs) 0 0 r (r.take q3 ++ t) q3 s (by rw [Nat.zero_add]; exact hq) (by rw [List.take_append_of_le_length (by omega), List.take_of_length_le (Nat.le_of_eq hn)])
    rw [Nat.zero_add] at this
    unfold Inf.symb
    rw [this]
    simp only
    rw [if_pos trivial, List.drop_append_of_le_length (by omega), List.drop_of_length_le (Nat.le_of_eq hn), List.nil_append]
  · cases h
theorem ers_symb (zs : List Int) : Ers (Inf.symb zs) := by
  intro r e h
  unfold Inf.symb at h
  split at h
  · cases h
  · rename_i h0
    cases h
    rcases rd_ends zs (deep zs) 0 0 r with h1 | h1 | h1
    · exact absurd h1.1 h0
    · exact .inl h1.1
    · exact .inr (.inl h1.1)
theorem scal_bnd (g s : Nat) : Loc (Inf.scal g s) ∧ Ers (Inf.scal g s) := by
  by_cases h : s < g
  · have e : Inf.scal g s = fun r => .ok (s, r) := by funext r; unfold Inf.scal; rw [if_pos h]
    rw [e]
    exact ⟨loc_ok s, ers_ok s⟩
  · have h1 : ∀ r x r', Inf.numb (s / g - 1) r = .ok (x, r') → Inf.scal g s r = (fun x r => (.ok ((g + s % g) * 2 ^ (s / g - 1) + x, r) : Inf.Res Nat)) x r' := fun r x r' hr => by unfold Inf.scal; rw [if_neg h, hr]
    have h2 : ∀ r e, Inf.numb (s / g - 1) r = .error e → Inf.scal g s r = .error e := fun r e hr => by unfold Inf.scal; rw [if_neg h, hr]
    exact ⟨(loc_numb _).bnd (fun x _ _ _ => loc_ok _) h1 h2, (ers_numb _).bnd (fun x _ _ _ => ers_ok _) h1 h2⟩
theorem long_bnd (s : Nat) : Loc (Inf.long s) ∧ Ers (Inf.long s) := by
  by_cases ha : 285 < s
  · have e : Inf.long s = fun _ => .error 20 := by funext r; unfold Inf.long; rw [if_pos ha]
    rw [e]
    exact ⟨loc_no 20, ers_20⟩
  by_cases hb : s = 285
  · have e : Inf.long s = fun r => .ok (258, r) := by funext r; unfold Inf.long; rw [if_neg ha, if_pos hb]
    rw [e]
    exact ⟨loc_ok _, ers_ok _⟩
  · have h1 : ∀ r x r', Inf.scal 4 (s - 257) r = .ok (x, r') → Inf.long s r = (fun x r => (.ok (3 + x, r) : Inf.Res Nat)) x r' := fun r x r' hr => by unfold Inf.long; rw [if_neg ha, if_neg hb, hr]
    have h2 : ∀ r e, Inf.scal 4 (s - 257) r = .error e → Inf.long s r = .error e := fun r e hr => by unfold Inf.long; rw [if_neg ha, if_neg hb, hr]
    exact ⟨(scal_bnd 4 _).1.bnd (fun x _ _ _ => loc_ok _) h1 h2, (scal_bnd 4 _).2.bnd (fun x _ _ _ => ers_ok _) h1 h2⟩
def farG (s : Nat) (r : List Bool) : Inf.Res Nat := if 29 < s then .error 20 else
    match Inf.scal 2 s r with
    | .ok (x, r) => .ok (1 + x, r)
    | .error e => .error e
theorem farG_bnd (s : Nat) : Loc (farG s) ∧ Ers (farG s) := by
  by_cases ha : 29 < s
  · have e : farG s = fun _ => .error 20 := by funext r; unfold farG; rw [if_pos ha]
    rw [e]
    exact ⟨loc_no 20, ers_20⟩
  · have h1 : ∀ r x r', Inf.scal 2 s r = .ok (x, r') → farG s r = (fun x r => (.ok (1 + x, r) : Inf.Res Nat)) x r' := fun r x r' hr => by unfold farG; rw [if_neg ha, hr]
    have h2 : ∀ r e, Inf.scal 2 s r = .error e → farG s r = .error e := fun r e hr => by unfold farG; rw [if_neg ha, hr]
    exact ⟨(scal_bnd 2 _).1.bnd (fun x _ _ _ => loc_ok _) h1 h2, (scal_bnd 2 _).2.bnd (fun x _ _ _ => ers_ok _) h1 h2⟩
theorem far_bnd (ds : List Int) : Loc (Inf.far ds) ∧ Ers (Inf.far ds) := by
  have h1 : ∀ r x r', Inf.symb ds r = .ok (x, r') → Inf.far ds r = farG x r' := fun r x r' hr => by unfold Inf.far farG; rw [hr]; rfl
  have h2 : ∀ r e, Inf.symb ds r = .error e → Inf.far ds r = .error e := fun r e hr => by unfold Inf.far; rw [hr]
  exact ⟨(loc_symb ds).bnd (fun x _ _ _ => (farG_bnd x).1) h1 h2, (ers_symb ds).bnd (fun x _ _ _ => (farG_bnd x).2) h1 h2⟩
/-- One step of a body: by any greater cap, or one that does. -/
theorem one_loc {zs ds : List Int} {most : Nat} {out o : List UInt8} {b : Bool} {r r' : List Bool} (h : one zs ds most out r = .ok ((o, b), r')) : out.length ≤ o.length ∧ (out.length ≤ most → o.length ≤ most) ∧ ∃ L, r = L ++ r' ∧ 0 < L.length ∧ ∀ most' t, o.length ≤ most' → t.length % 8 = r'.length % 8 → one zs ds most' out (L ++ t) = .ok ((o, b), t) := by
  unfold one at h
  cases hs : Inf.symb zs r with
  | error e => rw [hs] at h; cases h
  | ok p =>
    obtain ⟨s, r1⟩ := p
    rw [hs] at h
    simp only at h
    have hsl := symb_less hs
    obtain ⟨L, rfl, hL⟩ := loc_symb zs _ _ _ hs
    have hpos : 0 < L.length := by rw [List.length_append] at hsl; omega
    split at h
    · rename_i hlt
      split at h
      · cases h
      · rename_i hm
        cases h
        refine ⟨by simp, fun _ => by simp; omega, L, rfl, hpos, fun most' t hm' ht => ?_⟩
        simp at hm'
        unfold one
        rw [hL t ht]
        simp only
        rw [if_pos hlt, if_neg (by omega)]
    · rename_i hge
      split at h
      · rename_i he
        cases h
        refine ⟨Nat.le_refl _, fun h => h, L, rfl, hpos, fun most' t hm' ht => ?_⟩
        unfold one
        rw [hL t ht]
        simp only
        rw [if_neg hge, if_pos he]
      · rename_i hne
        cases hl : Inf.long s r1 with
        | error e => rw [hl] at h; cases h
        | ok p =>
          obtain ⟨n, r2⟩ := p
          rw [hl] at h
          simp only at h
          obtain ⟨M, rfl, hM⟩ := (long_bnd s).1 _ _ _ hl
          unfold Inf.back at h
          cases hf : Inf.far ds r2 with
          | error e => rw [hf] at h; cases h
          | ok p =>
            obtain ⟨d, r3⟩ := p
            rw [hf] at h
            simp only at h
            obtain ⟨N, rfl, hN⟩ := (far_bnd ds).1 _ _ _ hf
            by_cases hd : out.length < d
            · rw [if_pos hd] at h; cases h
            rw [if_neg hd] at h
            by_cases hc : most - out.length < n
            · rw [if_pos hc] at h; cases h
            rw [if_neg hc] at h
            cases h
            refine ⟨by rw [Inf.copy_length]; omega, fun _ => by rw [Inf.copy_length]; omega, L ++ (M ++ N), by simp only [List.append_assoc], by rw [List.length_append]; omega, fun most' t hm' ht => ?_⟩
            rw [Inf.copy_length] at hm'
            rw [List.append_assoc, List.append_assoc]
            unfold one
            rw [hL _ (by simp only [List.length_append]; omega)]
            simp only
            rw [if_neg hge, if_neg hne, hM _ (by simp only [List.length_append]; omega)]
            simp only
            unfold Inf.back
            rw [hN t ht]
            simp only
            rw [if_neg hd, if_neg (by omega)]
theorem one_ers (zs ds : List Int) (most : Nat) (out : List UInt8) : Ers (one zs ds most out) := by
  intro r e h
  unfold one at h
  cases hs : Inf.symb zs r with
  | error e' => rw [hs] at h; cases h; exact ers_symb zs _ _ hs
  | ok p =>
    obtain ⟨s, r1⟩ := p
    rw [hs] at h
    simp only at h
    split at h
    · split at h
      · cases h; exact .inr (.inr rfl)
      · cases h
    · split at h
      · cases h
      · cases hl : Inf.long s r1 with
        | error e' => rw [hl] at h; cases h; exact (long_bnd s).2 _ _ hl
        | ok p =>
          obtain ⟨n, r2⟩ := p
          rw [hl] at h
          simp only at h
          unfold Inf.back at h
          cases hf : Inf.far ds r2 with
          | error e' => rw [hf] at h; cases h; exact (far_bnd ds).2 _ _ hf
          | ok p =>
            obtain ⟨d, r3⟩ := p
            rw [hf] at h
            simp only at h
            by_cases hd : out.length < d
            · rw [if_pos hd] at h; cases h; exact .inr (.inl rfl)
            rw [if_neg hd] at h
            by_cases hc : most - out.length < n
            · rw [if_pos hc] at h; cases h; exact .inr (.inr rfl)
            rw [if_neg hc] at h
            cases h
theorem body_loc (zs ds : List Int) (most : Nat) : ∀ (f : Nat) (out out' : List UInt8) (r r' : List Bool), Inf.body zs ds most f out r = .ok (out', r') → out.length ≤ out'.length ∧ (out.length ≤ most → out'.length ≤ most) ∧ ∃ L, r = L ++ r' ∧ ∀ most' f' t, out'.length ≤ most' → t.length % 8 = r'.length % 8 → L.length + t.length < f' → Inf.body zs ds most' f' out (L ++ t) = .ok (out', t)
  | 0, out, out', r, r', h => by rw [Inf.body] at h; cases h
  | f + 1, out, out', r, r', h => by
    rw [body_one] at h
    cases ho : one zs ds most out r with
    | error e => rw [ho] at h; cases h
    | ok p =>
      obtain ⟨⟨o, b⟩, r1⟩ := p
      obtain ⟨h1, h2, L, rfl, hpos, hL⟩ := one_loc ho
      rw [ho] at h
      cases b with
      | true =>
        cases h
        refine ⟨h1, h2, L, rfl, fun most' f' t hm ht hf => ?_⟩
        obtain ⟨g, rfl⟩ : ∃ g, f' = g + 1 := ⟨f' - 1, by omega⟩
        rw [body_one, hL most' t hm ht]
      | false =>
        simp only at h
        obtain ⟨h3, h4, M, rfl, hM⟩ := body_loc zs ds most f o out' r1 r' h
        refine ⟨by omega, fun h => h4 (h2 h), L ++ M, by rw [List.append_assoc], fun most' f' t hm ht hf => ?_⟩
        rw [List.length_append] at hf
        obtain ⟨g, rfl⟩ : ∃ g, f' = g + 1 := ⟨f' - 1, by omega⟩
        rw [List.append_assoc, body_one, hL most' (M ++ t) (by omega) (by simp only [List.length_append]; omega)]
        exact hM most' g t hm ht (by omega)
theorem body_ers (zs ds : List Int) (most : Nat) : ∀ (f : Nat) (out : List UInt8) (r : List Bool) (e : Int), r.length < f → Inf.body zs ds most f out r = .error e → e = 4 ∨ e = 20 ∨ e = 22
  | 0, out, r, e, hf, h => by omega
  | f + 1, out, r, e, hf, h => by
    rw [body_one] at h
    cases ho : one zs ds most out r with
    | error e' => rw [ho] at h; cases h; exact one_ers zs ds most out r e ho
    | ok p =>
      obtain ⟨⟨o, b⟩, r1⟩ := p
      obtain ⟨h1, h2, L, rfl, hpos, hL⟩ := one_loc ho
      rw [List.length_append] at hf
      rw [ho] at h
      cases b with
      | true => cases h
      | false => exact body_ers zs ds most f o r1 e (by omega) h
def runG (ahead : List Int) (s : Nat) (r : List Bool) : Inf.Res (Int × Nat) :=
    if s = 16 then
      match Inf.numb 2 r with
      | .ok (x, r) => if ahead.length = 0 then .error 20 else .ok ((ahead.getD (ahead.length - 1) 0, 3 + x), r)
      | .error e => .error e
    else if s = 17 then
      match Inf.numb 3 r with
      | .ok (x, r) => .ok ((0, 3 + x), r)
      | .error e => .error e
    else if s = 18 then
      match Inf.numb 7 r with
      | .ok (x, r) => .ok ((0, 11 + x), r)
      | .error e => .error e
    else .ok (((s : Int), 1), r)
theorem run_g (zs ahead : List Int) (r : List Bool) : Inf.run zs ahead r = match Inf.symb zs r with | .ok (s, r) => runG ahead s r | .error e => .error e := by
  unfold Inf.run runG
  cases Inf.symb zs r with
  | error e => rfl
  | ok p => rfl
theorem runG_bnd (ahead : List Int) (s : Nat) : Loc (runG ahead s) ∧ Ers (runG ahead s) := by
  by_cases h16 : s = 16
  · have h2 : ∀ r e, Inf.numb 2 r = .error e → runG ahead s r = .error e := fun r e hr => by unfold runG; rw [if_pos h16, hr]
    by_cases ha : ahead.length = 0
    · have h1 : ∀ r x r', Inf.numb 2 r = .ok (x, r') → runG ahead s r = (fun _ _ => .error 20 : Nat → List Bool → Inf.Res (Int × Nat)) x r' := fun r x r' hr => by unfold runG; rw [if_pos h16, hr]; simp only; rw [if_pos ha]
      exact ⟨(loc_numb 2).bnd (fun x _ _ _ => loc_no 20) h1 h2, (ers_numb 2).bnd (fun x _ _ _ => ers_20) h1 h2⟩
    · have h1 : ∀ r x r', Inf.numb 2 r = .ok (x, r') → runG ahead s r = (fun x r => .ok ((ahead.getD (ahead.length - 1) 0, 3 + x), r) : Nat → List Bool → Inf.Res (Int × Nat)) x r' := fun r x r' hr => by unfold runG; rw [if_pos h16, hr]; simp only; rw [if_neg ha]
      exact ⟨(loc_numb 2).bnd (fun x _ _ _ => loc_ok _) h1 h2, (ers_numb 2).bnd (fun x _ _ _ => ers_ok _) h1 h2⟩
  by_cases h17 : s = 17
  · have h1 : ∀ r x r', Inf.numb 3 r = .ok (x, r') → runG ahead s r = (fun x r => .ok ((0, 3 + x), r) : Nat → List Bool → Inf.Res (Int × Nat)) x r' := fun r x r' hr => by unfold runG; rw [if_neg h16, if_pos h17, hr]
    have h2 : ∀ r e, Inf.numb 3 r = .error e → runG ahead s r = .error e := fun r e hr => by unfold runG; rw [if_neg h16, if_pos h17, hr]
    exact ⟨(loc_numb 3).bnd (fun x _ _ _ => loc_ok _) h1 h2, (ers_numb 3).bnd (fun x _ _ _ => ers_ok _) h1 h2⟩
  by_cases h18 : s = 18
  · have h1 : ∀ r x r', Inf.numb 7 r = .ok (x, r') → runG ahead s r = (fun x r => .ok ((0, 11 + x), r) : Nat → List Bool → Inf.Res (Int × Nat)) x r' := fun r x r' hr => by unfold runG; rw [if_neg h16, if_neg h17, if_pos h18, hr]
    have h2 : ∀ r e, Inf.numb 7 r = .error e → runG ahead s r = .error e := fun r e hr => by unfold runG; rw [if_neg h16, if_neg h17, if_pos h18, hr]
    exact ⟨(loc_numb 7).bnd (fun x _ _ _ => loc_ok _) h1 h2, (ers_numb 7).bnd (fun x _ _ _ => ers_ok _) h1 h2⟩
  · have e : runG ahead s = fun r => .ok (((s : Int), 1), r) := by funext r; unfold runG; rw [if_neg h16, if_neg h17, if_neg h18]
    rw [e]
    exact ⟨loc_ok _, ers_ok _⟩
theorem run_bnd (zs ahead : List Int) : Loc (Inf.run zs ahead) ∧ Ers (Inf.run zs ahead) := by
  have h1 : ∀ r x r', Inf.symb zs r = .ok (x, r') → Inf.run zs ahead r = runG ahead x r' := fun r x r' hr => by rw [run_g, hr]
  have h2 : ∀ r e, Inf.symb zs r = .error e → Inf.run zs ahead r = .error e := fun r e hr => by rw [run_g, hr]
  exact ⟨(loc_symb zs).bnd (fun x _ _ _ => (runG_bnd ahead x).1) h1 h2, (ers_symb zs).bnd (fun x _ _ _ => (runG_bnd ahead x).2) h1 h2⟩
theorem lens_bnd (zs : List Int) (many : Nat) : ∀ (f : Nat) (ahead : List Int), Loc (Inf.lens zs many f ahead) ∧ (many < f + ahead.length → 1 ≤ f → Ers (Inf.lens zs many f ahead))
  | 0, ahead => ⟨fun r x r' h => (by rw [Inf.lens] at h; cases h), fun _ h => by omega⟩
  | f + 1, ahead => by
    by_cases hlt : ahead.length < many
    · have h1 : ∀ r x r', Inf.run zs ahead r = .ok (x, r') → Inf.lens zs many (f + 1) ahead r = Inf.lens zs many f (ahead ++ List.replicate x.2 x.1) r' := fun r x r' hr => by rw [Inf.lens, if_pos hlt, hr]
      have h2 : ∀ r e, Inf.run zs ahead r = .error e → Inf.lens zs many (f + 1) ahead r = .error e := fun r e hr => by rw [Inf.lens, if_pos hlt, hr]
      refine ⟨(run_bnd zs ahead).1.bnd (fun x _ _ _ => (lens_bnd zs many f _).1) h1 h2, fun hf _ => (run_bnd zs ahead).2.bnd (fun x r r' hr => ?_) h1 h2⟩
      obtain ⟨z, t⟩ := x
      have ht := (run_ne zs ahead r).2 z t r' hr
      exact (lens_bnd zs many f _).2 (by simp only [List.length_append, List.length_replicate]; omega) (by omega)
    · by_cases hgt : many < ahead.length
      · have e : Inf.lens zs many (f + 1) ahead = fun _ => .error 20 := by funext r; rw [Inf.lens, if_neg hlt, if_pos hgt]
        rw [e]
        exact ⟨loc_no 20, fun _ _ => ers_20⟩
      · have e : Inf.lens zs many (f + 1) ahead = fun r => .ok (ahead, r) := by funext r; rw [Inf.lens, if_neg hlt, if_neg hgt]
        rw [e]
        exact ⟨loc_ok _, fun _ _ => ers_ok _⟩
/-- Lengths that are read are lengths. -/
def low (zs : List Int) : Prop := ∀ z ∈ zs, 0 ≤ z ∧ z ≤ 15
theorem low_getD {zs : List Int} (h : low zs) (i : Nat) : 0 ≤ zs.getD i 0 ∧ zs.getD i 0 ≤ 15 := by
  rcases Nat.lt_or_ge i zs.length with h1 | h1
  · have e : zs.getD i 0 = zs[i] := by simp [h1]
    rw [e]; exact h _ (List.getElem_mem h1)
  · rw [List.getD_eq_getElem?_getD, List.getElem?_eq_none h1]; simp
theorem run_low {zs ahead : List Int} {r r' : List Bool} {z : Int} {t : Nat} (hl : zs.length = 19) (ha : low ahead) (h : Inf.run zs ahead r = .ok ((z, t), r')) : 0 ≤ z ∧ z ≤ 15 := by
  rw [run_g] at h
  cases hs : Inf.symb zs r with
  | error e => rw [hs] at h; cases h
  | ok p =>
    obtain ⟨s, r1⟩ := p
    have hlt := symb_lt hs
    rw [hs] at h
    simp only [runG] at h
    split at h
    · cases hn : Inf.numb 2 r1 with
      | error e => rw [hn] at h; cases h
      | ok p =>
        obtain ⟨x, r2⟩ := p
        rw [hn] at h
        simp only at h
        split at h
        · cases h
        · cases h; exact low_getD ha _
    · split at h
      · cases hn : Inf.numb 3 r1 with
        | error e => rw [hn] at h; cases h
        | ok p => obtain ⟨x, r2⟩ := p; rw [hn] at h; cases h; exact ⟨by decide, by decide⟩
      · split at h
        · cases hn : Inf.numb 7 r1 with
          | error e => rw [hn] at h; cases h
          | ok p => obtain ⟨x, r2⟩ := p; rw [hn] at h; cases h; exact ⟨by decide, by decide⟩
        · have h2 := (Prod.mk.inj (Prod.mk.inj (Except.ok.inj h)).1).1
          omega
theorem lens_low (zs : List Int) (many : Nat) (hl : zs.length = 19) : ∀ (f : Nat) (ahead l : List Int) (r r' : List Bool), low ahead → Inf.lens zs many f ahead r = .ok (l, r') → low l
  | 0, ahead, l, r, r', ha, h => by rw [Inf.lens] at h; cases h
  | f + 1, ahead, l, r, r', ha, h => by
    rw [Inf.lens] at h
    split at h
    · cases hr : Inf.run zs ahead r with
      | error e => rw [hr] at h; cases h
      | ok p =>
        obtain ⟨⟨z, t⟩, r2⟩ := p
        have hz := run_low hl ha hr
        rw [hr] at h
        refine lens_low zs many hl f _ l r2 r' (fun y hy => ?_) h
        rcases List.mem_append.1 hy with h1 | h1
        · exact ha y h1
        · rw [(List.mem_replicate.1 h1).2]; exact hz
    · split at h
      · cases h
      · cases h; exact ha
theorem teller_bnd : ∀ (n : Nat) (l : List Int) (k : Nat), Loc (Inf.teller n l k) ∧ Ers (Inf.teller n l k)
  | 0, l, k => by
    have e : Inf.teller 0 l k = fun r => .ok (l, r) := by funext r; rw [Inf.teller]
    rw [e]
    exact ⟨loc_ok _, ers_ok _⟩
  | n + 1, l, k => by
    have h1 : ∀ r x r', Inf.numb 3 r = .ok (x, r') → Inf.teller (n + 1) l k r = Inf.teller n (l.set (Inf.order.getD k 0) (x : Int)) (k + 1) r' := fun r x r' hr => by rw [Inf.teller, hr]
    have h2 : ∀ r e, Inf.numb 3 r = .error e → Inf.teller (n + 1) l k r = .error e := fun r e hr => by rw [Inf.teller, hr]
    exact ⟨(loc_numb 3).bnd (fun x _ _ _ => (teller_bnd n _ _).1) h1 h2, (ers_numb 3).bnd (fun x _ _ _ => (teller_bnd n _ _).2) h1 h2⟩
theorem teller_low : ∀ (n : Nat) (l zs : List Int) (k : Nat) (r r' : List Bool), low l → Inf.teller n l k r = .ok (zs, r') → low zs ∧ zs.length = l.length
  | 0, l, zs, k, r, r', hl, h => by rw [Inf.teller] at h; cases h; exact ⟨hl, rfl⟩
  | n + 1, l, zs, k, r, r', hl, h => by
    rw [Inf.teller] at h
    cases hn : Inf.numb 3 r with
    | error e => rw [hn] at h; cases h
    | ok p =>
      obtain ⟨x, r1⟩ := p
      have hx := numb_lt hn
      rw [hn] at h
      have := teller_low n _ zs _ r1 r' (fun y hy => by
        rcases List.mem_or_eq_of_mem_set hy with h1 | h1
        · exact hl y h1
        · omega) h
      rw [List.length_set] at this
      exact this
theorem low_good {zs : List Int} (h : low zs) (hl : zs.length ≤ 1024) : good zs := ⟨hl, h⟩
theorem book_ers {zs : List Int} {e : Int} (h : low zs) (hl : zs.length ≤ 1024) (hb : Inf.book zs = .error e) : e = 20 := by
  unfold Inf.book at hb
  split at hb
  · cases hb
  · rename_i h0
    cases hb
    unfold may at h0 ⊢
    rw [if_pos (low_good h hl)] at h0 ⊢
    split at h0
    · exact absurd rfl h0
    · rename_i h1; rw [if_neg h1]
theorem finB_bnd (n : Nat) (all : List Int) (hlow : low all) (hl : all.length ≤ 1024) : Loc (finB n all) ∧ Ers (finB n all) := by
  have hT : low (all.take n) := fun z hz => hlow z (List.mem_of_mem_take hz)
  have hD : low (all.drop n) := fun z hz => hlow z (List.mem_of_mem_drop hz)
  have lT : (all.take n).length ≤ 1024 := by rw [List.length_take]; omega
  have lD : (all.drop n).length ≤ 1024 := by rw [List.length_drop]; omega
  by_cases h0 : all.getD 256 0 = 0
  · have e : finB n all = fun _ => .error 20 := by funext r; unfold finB; rw [if_pos h0]
    rw [e]
    exact ⟨loc_no 20, ers_20⟩
  cases h1 : Inf.book (all.take n) with
  | error er =>
    have e : finB n all = fun _ => .error er := by funext r; unfold finB; rw [if_neg h0, h1]
    rw [e, book_ers hT lT h1]
    exact ⟨loc_no 20, ers_20⟩
  | ok _ =>
    cases h2 : Inf.book (all.drop n) with
    | error er =>
      have e : finB n all = fun _ => .error er := by funext r; unfold finB; rw [if_neg h0, h1, h2]
      rw [e, book_ers hD lD h2]
      exact ⟨loc_no 20, ers_20⟩
    | ok _ =>
      have e : finB n all = fun r => .ok ((all.take n, all.drop n), r) := by funext r; unfold finB; rw [if_neg h0, h1, h2]
      rw [e]
      exact ⟨loc_ok _, ers_ok _⟩
theorem lenB_bnd (n m : Nat) (zs : List Int) (hz : zs.length = 19) (hnm : n + m ≤ 1024) : Loc (lenB n m zs) ∧ Ers (lenB n m zs) := by
  have h1 : ∀ r x r', Inf.lens zs (n + m) (n + m + 1) [] r = .ok (x, r') → lenB n m zs r = finB n x r' := fun r x r' hr => by unfold lenB; rw [hr]
  have h2 : ∀ r e, Inf.lens zs (n + m) (n + m + 1) [] r = .error e → lenB n m zs r = .error e := fun r e hr => by unfold lenB; rw [hr]
  have hx : ∀ x r r', Inf.lens zs (n + m) (n + m + 1) [] r = .ok (x, r') → Loc (finB n x) ∧ Ers (finB n x) := fun x r r' hr => finB_bnd n x (lens_low zs _ hz _ _ _ _ _ (fun z hz => by cases hz) hr) (by rw [lens_len _ _ _ _ _ _ _ hr]; exact hnm)
  have hl := lens_bnd zs (n + m) (n + m + 1) []
  exact ⟨hl.1.bnd (fun x r r' hr => (hx x r r' hr).1) h1 h2, (hl.2 (by simp) (by omega)).bnd (fun x r r' hr => (hx x r r' hr).2) h1 h2⟩
def telG (n m : Nat) (zs : List Int) (r : List Bool) : Inf.Res (List Int × List Int) := match Inf.book zs with | .ok _ => lenB n m zs r | .error e => .error e
theorem telB_bnd (n m told : Nat) (hnm : n + m ≤ 1024) : Loc (telB n m told) ∧ Ers (telB n m told) := by
  have h1 : ∀ r x r', Inf.teller told (List.replicate 19 0) 0 r = .ok (x, r') → telB n m told r = telG n m x r' := fun r x r' hr => by
    unfold telB tellR telG
    rw [hr]
    simp only [telFin]
    cases Inf.book x with
    | error e => rfl
    | ok _ => rfl
  have h2 : ∀ r e, Inf.teller told (List.replicate 19 0) 0 r = .error e → telB n m told r = .error e := fun r e hr => by
    unfold telB tellR
    rw [hr]; rfl
  have hx : ∀ x r r', Inf.teller told (List.replicate 19 0) 0 r = .ok (x, r') → Loc (telG n m x) ∧ Ers (telG n m x) := fun x r r' hr => by
    have ht := teller_low told _ x 0 r r' (fun z hz => by rw [(List.mem_replicate.1 hz).2]; exact ⟨by decide, by decide⟩) hr
    rw [List.length_replicate] at ht
    cases hb : Inf.book x with
    | error er =>
      have e : telG n m x = fun _ => .error er := by funext r; unfold telG; rw [hb]
      rw [e, book_ers ht.1 (by omega) hb]
      exact ⟨loc_no 20, ers_20⟩
    | ok _ =>
      have e : telG n m x = lenB n m x := by funext r; unfold telG; rw [hb]
      rw [e]
      exact lenB_bnd n m x ht.2 hnm
  have ht := teller_bnd told (List.replicate 19 0) 0
  exact ⟨ht.1.bnd (fun x r r' hr => (hx x r r' hr).1) h1 h2, ht.2.bnd (fun x r r' hr => (hx x r r' hr).2) h1 h2⟩
theorem headB_bnd (l d c : Nat) : Loc (headB l d c) ∧ Ers (headB l d c) := by
  by_cases h : 286 < 257 + l ∨ 30 < 1 + d
  · have e : headB l d c = fun _ => .error 20 := by funext r; unfold headB; rw [if_pos h]
    rw [e]
    exact ⟨loc_no 20, ers_20⟩
  · have e : headB l d c = telB (257 + l) (1 + d) (4 + c) := by funext r; unfold headB; rw [if_neg h]
    rw [e]
    exact telB_bnd _ _ _ (by omega)
theorem heads_bnd : Loc Inf.heads ∧ Ers Inf.heads := by
  have c1 : ∀ l d r x r', Inf.numb 4 r = .ok (x, r') → (match Inf.numb 4 r with | .ok (c, r) => headB l d c r | .error e => .error e) = headB l d x r' := fun l d r x r' hr => by rw [hr]
  have c2 : ∀ l d r e, Inf.numb 4 r = .error e → (match Inf.numb 4 r with | .ok (c, r) => headB l d c r | .error e => (.error e : Inf.Res (List Int × List Int))) = .error e := fun l d r e hr => by rw [hr]
  have b1 : ∀ l r x r', Inf.numb 5 r = .ok (x, r') → (match Inf.numb 5 r with | .ok (d, r) => (match Inf.numb 4 r with | .ok (c, r) => headB l d c r | .error e => .error e) | .error e => .error e) = (match Inf.numb 4 r' with | .ok (c, r) => headB l x c r | .error e => .error e) := fun l r x r' hr => by rw [hr]
  have b2 : ∀ l r e, Inf.numb 5 r = .error e → (match Inf.numb 5 r with | .ok (d, r) => (match Inf.numb 4 r with | .ok (c, r) => headB l d c r | .error e => .error e) | .error e => (.error e : Inf.Res (List Int × List Int))) = .error e := fun l r e hr => by rw [hr]
  have a1 : ∀ r x r', Inf.numb 5 r = .ok (x, r') → Inf.heads r = (match Inf.numb 5 r' with | .ok (d, r) => (match Inf.numb 4 r with | .ok (c, r) => headB x d c r | .error e => .error e) | .error e => .error e) := fun r x r' hr => by
    rw [heads_eq, hr]
    simp only
    cases Inf.numb 5 r' with
    | error e => rfl
    | ok p =>
      simp only
      cases Inf.numb 4 p.2 with
      | error e => rfl
      | ok p => rfl
  have a2 : ∀ r e, Inf.numb 5 r = .error e → Inf.heads r = .error e := fun r e hr => by rw [heads_eq, hr]
  constructor
  · exact (loc_numb 5).bnd (g := fun l r => match Inf.numb 5 r with | .ok (d, r) => (match Inf.numb 4 r with | .ok (c, r) => headB l d c r | .error e => .error e) | .error e => .error e)
      (fun l _ _ _ => (loc_numb 5).bnd (g := fun d r => match Inf.numb 4 r with | .ok (c, r) => headB l d c r | .error e => .error e) (fun d _ _ _ => (loc_numb 4).bnd (g := fun c r => headB l d c r) (fun c _ _ _ => (headB_bnd l d c).1) (c1 l d) (c2 l d)) (b1 l) (b2 l)) a1 a2
  · exact (ers_numb 5).bnd (g := fun l r => match Inf.numb 5 r with | .ok (d, r) => (match Inf.numb 4 r with | .ok (c, r) => headB l d c r | .error e => .error e) | .error e => .error e)
      (fun l _ _ _ => (ers_numb 5).bnd (g := fun d r => match Inf.numb 4 r with | .ok (c, r) => headB l d c r | .error e => .error e) (fun d _ _ _ => (ers_numb 4).bnd (g := fun c r => headB l d c r) (fun c _ _ _ => (headB_bnd l d c).2) (c1 l d) (c2 l d)) (b1 l) (b2 l)) a1 a2
/-- What is read under a cap: no more than it, and under any other that does. -/
def LocC (f : Nat → List Bool → Inf.Res (List UInt8)) (out : List UInt8) : Prop := ∀ most r out' r', f most r = .ok (out', r') → out.length ≤ out'.length ∧ (out.length ≤ most → out'.length ≤ most) ∧ ∃ L, r = L ++ r' ∧ ∀ most' t, out'.length ≤ most' → t.length % 8 = r'.length % 8 → f most' (L ++ t) = .ok (out', t)
theorem stored_loc (out : List UInt8) : LocC (fun most r => Inf.stored most out r) out := by
  intro most r out' r' h
  simp only [Inf.stored] at h
  cases h1 : Inf.numb 16 (r.drop (r.length % 8)) with
  | error e => rw [h1] at h; cases h
  | ok p =>
    obtain ⟨n, r1⟩ := p
    rw [h1] at h
    simp only at h
    cases h2 : Inf.numb 16 r1 with
    | error e => rw [h2] at h; cases h
    | ok p =>
      obtain ⟨m, r2⟩ := p
      rw [h2] at h
      simp only at h
      obtain ⟨L, e1, hL⟩ := loc_numb 16 _ _ _ h1
      obtain ⟨M, rfl, hM⟩ := loc_numb 16 _ _ _ h2
      by_cases hm : m ≠ 65535 - n
      · rw [if_pos hm] at h; cases h
      rw [if_neg hm] at h
      unfold Inf.take at h
      by_cases c1 : most - out.length < min n (r2.length / 8)
      · rw [if_pos c1] at h; cases h
      rw [if_neg c1] at h
      by_cases c2 : r2.length / 8 < n
      · rw [if_pos c2] at h; cases h
      rw [if_neg c2] at h
      cases h
      have hbl := Inf.byts_length n r2
      refine ⟨by rw [List.length_append]; omega, fun _ => by rw [List.length_append]; omega, r.take (r.length % 8) ++ (L ++ (M ++ r2.take (8 * n))), ?_, fun most' t hm' ht => ?_⟩
      · have := (List.take_append_drop (r.length % 8) r).symm
        rw [e1] at this
        rw [List.append_assoc, List.append_assoc, List.append_assoc, List.take_append_drop]
        exact this
      · rw [List.length_append] at hm'
        have hlen := congrArg List.length e1
        simp only [List.length_append, List.length_drop] at hlen ht
        have hT : (r.take (r.length % 8)).length = r.length % 8 := by rw [List.length_take]; omega
        have hR : (r2.take (8 * n)).length = 8 * n := by rw [List.length_take]; omega
        have hw : (r.take (r.length % 8) ++ (L ++ (M ++ r2.take (8 * n))) ++ t).length % 8 = r.length % 8 := by
          simp only [List.length_append, hT, hR]; omega
        simp only [Inf.stored]
        rw [hw]
        have hd : (r.take (r.length % 8) ++ (L ++ (M ++ r2.take (8 * n))) ++ t).drop (r.length % 8) = L ++ (M ++ (r2.take (8 * n) ++ t)) := by
          rw [List.append_assoc, List.drop_append_of_le_length (by omega), List.drop_of_length_le (by omega), List.nil_append]
          simp only [List.append_assoc]
        rw [hd, hL _ (by simp only [List.length_append, hR]; omega)]
        simp only
        rw [hM _ (by simp only [List.length_append, hR]; omega)]
        simp only
        rw [if_neg hm]
        unfold Inf.take
        have hq : (r2.take (8 * n) ++ t).length / 8 = n + t.length / 8 := by rw [List.length_append, hR]; omega
        rw [hq, Nat.min_eq_left (by omega), if_neg (by omega), if_neg (by omega), List.drop_append_of_le_length (by omega), List.drop_of_length_le (by omega), List.nil_append]
        have hbt : ∀ (n : Nat) (a b : List Bool), 8 * n ≤ a.length → Inf.byts n (a.take (8 * n) ++ b) = Inf.byts n a := by
          intro n
          induction n with
          | zero => intro a b _; rfl
          | succ n ih =>
            intro a b ha
            have l1 : (a.take (8 * (n + 1))).length = 8 * (n + 1) := by rw [List.length_take]; omega
            rw [Inf.byts, Inf.byts, List.take_append_of_le_length (by omega), List.drop_append_of_le_length (by omega), List.take_take, Nat.min_eq_left (by omega), List.drop_take, show 8 * (n + 1) - 8 = 8 * n by omega, ih _ _ (by rw [List.length_drop]; omega)]
        rw [hbt n r2 t (by omega)]
theorem stored_ers (most : Nat) (out : List UInt8) : Ers (Inf.stored most out) := by
  intro r e h
  unfold Inf.stored at h
  cases h1 : Inf.numb 16 (r.drop (r.length % 8)) with
  | error e' => rw [h1] at h; cases h; exact ers_numb 16 _ _ h1
  | ok p =>
    obtain ⟨n, r1⟩ := p
    rw [h1] at h
    simp only at h
    cases h2 : Inf.numb 16 r1 with
    | error e' => rw [h2] at h; cases h; exact ers_numb 16 _ _ h2
    | ok p =>
      obtain ⟨m, r2⟩ := p
      rw [h2] at h
      simp only at h
      by_cases hm : m ≠ 65535 - n
      · rw [if_pos hm] at h; cases h; exact .inr (.inl rfl)
      rw [if_neg hm] at h
      unfold Inf.take at h
      split at h
      · cases h; exact .inr (.inr rfl)
      split at h
      · cases h; exact .inl rfl
      · cases h
theorem kind_loc (k : Nat) (out : List UInt8) : LocC (fun most r => kindB most out k r) out := by
  intro most r out' r' h
  simp only [kindB] at h ⊢
  by_cases h0 : k = 0
  · rw [if_pos h0] at h
    have := stored_loc out most r out' r' h
    simpa only [if_pos h0] using this
  simp only [if_neg h0] at h ⊢
  by_cases h1 : k = 1
  · rw [if_pos h1] at h
    simp only [if_pos h1]
    obtain ⟨a, b, L, e, hL⟩ := body_loc _ _ _ _ _ _ _ _ h
    exact ⟨a, b, L, e, fun most' t hm ht => hL most' _ t hm ht (by rw [List.length_append]; omega)⟩
  simp only [if_neg h1] at h ⊢
  by_cases h2 : k = 2
  · rw [if_pos h2] at h
    simp only [if_pos h2]
    cases hh : Inf.heads r with
    | error e => rw [hh] at h; cases h
    | ok p =>
      obtain ⟨⟨zs, ds⟩, r1⟩ := p
      rw [hh] at h
      simp only at h
      obtain ⟨L, rfl, hL⟩ := heads_bnd.1 _ _ _ hh
      obtain ⟨a, b, M, rfl, hM⟩ := body_loc _ _ _ _ _ _ _ _ h
      refine ⟨a, b, L ++ M, by rw [List.append_assoc], fun most' t hm ht => ?_⟩
      rw [List.append_assoc, hL (M ++ t) (by simp only [List.length_append]; omega)]
      exact hM most' _ t hm ht (by rw [List.length_append]; omega)
  · rw [if_neg h2] at h; cases h
theorem kind_ers (k most : Nat) (out : List UInt8) : Ers (kindB most out k) := by
  intro r e h
  unfold kindB at h
  split at h
  · exact stored_ers most out r e h
  split at h
  · exact body_ers _ _ _ _ _ _ _ (by omega) h
  split at h
  · cases hh : Inf.heads r with
    | error e' => rw [hh] at h; cases h; exact heads_bnd.2 _ _ hh
    | ok p =>
      obtain ⟨⟨zs, ds⟩, r1⟩ := p
      rw [hh] at h
      exact body_ers _ _ _ _ _ _ _ (by omega) h
  · cases h; exact .inr (.inl rfl)
theorem block_loc {most : Nat} {out out' : List UInt8} {k : Inf.Blk} {r r' : List Bool} (h : Inf.block most out r = .ok ((k, out'), r')) : out.length ≤ out'.length ∧ (out.length ≤ most → out'.length ≤ most) ∧ ∃ L, r = L ++ r' ∧ ∀ most' t, out'.length ≤ most' → t.length % 8 = r'.length % 8 → Inf.block most' out (L ++ t) = .ok ((k, out'), t) := by
  rw [block_eq] at h
  cases h1 : Inf.numb 1 r with
  | error e => rw [h1] at h; cases h
  | ok p =>
    obtain ⟨l, r1⟩ := p
    rw [h1] at h
    simp only at h
    cases h2 : Inf.numb 2 r1 with
    | error e => rw [h2] at h; cases h
    | ok p =>
      obtain ⟨kd, r2⟩ := p
      rw [h2] at h
      simp only at h
      cases h3 : kindB most out kd r2 with
      | error e => rw [h3] at h; cases h
      | ok p =>
        obtain ⟨o2, r3⟩ := p
        rw [h3] at h
        simp only [finK] at h
        cases h
        obtain ⟨L, rfl, hL⟩ := loc_numb 1 _ _ _ h1
        obtain ⟨M, rfl, hM⟩ := loc_numb 2 _ _ _ h2
        obtain ⟨a, b, N, rfl, hN⟩ := kind_loc kd out most _ _ _ h3
        refine ⟨a, b, L ++ (M ++ N), by simp only [List.append_assoc], fun most' t hm ht => ?_⟩
        rw [List.append_assoc, List.append_assoc, block_eq, hL _ (by simp only [List.length_append]; omega)]
        simp only
        rw [hM _ (by simp only [List.length_append]; omega)]
        simp only
        have := hN most' t hm ht
        simp only at this
        rw [this]
        rfl
theorem block_ers (most : Nat) (out : List UInt8) : Ers (Inf.block most out) := by
  intro r e h
  rw [block_eq] at h
  cases h1 : Inf.numb 1 r with
  | error e' => rw [h1] at h; cases h; exact ers_numb 1 _ _ h1
  | ok p =>
    obtain ⟨l, r1⟩ := p
    rw [h1] at h
    simp only at h
    cases h2 : Inf.numb 2 r1 with
    | error e' => rw [h2] at h; cases h; exact ers_numb 2 _ _ h2
    | ok p =>
      obtain ⟨kd, r2⟩ := p
      rw [h2] at h
      simp only at h
      cases h3 : kindB most out kd r2 with
      | error e' => rw [h3] at h; cases h; exact kind_ers kd most out _ _ h3
      | ok p => rw [h3] at h; cases h
theorem blocks_loc (most : Nat) : ∀ (f : Nat) (ks ks' : List Inf.Blk) (out out' : List UInt8) (r r' : List Bool), Inf.blocks most f ks out r = .ok ((ks', out'), r') → out.length ≤ out'.length ∧ (out.length ≤ most → out'.length ≤ most) ∧ ∃ L, r = L ++ r' ∧ ∀ most' f' t, out'.length ≤ most' → t.length % 8 = r'.length % 8 → L.length + t.length < f' → Inf.blocks most' f' ks out (L ++ t) = .ok ((ks', out'), t)
  | 0, ks, ks', out, out', r, r', h => by rw [Inf.blocks] at h; cases h
  | f + 1, ks, ks', out, out', r, r', h => by
    rw [blocks_succ] at h
    cases hb : Inf.block most out r with
    | error e => rw [hb] at h; cases h
    | ok p =>
      obtain ⟨⟨k, o2⟩, r1⟩ := p
      have hless := block_less hb
      obtain ⟨a, b, L, rfl, hL⟩ := block_loc hb
      rw [List.length_append] at hless
      rw [hb] at h
      simp only at h
      by_cases hk : k.last = true
      · rw [if_pos hk] at h
        cases h
        refine ⟨a, b, L, rfl, fun most' f' t hm ht hf => ?_⟩
        obtain ⟨g, rfl⟩ : ∃ g, f' = g + 1 := ⟨f' - 1, by omega⟩
        rw [blocks_succ, hL most' t hm ht]
        simp only
        rw [if_pos hk]
      · rw [if_neg hk] at h
        obtain ⟨c, d, M, rfl, hM⟩ := blocks_loc most f _ ks' o2 out' r1 r' h
        refine ⟨by omega, fun h => d (b h), L ++ M, by rw [List.append_assoc], fun most' f' t hm ht hf => ?_⟩
        rw [List.length_append] at hf
        obtain ⟨g, rfl⟩ : ∃ g, f' = g + 1 := ⟨f' - 1, by omega⟩
        rw [List.append_assoc, blocks_succ, hL most' _ (by omega) (by simp only [List.length_append]; omega)]
        simp only
        rw [if_neg hk]
        exact hM most' g t hm ht (by omega)
theorem blocks_ers (most : Nat) : ∀ (f : Nat) (ks : List Inf.Blk) (out : List UInt8) (r : List Bool) (e : Int), r.length < f → Inf.blocks most f ks out r = .error e → e = 4 ∨ e = 20 ∨ e = 22
  | 0, ks, out, r, e, hf, h => by omega
  | f + 1, ks, out, r, e, hf, h => by
    rw [blocks_succ] at h
    cases hb : Inf.block most out r with
    | error e' => rw [hb] at h; cases h; exact block_ers most out r e hb
    | ok p =>
      obtain ⟨⟨k, o2⟩, r1⟩ := p
      have hless := block_less hb
      rw [hb] at h
      simp only at h
      split at h
      · cases h
      · exact blocks_ers most f _ o2 r1 e (by omega) h
/-- A stream by itself, under a cap of what went out of it. -/
theorem all_again {b : List UInt8} {most : Nat} {ks : List Inf.Blk} {out : List UInt8} {r : List Bool} (h : Inf.all b most = .ok ((ks, out), r)) : out.length ≤ most ∧ r.length / 8 ≤ b.length ∧ ∃ r', Inf.all (b.take (b.length - r.length / 8)) out.length = .ok ((ks, out), r') ∧ r'.length / 8 = 0 := by
  unfold Inf.all at h
  obtain ⟨h1, h2, L, e, hL⟩ := blocks_loc _ _ _ _ _ _ _ _ h
  have hbl := bits_length b
  have hlen := congrArg List.length e
  rw [List.length_append, hbl] at hlen
  refine ⟨h2 (Nat.zero_le _), by omega, r.take (r.length % 8), ?_, by rw [List.length_take]; omega⟩
  have ht : ∀ (b : List UInt8) n, Inf.bits (b.take n) = (Inf.bits b).take (8 * n) := by
    intro b
    induction b with
    | nil => intro n; simp [Inf.bits]
    | cons x b ih =>
      intro n
      cases n with
      | zero => simp [Inf.bits]
      | succ n =>
        have e8 : (8 + 8 * n) - (num x.toNat 8).length = 8 * n := by rw [num_length]; omega
        have e9 : (num x.toNat 8).take (8 + 8 * n) = num x.toNat 8 := List.take_of_length_le (by rw [num_length]; omega)
        rw [List.take_succ_cons, bits_cons8, bits_cons8, ih, show 8 * (n + 1) = 8 + 8 * n by omega, List.take_append, e8, e9]
  unfold Inf.all
  have hk : 8 * (b.length - r.length / 8) = L.length + r.length % 8 := by omega
  rw [ht, e, List.take_append, hk, show L.length + r.length % 8 - L.length = r.length % 8 by omega, List.take_of_length_le (show L.length ≤ L.length + r.length % 8 by omega)]
  refine hL _ _ _ (Nat.le_refl _) (by rw [List.length_take]; omega) ?_
  rw [List.length_take, List.length_take]
  omega
theorem all_ers {b : List UInt8} {most : Nat} {e : Int} (h : Inf.all b most = .error e) : e = 4 ∨ e = 20 ∨ e = 22 :=
  blocks_ers _ _ _ _ _ _ (by rw [bits_length]; omega) h
end Go.Proofs.YtefeilgbofphjaaDoor
