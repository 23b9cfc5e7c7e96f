/-
  The contract of Next.
-/
import Derived.Test.YtoifppfhnedahaaNext
namespace Go.Proofs.Ytoifppfhnedahaa
open Go.RowKit Hf

theorem catch_idle (p q : Addr) (w : World) :
    CallsD Try.prog 37 #[.pointer (some p), .pointer (some q)] .returning w fun e u' w' => e = .returned (.tuple #[]) ∧ u' = .returning ∧ w' = w := by
  refine callsD_of_wpS Try.func37 rfl fun c₀ cs hu => ?_
  apply wpS_seq
  apply wpS_region
  simp [wpOpsS, go_sem, recoverD, hu, Try.ntmps37, Exit.thenS]
  refine wpS_cond (t := false) (by simp [Act.eval, Array.replicate]) ?_
  simp only [Bool.false_eq_true, if_false]
  refine wpS_of_wp (wp_skip ?_)
  cases c₀
  simp_all [bodyPostS, results, Try.results37]
def NextPost (gf : Nat) (v : Value) (zs : List Int) (l : List Bool) (k : Nat) (w : World) (e : Ending) (w' : World) : Prop :=
  e = .returned (.tuple #[.int .i64 ((rd zs (deep zs) 0 0 (l.drop k)).1 : Nat), .int .i64 (rd zs (deep zs) 0 0 (l.drop k)).2.1]) ∧ FeedAt w' gf v l (k + (rd zs (deep zs) 0 0 (l.drop k)).2.2) ∧ OnlyS (· = gf) w w'
set_option maxRecDepth 100000 in
set_option maxHeartbeats 1000000 in
theorem Next_nil (fn : Fn) (first cap : Array Value) (w : World) : Calls Try.prog 23 #[.pointer none, .func fn first cap] w fun e w' => e = .returned (.tuple #[.int .i64 0, .int .i64 20]) ∧ Below w.heap.size w w' := by
  have hmf : ∀ (fn : Fn) (first cap : Array Value) (w : World), (Instr.makeFunc fn first cap).run Try.prog w = .ok (.func fn first cap) w := fun _ _ _ _ => rfl
  have HB : Hid (Below w.heap.size w (((w.alloc (.cells #[.func fn first cap] 52)).alloc (.cells #[.int .i64 0] 3)).alloc (.cells #[.int .i64 20] 23))) := Lib.hid ((((Below.refl _ _).alloc (Nat.le_refl _) _).alloc (by simp) _).alloc (by simp; omega) _)
  go_enter_defers Try.func23, Try.ntmps23
  go_wp2_with fail
  unfold bodyPostD
  simp [Leaves, results, Try.results23, go_sem]
  exact HB.out
/-- The world in which find is called. -/
def nw (w : World) (f : Value) : World := (((w.alloc (.cells #[f] 52)).alloc (.cells #[.int .i64 0] 3)).alloc (.cells #[.int .i64 0] 23)).alloc (.cells #[.int .u32 0] 33)
theorem nw_size (w : World) (f : Value) : (nw w f).heap.size = w.heap.size + 1 + 1 + 1 + 1 := by simp [nw]
theorem nw_below (w : World) (f : Value) : Below w.heap.size w (nw w f) := ((((Below.refl _ _).alloc (Nat.le_refl _) _).alloc (by simp) _).alloc (by simp; omega) _).alloc (by simp; omega) _
theorem box_keep {w : World} {g : Nat} {x : Value} {T : TypeId} (h : BoxAt w g x T) (o : Obj) : BoxAt (w.alloc o) g x T := (Below.heap_alloc w o _ h.lt).trans h
theorem nw_boxes (w : World) (f : Value) : BoxAt (nw w f) w.heap.size f 52 ∧ BoxAt (nw w f) (w.heap.size + 1) (.int .i64 0) 3 ∧ BoxAt (nw w f) (w.heap.size + 1 + 1) (.int .i64 0) 23 ∧ BoxAt (nw w f) (w.heap.size + 1 + 1 + 1) (.int .u32 0) 33 := by
  refine ⟨box_keep (box_keep (box_keep (BoxAt.new _ _ _) _) _) _, ?_, ?_, ?_⟩
  · have := BoxAt.new (w.alloc (.cells #[f] 52)) (.int .i64 0) 3
    rw [World.size_alloc] at this
    exact box_keep (box_keep this _) _
  · have := BoxAt.new ((w.alloc (.cells #[f] 52)).alloc (.cells #[.int .i64 0] 3)) (.int .i64 0) 23
    rw [World.size_alloc, World.size_alloc] at this
    exact box_keep this _
  · have := BoxAt.new (((w.alloc (.cells #[f] 52)).alloc (.cells #[.int .i64 0] 3)).alloc (.cells #[.int .i64 0] 23)) (.int .u32 0) 33
    rw [World.size_alloc, World.size_alloc, World.size_alloc] at this
    exact this
set_option maxRecDepth 100000 in
set_option maxHeartbeats 1000000 in
theorem Next_walk (w : World) (lo hi g gf : Nat) (v : Value) (zs : List Int) (l : List Bool) (k : Nat) (hB : BookAt w lo hi g zs) (hd : deep zs ≤ 15) (h : FeedAt w gf v l k)
    (hf : gf < lo ∨ hi ≤ gf) (hhi : hi ≤ w.heap.size) (hv : ∀ p n cap, v = .slice (some p) n cap → 0 < n → p.block < w.heap.size) (hl : zs.length ≤ 1024) :
    Calls Try.prog 23 #[.pointer (some ⟨g, 0, none⟩), .func (.func 24) #[.pointer (some ⟨gf, 0, none⟩)] #[]] w (NextPost gf v zs l k w) := by
  have hmf : ∀ (fn : Fn) (first cap : Array Value) (w : World), (Instr.makeFunc fn first cap).run Try.prog w = .ok (.func fn first cap) w := fun _ _ _ _ => rfl
  have HW := Lib.hid (nw_below w (.func (.func 24) #[.pointer (some ⟨gf, 0, none⟩)] #[]))
  have HX := Lib.hid (nw_boxes w (.func (.func 24) #[.pointer (some ⟨gf, 0, none⟩)] #[]))
  have hgf := h.lt
  have HS := Lib.hid (nw_size w (.func (.func 24) #[.pointer (some ⟨gf, 0, none⟩)] #[]))
  have HO : Hid (OnlyS (fun _ => False) w (nw w (.func (.func 24) #[.pointer (some ⟨gf, 0, none⟩)] #[]))) := Lib.hid (OnlyS.of_below HW.out)
  have HB := Lib.hid (hB.only HO.out (fun _ _ _ h => h))
  have HF := Lib.hid (h.only HO.out (fun h => h) (fun _ _ _ _ _ h => h))
  have HV := Lib.hid hv
  clear hB h hv
  go_enter_defers Try.func23, Try.ntmps23
  go_wp2_with fail
  change Calls _ _ _ (nw w _) _
  generalize nw w (.func (.func 24) #[.pointer (some ⟨gf, 0, none⟩)] #[]) = W at *
  generalize hG : w.heap.size = G at *
  have HG := Lib.hid hG
  clear hG
  refine (find_walk W lo hi g G (G + 1 + 1 + 1) gf v zs l k HB.out hd HF.out HX.out.1 HX.out.2.2.2 (by omega) (by omega) (fun p n cap e h => by have := HV.out p n cap e h; omega) hf (by omega) hl).mono ?_
  rintro e w1 ⟨rfl, hF, hO⟩
  have hb1 := HX.out.2.1.only hO (by omega)
  have hb2 := HX.out.2.2.1.only hO (by omega)
  have hc1 := hb1.cell
  have hc2 := hb2.cell
  have hf1 := hb1.free
  have hf2 := hb2.free
  have HB1 := Lib.hid hb1
  have HB2 := Lib.hid hb2
  have HF := Lib.hid hF
  have HOO := Lib.hid hO
  clear hb1 hb2 hF hO
  obtain ⟨r, hr⟩ : ∃ r, r = rd zs (deep zs) 0 0 (l.drop k) := ⟨_, rfl⟩
  rw [← hr] at HF ⊢
  have HR := Lib.hid hr
  clear hr
  obtain ⟨s, e, t⟩ := r
  simp only at HF ⊢
  go_wp2_with fail
  have hx2 := (HB2.out.only (S := (· = G + 1)) (OnlyS.setCell w1 (G + 1) 0 (.int .i64 (s : Int)) rfl) (by omega)).set (.int .i64 e)
  have hx1 := (HB1.out.set (.int .i64 (s : Int))).only (S := (· = G + 1 + 1)) (OnlyS.setCell _ (G + 1 + 1) 0 (.int .i64 e) rfl) (by omega)
  have hO2 : OnlyS (fun i => G ≤ i) w1 ((w1.setCell ⟨G + 1, 0, none⟩ (.int .i64 (s : Int))).setCell ⟨G + 1 + 1, 0, none⟩ (.int .i64 e)) := (OnlyS.setCell _ _ _ _ (by omega)).trans (OnlyS.setCell _ _ _ _ (by omega))
  have hF2 := HF.out.only hO2 (by omega) (fun p n cap e h => by have := HV.out p n cap e h; omega)
  generalize (w1.setCell ⟨G + 1, 0, none⟩ (.int .i64 (s : Int))).setCell ⟨G + 1 + 1, 0, none⟩ (.int .i64 e) = w2 at *
  refine leaves_cons (f := 37) (args := #[.pointer (some ⟨G + 1, 0, none⟩), .pointer (some ⟨G + 1 + 1, 0, none⟩)]) (by simp) (by simp [go_sem]) ?_
  refine (catch_idle ⟨G + 1, 0, none⟩ ⟨G + 1 + 1, 0, none⟩ _).mono ?_
  rintro e2 u' w'' ⟨rfl, rfl, rfl⟩
  have hc3 := hx1.cell
  have hc4 := hx2.cell
  have HP : Hid (NextPost gf v zs l k w (.returned (.tuple #[.int .i64 (s : Int), .int .i64 e])) w'') := by
    refine Lib.hid ⟨by rw [← HR.out], by rw [← HR.out]; exact hF2, ?_⟩
    refine ((OnlyS.of_below (by rw [HG.out]; exact HW.out) : OnlyS (· = gf) w W).trans' HOO.out (fun i h => by have := HG.out; omega)).trans' hO2 (fun i h => by have := HG.out; omega)
  clear hO2 hF2 hx1 hx2
  simp [Leaves, settle, results, Try.results23, go_sem, hc3, hc4]
  exact HP.out
end Go.Proofs.Ytoifppfhnedahaa
