/-
  Merged, in the order in which they build: Dfh Dfs.
-/
import Derived.Test.YtphdcgioeokfbaaDoorMg25
/-
  Deflate as mathematics: what stands in a block, its heading, its three ways.
-/
namespace Go.Proofs.YtphdcgioeokfbaaDoor
open Hf
namespace Df
/-- A step: how long, how far, its byte. -/
abbrev Z := Int × Int × UInt8
def okZ (s : Z) : Prop := s.1 = 0 ∨ (3 ≤ s.1 ∧ s.1 ≤ 258 ∧ 1 ≤ s.2.1 ∧ s.2.1 ≤ 32768)
def tok (s : Z) : Tok := if s.1 = 0 then .lit s.2.2.toNat else .cpy s.1.toNat s.2.1.toNat (lsg s.1.toNat) (fsg s.2.1.toNat)
def sg1 : Tok → Nat
  | .lit b => b
  | .cpy _ _ a _ => a.s
def ds1 : Tok → List Nat
  | .lit _ => []
  | .cpy _ _ _ b => [b.s]
def bt1 : Tok → Nat
  | .lit _ => 0
  | .cpy _ _ a b => a.m + b.m
/-- What may stand in a block. -/
def low : Tok → Prop
  | .lit b => b < 256
  | .cpy n d a b => LSg n a ∧ FSg d b
theorem tok_low {s : Z} (h : okZ s) : low (tok s) := by
  unfold tok
  rcases h with h | h
  · rw [if_pos h]
    show s.2.2.toNat < 256
    have := s.2.2.toNat_lt; omega
  · rw [if_neg (by omega)]
    exact ⟨lsg_ok _ (by omega) (by omega), fsg_ok _ (by omega) (by omega)⟩
theorem low_sg {t : Tok} (h : low t) : sg1 t < 286 := by
  cases t with
  | lit b => have h' : b < 256 := h; show b < 286; omega
  | cpy n d a b => have := LSg.s_gt h.1; show a.s < 286; omega
theorem low_ds {t : Tok} (h : low t) : ∀ s ∈ ds1 t, s < 30 := by
  cases t with
  | lit b => intro s hs; cases hs
  | cpy n d a b =>
    intro s hs
    have e : s = b.s := by simpa [ds1] using hs
    have := h.2.1
    omega
def sgsL (ts : List Tok) : List Nat := ts.map sg1 ++ [256]
def dssL (ts : List Tok) : List Nat := ts.flatMap ds1
def cS (ts : List Tok) : List Int := cnt (sgsL ts) 286
def cD (ts : List Tok) : List Int := cnt (dssL ts) 30
def cB (ts : List Tok) : Nat := (ts.map bt1).sum
/-- The lengths that are told: up to the last one that is not 0, n at least. -/
def cut (n : Nat) (l : List Int) : List Int := l.take (max n (usd l))
def zS (ts : List Tok) : List Int := cut 257 (lensF (cS ts) 15)
def zD (ts : List Tok) : List Int := cut 1 (lensF (cD ts) 15)
def gS (ts : List Tok) : List Sg := runsOf (zS ts ++ zD ts)
def fS (ts : List Tok) : List Int := lensF (cnt ((gS ts).map (·.s)) 19) 7
def toldN (first : List Int) : Nat → Nat
  | 0 => 0
  | n + 1 => if 4 < n + 1 ∧ first.getD (Inf.order.getD n 0) 0 = 0 then toldN first n else n + 1
def tS (ts : List Tok) : Nat := toldN (fS ts) 19
theorem toldN_facts (first : List Int) : ∀ n, 4 ≤ n → 4 ≤ toldN first n ∧ toldN first n ≤ n ∧ ∀ k, toldN first n ≤ k → k < n → first.getD (Inf.order.getD k 0) 0 = 0
  | 0, h => by omega
  | n + 1, h => by
    rw [toldN]
    split
    · rename_i h1
      obtain ⟨a, b, c⟩ := toldN_facts first n (by omega)
      refine ⟨a, by omega, fun k h2 h3 => ?_⟩
      rcases (by omega : k = n ∨ k < n) with e | e
      · rw [e]; exact h1.2
      · exact c k h2 e
    · exact ⟨h, Nat.le_refl _, fun k h2 h3 => by omega⟩
theorem syms_cnt (l : List Nat) (n : Nat) : (syms (cnt l n)).length ≤ n := by
  have := syms_le (cnt l n)
  rwa [cnt_length] at this
theorem lens_cS (ts : List Tok) : Lens (cS ts) 15 (lensF (cS ts) 15) := lens_are _ 15 (by decide) (by decide) (Nat.le_trans (syms_cnt _ _) (by decide))
theorem lens_cD (ts : List Tok) : Lens (cD ts) 15 (lensF (cD ts) 15) := lens_are _ 15 (by decide) (by decide) (Nat.le_trans (syms_cnt _ _) (by decide))
theorem lens_fS (ts : List Tok) : Lens (cnt ((gS ts).map (·.s)) 19) 7 (fS ts) := lens_are _ 7 (by decide) (by decide) (Nat.le_trans (syms_cnt _ _) (by decide))
theorem cut_zero (n : Nat) (l : List Int) : ∀ i, max n (usd l) ≤ i → l.getD i 0 = 0 := fun i hi => by
  rcases Nat.lt_or_ge i l.length with h | h
  · exact usdN_zero l l.length i (by unfold usd at hi; omega) h
  · rw [List.getD_eq_getElem?_getD, List.getElem?_eq_none h]; rfl
theorem cut_getD (n : Nat) (l : List Int) (i : Nat) : (cut n l).getD i 0 = l.getD i 0 := take_getD l _ (cut_zero n l) i
theorem cut_length (n : Nat) (l : List Int) (h : n ≤ l.length) : n ≤ (cut n l).length ∧ (cut n l).length ≤ l.length ∧ (cut n l).length = max n (usd l) := by
  have := usdN_le l l.length
  unfold cut usd
  rw [List.length_take]
  omega
theorem cut_may (n : Nat) (l : List Int) (h : may l = 0) : may (cut n l) = 0 := may_take l _ (cut_zero n l) h
theorem cut_kr (n : Nat) (l : List Int) : kr (cut n l) = kr l := kr_take l _ (cut_zero n l)
theorem zS_pos (ts : List Tok) (s : Nat) (hs : s < 286) (hm : s ∈ sgsL ts) : 0 < (zS ts).getD s 0 := by
  unfold zS
  rw [cut_getD, (lens_cS ts).pos s]
  exact cnt_pos _ _ _ hs hm
theorem zD_pos (ts : List Tok) (s : Nat) (hs : s < 30) (hm : s ∈ dssL ts) : 0 < (zD ts).getD s 0 := by
  unfold zD
  rw [cut_getD, (lens_cD ts).pos s]
  exact cnt_pos _ _ _ hs hm
theorem mem256 (ts : List Tok) : 256 ∈ sgsL ts := by unfold sgsL; simp
theorem sgs_lt {ts : List Tok} (h : ∀ t ∈ ts, low t) : ∀ s ∈ sgsL ts, s < 286 := by
  intro s hs
  unfold sgsL at hs
  rw [List.mem_append, List.mem_map] at hs
  rcases hs with ⟨t, ht, rfl⟩ | hs
  · exact low_sg (h t ht)
  · have : s = 256 := by simpa using hs
    omega
theorem dss_lt {ts : List Tok} (h : ∀ t ∈ ts, low t) : ∀ s ∈ dssL ts, s < 30 := by
  intro s hs
  unfold dssL at hs
  rw [List.mem_flatMap] at hs
  obtain ⟨t, ht, hs⟩ := hs
  exact low_ds (h t ht) s hs
theorem z_bound (ts : List Tok) : ∀ i, 0 ≤ (zS ts ++ zD ts).getD i 0 ∧ (zS ts ++ zD ts).getD i 0 ≤ 15 := by
  intro i
  have h1 := (lens_cS ts).bound
  have h2 := (lens_cD ts).bound
  simp only [List.getD_eq_getElem?_getD, List.getElem?_append]
  split
  · have := h1 i
    rw [← List.getD_eq_getElem?_getD]
    unfold zS
    rw [cut_getD]
    omega
  · have := h2 (i - (zS ts).length)
    rw [← List.getD_eq_getElem?_getD]
    unfold zD
    rw [cut_getD]
    omega
theorem okGs_s : ∀ (gs : List Sg) (a : List Int), okGs gs a → ∀ g ∈ gs, g.s ≤ 18
  | [], _, _, g, hg => by cases hg
  | c :: gs, a, h, g, hg => by
    rcases List.mem_cons.1 hg with e | e
    · rw [e]; exact h.1.s
    · exact okGs_s gs _ h.2 g e
theorem cut_facts (n m : Nat) (counts la : List Int) (hS : Lens counts 15 la) (hl : counts.length = m) (hnm : n ≤ m) (hm : m ≤ 1024) : n ≤ (cut n la).length ∧ (cut n la).length ≤ m ∧ may (cut n la) = 0 := by
  have lS : la.length = m := hS.len.trans hl
  have c1 := cut_length n la (by omega)
  have c2 := cut_may n la (hS.may (by decide) (by omega))
  exact ⟨c1.1, by omega, c2⟩
theorem head_of (a b f : List Int) (gs : List Sg) (hF : Lens (cnt (gs.map (·.s)) 19) 7 f) (ho : okGs gs []) (hd : dec gs [] = a ++ b) (ha : 257 ≤ a.length ∧ a.length ≤ 286 ∧ may a = 0) (hb : 1 ≤ b.length ∧ b.length ≤ 30 ∧ may b = 0) (h256 : 0 < a.getD 256 0) : HeadOk a b f (toldN f 19) gs := by
  obtain ⟨t1, t2, t3⟩ := toldN_facts f 19 (by decide)
  have hfm : may f = 0 := hF.may (by decide) (by rw [cnt_length]; decide)
  have hfl : f.length = 19 := hF.len.trans (cnt_length _ _)
  have hf7 : ∀ i, 0 ≤ f.getD i 0 ∧ f.getD i 0 < 8 := fun i => by have := hF.bound i; omega
  refine ⟨hfl, hf7, t1, t2, t3, hfm, hF.kr, ho, fun g hg => ?_, hd, ⟨ha.1, ha.2.1⟩, ⟨hb.1, hb.2.1⟩, by omega, ha.2.2, hb.2.2⟩
  rw [hF.pos g.s]
  have h18 := okGs_s _ _ ho g hg
  exact cnt_pos _ _ _ (by omega) (List.mem_map.2 ⟨g, hg, rfl⟩)
theorem head_all (ts : List Tok) (a b f : List Int) (gs : List Sg) (ha : a = zS ts) (hb : b = zD ts) (hg : gs = runsOf (a ++ b)) (hf : Lens (cnt (gs.map (·.s)) 19) 7 f) : HeadOk a b f (toldN f 19) gs := by
  have hz := z_bound ts
  have h256 := zS_pos ts 256 (by decide) (mem256 ts)
  have h1 : 257 ≤ (zS ts).length ∧ (zS ts).length ≤ 286 ∧ may (zS ts) = 0 := cut_facts 257 286 (cS ts) _ (lens_cS ts) (cnt_length _ _) (by decide) (by decide)
  have h2 : 1 ≤ (zD ts).length ∧ (zD ts).length ≤ 30 ∧ may (zD ts) = 0 := cut_facts 1 30 (cD ts) _ (lens_cD ts) (cnt_length _ _) (by decide) (by decide)
  rw [← ha, ← hb] at hz
  rw [← ha] at h256 h1
  rw [← hb] at h2
  have hr := runsOf_dec (a ++ b) hz
  rw [← hg] at hr
  exact head_of a b f gs hf hr.1 hr.2 h1 h2 h256
theorem head_ok (ts : List Tok) : HeadOk (zS ts) (zD ts) (fS ts) (tS ts) (gS ts) := by
  have h := head_all ts (zS ts) (zD ts) (fS ts) (gS ts) rfl rfl (by unfold gS; rfl) (lens_fS ts)
  unfold tS
  exact h
theorem dyn_has {ts : List Tok} (h : ∀ t ∈ ts, low t) : ∀ t ∈ ts, t.has (zS ts) (zD ts) := by
  intro t ht
  have hl := h t ht
  have m1 : sg1 t ∈ sgsL ts := by unfold sgsL; rw [List.mem_append]; exact .inl (List.mem_map.2 ⟨t, ht, rfl⟩)
  have m2 : ∀ s ∈ ds1 t, s ∈ dssL ts := fun s hs => List.mem_flatMap.2 ⟨t, ht, hs⟩
  have h1 := zS_pos ts _ (low_sg hl) m1
  cases t with
  | lit b => exact h1
  | cpy n d a b =>
    have hb : b.s ∈ ds1 (.cpy n d a b) := by simp [ds1]
    exact ⟨h1, zD_pos ts _ (low_ds hl _ hb) (m2 _ hb)⟩
theorem fix_has {ts : List Tok} (h : ∀ t ∈ ts, low t) : ∀ t ∈ ts, t.has Inf.fixS Inf.fixD := by
  intro t ht
  have hl := h t ht
  have hs : ∀ s, s < 286 → 0 < Inf.fixS.getD s 0 := by decide +kernel
  have hd : ∀ s, s < 30 → 0 < Inf.fixD.getD s 0 := by decide +kernel
  cases t with
  | lit b => exact hs b (low_sg hl)
  | cpy n d a b => exact ⟨hs a.s (low_sg hl), hd b.s (low_ds hl _ (by simp [ds1]))⟩
theorem fixS_coded : Coded Inf.fixS := ⟨by unfold good; decide +kernel, by decide +kernel⟩
theorem fixD_coded : Coded Inf.fixD := ⟨by unfold good; decide +kernel, by decide +kernel⟩
/-- How many bits codes take. -/
def cost (counts lens : List Int) : Int := ((List.range (min counts.length lens.length)).map fun i => counts.getD i 0 * lens.getD i 0).sum
def headN (first : List Int) (told : Nat) (gs : List Sg) : Int := 5 + 5 + 4 + 3 * (told : Int) + (gs.map fun g => first.getD g.s 0 + (g.m : Int)).sum
def wordN (ts : List Tok) (a b : List Int) : Int := cost (cS ts) a + cost (cD ts) b + (cB ts : Int)
def fixN (ts : List Tok) : Int := 3 + wordN ts Inf.fixS Inf.fixD
def dynN (ts : List Tok) : Int := 3 + headN (fS ts) (tS ts) (gS ts) + wordN ts (zS ts) (zD ts)
def stoN (p n : Nat) : Int := ((p + 3 + 8 - 1) / 8 * 8 : Nat) - (p : Int) + 2 * 16 + 8 * (n : Int)
/-- Which of the three a block is, behind p bits. -/
def kindN (p n : Nat) (ts : List Tok) : Nat :=
  if n ≤ 65535 ∧ stoN p n ≤ fixN ts ∧ stoN p n ≤ dynN ts then 0 else if fixN ts ≤ dynN ts then 1 else 2
def padN (p : Nat) : Nat := (p + 7) / 8 * 8 - p
def way (p : Nat) (ts : List Tok) (bs : List UInt8) : Nat → List Bool
  | 0 => List.replicate (padN (p + 3)) false ++ (num bs.length 16 ++ (num (65535 - bs.length) 16 ++ Inf.bits bs))
  | 1 => body Inf.fixS Inf.fixD ts
  | _ => headBits (zS ts) (zD ts) (fS ts) (tS ts) (gS ts) ++ body (zS ts) (zD ts) ts
/-- A block behind p bits. -/
def blk (p : Nat) (last : Bool) (ts : List Tok) (bs : List UInt8) : List Bool := last :: (num (kindN p bs.length ts) 2 ++ way p ts bs (kindN p bs.length ts))
theorem kindN_lt (p n : Nat) (ts : List Tok) : kindN p n ts < 3 := by
  unfold kindN
  split
  · decide
  split <;> decide
theorem blk_w {ts : List Tok} {bs out : List UInt8} (p : Nat) (last : Bool) (hl : ∀ t ∈ ts, low t) (ho : oks ts out) (he : effs ts out = out ++ bs) : BlkW p (blk p last ts bs) out (out ++ bs) ⟨kindN p bs.length ts, last, out.length, (out ++ bs).length⟩ := by
  refine blkw_of last (by have := kindN_lt p bs.length ts; omega) ?_
  obtain ⟨k, hk⟩ : ∃ k, k = kindN p bs.length ts := ⟨_, rfl⟩
  have hk0 : k = 0 → bs.length ≤ 65535 := by
    intro h
    rw [hk] at h
    unfold kindN at h
    split at h
    · rename_i h2; exact h2.1
    · split at h <;> cases h
  have hk3 := kindN_lt p bs.length ts
  rw [← hk] at hk3 ⊢
  rcases (by omega : k = 0 ∨ k = 1 ∨ k = 2) with e | e | e
  · have hb := hk0 e
    rw [e]
    exact kindw_stored (p + 3) (List.replicate (padN (p + 3)) false) bs out (by rw [List.length_replicate]; unfold padN; omega) (by rw [List.length_replicate]; unfold padN; omega) hb
  · rw [e, ← he]
    exact kindw_fixed (p + 3) rfl rfl fixS_coded fixD_coded (by decide +kernel) ho (fix_has hl)
  · rw [e, ← he]
    have hS := lens_cS ts
    have hD := lens_cD ts
    exact kindw_dyn (p + 3) (head_ok ts) (by rw [show zS ts = cut 257 (lensF (cS ts) 15) from rfl, cut_kr]; exact hS.kr) (by rw [show zD ts = cut 1 (lensF (cD ts) 15) from rfl, cut_kr]; exact hD.kr) (zS_pos ts 256 (by decide) (mem256 ts)) ho (dyn_has hl)
end Df
end Go.Proofs.YtphdcgioeokfbaaDoor
/-
  Deflate as mathematics: streams of steps, how long they are, how they are read back.
-/
namespace Go.Proofs.YtphdcgioeokfbaaDoor
open Hf
namespace Df
/-- How many bytes a step makes. -/
def mkZ (s : Z) : Nat := (max s.1 1).toNat
def sizeZ (l : List Z) : Nat := (l.map mkZ).sum
/-- The stream of steps that make b, behind L. -/
def stm : Nat → List Bool → List Z → List UInt8 → List Bool
  | 0, L, _, _ => L
  | f + 1, L, l, b =>
    if l.length ≤ 512 then L ++ blk L.length true (l.map tok) (b.take (sizeZ l))
    else stm f (L ++ blk L.length false ((l.take 512).map tok) (b.take (sizeZ (l.take 512)))) (l.drop 512) (b.drop (sizeZ (l.take 512)))
/-- Its blocks; so many bytes are ahead. -/
def bks : Nat → List Bool → List Z → List UInt8 → Nat → List Inf.Blk
  | 0, _, _, _, _ => []
  | f + 1, L, l, b, n =>
    if l.length ≤ 512 then [⟨kindN L.length (b.take (sizeZ l)).length (l.map tok), true, n, n + sizeZ l⟩]
    else ⟨kindN L.length (b.take (sizeZ (l.take 512))).length ((l.take 512).map tok), false, n, n + sizeZ (l.take 512)⟩ :: bks f (L ++ blk L.length false ((l.take 512).map tok) (b.take (sizeZ (l.take 512)))) (l.drop 512) (b.drop (sizeZ (l.take 512))) (n + sizeZ (l.take 512))
theorem copy_pre (d : Nat) : ∀ (n : Nat) (out : List UInt8), ∃ x, Inf.copy out d n = out ++ x ∧ x.length = n
  | 0, out => ⟨[], by simp [Inf.copy], rfl⟩
  | n + 1, out => by
    obtain ⟨x, h1, h2⟩ := copy_pre d n (out ++ [out.getD (out.length - d) 0])
    exact ⟨out.getD (out.length - d) 0 :: x, by rw [Inf.copy, h1]; simp, by simp [h2]⟩
theorem eff_pre {s : Z} (h : okZ s) (out : List UInt8) : ∃ x, (tok s).eff out = out ++ x ∧ x.length = mkZ s := by
  unfold tok mkZ
  rcases h with h | h
  · rw [if_pos h, h]
    exact ⟨_, rfl, rfl⟩
  · rw [if_neg (by omega)]
    obtain ⟨x, h1, h2⟩ := copy_pre s.2.1.toNat s.1.toNat out
    exact ⟨x, h1, by rw [h2]; omega⟩
theorem effs_pre : ∀ (l : List Z) (out : List UInt8), (∀ s ∈ l, okZ s) → ∃ x, effs (l.map tok) out = out ++ x ∧ x.length = sizeZ l
  | [], out, _ => ⟨[], by simp [effs], rfl⟩
  | s :: l, out, h => by
    obtain ⟨x, h1, h2⟩ := eff_pre (h s (by simp)) out
    obtain ⟨y, h3, h4⟩ := effs_pre l ((tok s).eff out) (fun t ht => h t (by simp [ht]))
    refine ⟨x ++ y, ?_, ?_⟩
    · rw [List.map_cons, effs, h3, h1, List.append_assoc]
    · rw [List.length_append, h2, h4]; simp [sizeZ]
theorem sizeZ_split (l : List Z) (k : Nat) : sizeZ l = sizeZ (l.take k) + sizeZ (l.drop k) := by
  conv => lhs; rw [← List.take_append_drop k l]
  unfold sizeZ
  rw [List.map_append, List.sum_append]
theorem stm_str : ∀ (f : Nat) (L : List Bool) (l : List Z) (b out : List UInt8) (ks : List Inf.Blk), StrW L out ks → 1 ≤ f → l.length ≤ 512 * f → (∀ s ∈ l, okZ s) → oks (l.map tok) out → effs (l.map tok) out = out ++ b → StrE (stm f L l b) (out ++ b) (ks ++ bks f L l b out.length)
  | 0, L, l, b, out, ks, _, h, _, _, _, _ => by omega
  | f + 1, L, l, b, out, ks, hS, _, hf, hz, ho, he => by
    rw [stm, bks]
    obtain ⟨x, hx1, hx2⟩ := effs_pre l out hz
    have hxb : x = b := List.append_cancel_left (hx1.symm.trans he)
    rw [hxb] at hx2
    have hlow : ∀ t ∈ l.map tok, low t := fun t ht => by
      obtain ⟨s, hs, rfl⟩ := List.mem_map.1 ht
      exact tok_low (hz s hs)
    by_cases h5 : l.length ≤ 512
    · rw [if_pos h5, if_pos h5]
      have hb : b.take (sizeZ l) = b := List.take_of_length_le (by omega)
      rw [hb]
      have hw := blk_w (p := L.length) (bs := b) (out := out) true hlow ho he
      have h2 : (out ++ b).length = out.length + sizeZ l := by rw [List.length_append]; omega
      rw [h2] at hw
      exact hS.last hw rfl
    · rw [if_neg h5, if_neg h5]
      obtain ⟨u, hu⟩ : ∃ u, u = l.take 512 := ⟨_, rfl⟩
      obtain ⟨v, hv⟩ : ∃ v, v = l.drop 512 := ⟨_, rfl⟩
      have huv : l = u ++ v := by rw [hu, hv, List.take_append_drop]
      have hsz : sizeZ l = sizeZ u + sizeZ v := by rw [hu, hv]; exact sizeZ_split l 512
      have hvl : v.length ≤ 512 * f := by rw [hv, List.length_drop]; omega
      have hf1 : 1 ≤ f := by omega
      rw [← hu, ← hv]
      have hzu : ∀ s ∈ u, okZ s := fun s hs => hz s (by rw [huv]; simp [hs])
      have hzv : ∀ s ∈ v, okZ s := fun s hs => hz s (by rw [huv]; simp [hs])
      rw [huv, List.map_append, oks_append] at ho
      rw [huv, List.map_append, effs_append] at he
      obtain ⟨y, hy1, hy2⟩ := effs_pre u out hzu
      obtain ⟨z, hz1, hz2⟩ := effs_pre v (out ++ y) hzv
      rw [hy1] at ho he
      have hby : b = y ++ z := by
        rw [hz1, List.append_assoc] at he
        exact (List.append_cancel_left he).symm
      have ht : b.take (sizeZ u) = y := by rw [hby, List.take_append_of_le_length (by omega), List.take_of_length_le (by omega)]
      have hd : b.drop (sizeZ u) = z := by rw [hby, List.drop_append_of_le_length (by omega), List.drop_of_length_le (by omega), List.nil_append]
      rw [ht, hd]
      have hlu : ∀ t ∈ u.map tok, low t := fun t ht => by
        obtain ⟨s, hs, rfl⟩ := List.mem_map.1 ht
        exact tok_low (hzu s hs)
      have hw := blk_w (p := L.length) (bs := y) (out := out) false hlu ho.1 hy1
      have h2 : (out ++ y).length = out.length + sizeZ u := by rw [List.length_append]; omega
      rw [h2] at hw
      have hS2 := hS.more hw rfl
      have ih := stm_str f (L ++ blk L.length false (u.map tok) y) v z (out ++ y) _ hS2 hf1 hvl hzv ho.2 hz1
      rw [h2, List.append_assoc, List.append_assoc, ← hby] at ih
      exact ih
/-- The blocks, one by one. -/
theorem bks_len : ∀ (f : Nat) (L : List Bool) (l : List Z) (b : List UInt8) (n : Nat), 1 ≤ f → l.length ≤ 512 * f → (bks f L l b n).length = max 1 ((l.length + 511) / 512)
  | 0, L, l, b, n, h, _ => by omega
  | f + 1, L, l, b, n, _, hf => by
    rw [bks]
    by_cases h5 : l.length ≤ 512
    · rw [if_pos h5, List.length_singleton]; omega
    · rw [if_neg h5, List.length_cons, bks_len f _ _ _ _ (by omega) (by rw [List.length_drop]; omega), List.length_drop]; omega
/-- How long it all may be. -/
theorem bitsN_le (zs : List Int) (h : ∀ i, zs.getD i 0 ≤ 15) (s : Nat) : (cod zs s).length ≤ 15 := by
  rw [cod_length]; have := h s; omega
theorem LSg.m_le {n : Nat} {g : Sg} (h : LSg n g) : g.m ≤ 5 := by
  rcases h with ⟨_, h⟩ | ⟨h1, h2, h3, _⟩
  · rw [h]; decide
  · omega
theorem word_len {zs ds : List Int} (hz : ∀ i, zs.getD i 0 ≤ 15) (hd : ∀ i, ds.getD i 0 ≤ 15) (t : Tok) (h : low t) : (t.words zs ds).length ≤ 48 := by
  cases t with
  | lit b => have := bitsN_le zs hz b; rw [Tok.words]; omega
  | cpy n d a b =>
    have h1 := bitsN_le zs hz a.s
    have h2 := bitsN_le ds hd b.s
    have h3 := LSg.m_le h.1
    have h4 : b.m ≤ 13 := by have := h.2; unfold FSg at this; omega
    rw [Tok.words]
    simp only [List.length_append, num_length]
    omega
theorem body_len {zs ds : List Int} (hz : ∀ i, zs.getD i 0 ≤ 15) (hd : ∀ i, ds.getD i 0 ≤ 15) : ∀ (ts : List Tok), (∀ t ∈ ts, low t) → (body zs ds ts).length ≤ 48 * ts.length + 15
  | [], _ => by rw [body]; have := bitsN_le zs hz 256; simp; omega
  | t :: ts, h => by
    have h1 := word_len hz hd t (h t (by simp))
    have h2 := body_len hz hd ts (fun u hu => h u (by simp [hu]))
    rw [body, List.length_append, List.length_cons]; omega
theorem telBits_len (v : Nat → Nat) : ∀ n k, (telBits v n k).length = 3 * n
  | 0, _ => rfl
  | n + 1, k => by rw [telBits, List.length_append, num_length, telBits_len v n]; omega
theorem runs_len {zs : List Int} (hz : ∀ i, zs.getD i 0 ≤ 15) : ∀ (gs : List Sg) (a : List Int), okGs gs a → (runs zs gs).length ≤ 22 * gs.length
  | [], _, _ => by simp [runs]
  | g :: gs, a, h => by
    have h1 := bitsN_le zs hz g.s
    have h2 := runs_len hz gs _ h.2
    have h3 : g.m ≤ 7 := by rw [h.1.m]; split; decide; split; decide; split <;> decide
    rw [runs, List.length_append, List.length_append, num_length, List.length_cons]
    omega
theorem head_len {a b f : List Int} {c : Nat} {gs : List Sg} (h : HeadOk a b f c gs) : (headBits a b f c gs).length ≤ 14 + 57 + 22 * 316 := by
  have h1 := runs_len (zs := f) (fun i => by have := h.f7 i; omega) gs [] h.ok
  have h2 := dec_le gs []
  rw [h.dec, List.length_append] at h2
  have h3 := h.al
  have h4 := h.bl
  have h5 := h.c19
  unfold headBits
  simp only [List.length_append, num_length, telBits_len]
  simp at h2
  omega
theorem good_at {zs : List Int} (h : good zs) (i : Nat) : zs.getD i 0 ≤ 15 := by
  rcases Nat.lt_or_ge i zs.length with hi | hi
  · rw [List.getD_eq_getElem?_getD, List.getElem?_eq_getElem hi]
    exact (h.2 _ (List.getElem_mem hi)).2
  · rw [List.getD_eq_getElem?_getD, List.getElem?_eq_none hi]
    decide
theorem blk_len (p : Nat) (last : Bool) (ts : List Tok) (bs : List UInt8) (hl : ∀ t ∈ ts, low t) : (blk p last ts bs).length ≤ 540000 + 48 * ts.length := by
  obtain ⟨k, hk⟩ : ∃ k, k = kindN p bs.length ts := ⟨_, rfl⟩
  have hk0 : k = 0 → bs.length ≤ 65535 := by
    intro h
    rw [hk] at h
    unfold kindN at h
    split at h
    · rename_i h2; exact h2.1
    · split at h <;> cases h
  have hk3 := kindN_lt p bs.length ts
  unfold blk
  rw [← hk] at hk3 ⊢
  rw [List.length_cons, List.length_append, num_length]
  rcases (by omega : k = 0 ∨ k = 1 ∨ k = 2) with e | e | e
  · have hb := hk0 e
    rw [e, way]
    simp only [List.length_append, num_length, List.length_replicate, bits_length]
    unfold padN
    omega
  · rw [e, way]
    have := body_len (zs := Inf.fixS) (ds := Inf.fixD) (good_at fixS_coded.good) (good_at fixD_coded.good) ts hl
    omega
  · rw [e, show way p ts bs 2 = headBits (zS ts) (zD ts) (fS ts) (tS ts) (gS ts) ++ body (zS ts) (zD ts) ts from rfl]
    have hh := head_ok ts
    have h1 := head_len hh
    have h2 := body_len (zs := zS ts) (ds := zD ts) (good_at (may_good hh.am)) (good_at (may_good hh.bm)) ts hl
    rw [List.length_append]
    omega
end Df
end Go.Proofs.YtphdcgioeokfbaaDoor
