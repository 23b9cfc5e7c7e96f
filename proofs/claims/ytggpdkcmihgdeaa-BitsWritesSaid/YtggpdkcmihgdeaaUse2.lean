/-
  More contracts over things of the call's own: Reader.Bytes, Align, Skip, At; Writer.Bytes, Align; what nobody made.
-/
import Derived.Test.YtggpdkcmihgdeaaUse
namespace Go.Proofs.Ytggpdkcmihgdeaa
open Go.RowKit Bt

/-- A thing that is turned within its own blocks, and a slice made anew. -/
theorem Ws.open2 {base : Nat} {w : World} {l : List Thing} (h : Ws base w l) (i : Nat) (t : Thing) (hi : l[i]? = some t) :
    ∃ F, Has w F t ∧ (∀ k, F k → k < w.heap.size) ∧ ∀ u w' v bs, OnlyS F w w' → Has w' F u → OwnB w.heap.size w' v bs → Ws base w' (l.set i u ++ [.sl v bs]) ∧ Below base w w' := by
  obtain ⟨hs, Fs, h1, h2, h3, h4⟩ := h
  have hlt : i < l.length := (List.getElem?_eq_some_iff.1 hi).1
  refine ⟨Fs i, h1 i t hi, fun k hk => (h2 i k hk).2, fun u w' v bs ho hu hv => ⟨⟨Nat.le_trans hs ho.size, fun j => if j = l.length then (fun k => w.heap.size ≤ k ∧ k < w'.heap.size) else Fs j, fun j x hj => ?_, fun j k hk => ?_, fun j j' hne k hk => ?_, fun j hj => ?_⟩, ho.below hs fun k hk => (h2 i k hk).1⟩⟩
  · by_cases hjl : j = l.length
    · subst hjl
      rw [List.getElem?_append_right (by simp)] at hj
      simp at hj
      subst hj
      simp only [if_true]
      exact ⟨hv.le fun _ _ => Nat.zero_le _, hv.lt⟩
    · simp only [hjl, if_false]
      by_cases hjlt : j < l.length
      · rw [List.getElem?_append_left (by simpa using hjlt)] at hj
        by_cases hji : j = i
        · subst hji
          rw [List.getElem?_set_self hlt] at hj
          obtain rfl := Option.some.inj hj
          exact hu
        · rw [List.getElem?_set_ne (fun e => hji e.symm)] at hj
          exact (h1 j x hj).stays fun k hk => ho.block k (h2 j k hk).2 (h3 j i hji k hk)
      · rw [List.getElem?_append_right (by simp; omega), List.getElem?_eq_none (by simp; omega)] at hj; cases hj
  · have := ho.size
    simp only at hk
    split at hk
    · omega
    · have := h2 j k hk; omega
  · simp only at hk ⊢
    by_cases hj : j = l.length
    · rw [if_pos hj] at hk
      rw [if_neg (by omega)]
      intro hk'; have := h2 j' k hk'; omega
    · rw [if_neg hj] at hk
      by_cases hj' : j' = l.length
      · rw [if_pos hj']
        intro hk'; have := h2 j k hk; omega
      · rw [if_neg hj']; exact h3 j j' hne k hk
  · simp at hj
    simp only [show j ≠ l.length by omega, if_false]
    exact h4 j (by omega)
def WsRB (u : Thing) (bs : List UInt8) (i base : Nat) (w : World) (l : List Thing) (e : Ending) (w' : World) : Prop := ∃ p cap, e = .returned (.tuple #[.slice p bs.length cap, .int .i64 0]) ∧ Ws base w' (l.set i u ++ [.sl (.slice p bs.length cap) bs]) ∧ Below base w w'
theorem ws_rbytes {base : Nat} {w : World} {l : List Thing} (hW : Ws base w l) (i g n k : Nat) (bs : List UInt8) (hi : l[i]? = some (.rd g bs n)) (h8 : n % 8 = 0) (hk : n + k * 8 ≤ 8 * bs.length) (hlen : bs.length ≤ 1099511627776) :
    Calls Try.prog 33 #[.pointer (some ⟨g, 0, none⟩), .int .i64 (k : Int)] w (WsRB (.rd g bs (n + k * 8)) ((bs.drop (n / 8)).take k) i base w l) := by
  obtain ⟨F, hF, hlt, hn⟩ := hW.open2 i _ hi
  refine (rbytes_ok w F g n k bs hF h8 hk hlen hlt).mono fun e w' ⟨v, he, ho, hh, hv⟩ => ?_
  obtain ⟨h1, h2⟩ := hn _ w' v _ ho hh hv
  obtain ⟨p, cap, rfl⟩ := hv.toW.shape
  exact ⟨p, cap, he, h1, h2⟩
theorem ws_rbytes_no {base : Nat} {w : World} {l : List Thing} (hW : Ws base w l) (i g n : Nat) (m : Int) (bs : List UInt8) (c : Int) (hi : l[i]? = some (.rd g bs n)) (hn : n ≤ 8 * bs.length) (hlen : bs.length ≤ 1099511627776)
    (hc : (m < 0 ∧ c = 1) ∨ (0 ≤ m ∧ n % 8 ≠ 0 ∧ c = 1) ∨ (0 ≤ m ∧ n % 8 = 0 ∧ 8 * bs.length < n + m * 8 ∧ c = 4)) :
    Calls Try.prog 33 #[.pointer (some ⟨g, 0, none⟩), .int .i64 m] w (WsPost (.tuple #[.slice none 0 0, .int .i64 c]) base w l) :=
  ws_same hW i hi fun F hF => by
    rcases hc with ⟨h1, rfl⟩ | ⟨h1, h2, rfl⟩ | ⟨h1, h2, h3, rfl⟩
    · exact rbytes_lo w F g n m bs hF h1
    · exact rbytes_mid w F g n m bs hF h1 h2
    · exact rbytes_short w F g n m bs hF hn h1 h2 h3 hlen
theorem ws_ralign {base : Nat} {w : World} {l : List Thing} (hW : Ws base w l) (i g n : Nat) (bs : List UInt8) (hi : l[i]? = some (.rd g bs n)) (hn : n ≤ 8 * bs.length) (hlen : bs.length ≤ 1099511627776) :
    Calls Try.prog 31 #[.pointer (some ⟨g, 0, none⟩)] w (WsPost (.int .i64 0) base w (l.set i (.rd g bs ((n + 7) / 8 * 8)))) :=
  ws_turn hW i hi fun F hF => ralign_walk w F g n bs hF hn hlen
theorem ws_at {base : Nat} {w : World} {l : List Thing} (hW : Ws base w l) (i g n : Nat) (bs : List UInt8) (hi : l[i]? = some (.rd g bs n)) :
    Calls Try.prog 39 #[.pointer (some ⟨g, 0, none⟩)] w fun e w' => e = .returned (.int .i64 (n : Int)) ∧ w = w' :=
  ws_keep hW i hi fun F hF => rat_walk w F g n bs hF
theorem ws_skip {base : Nat} {w : World} {l : List Thing} (hW : Ws base w l) (i g n k : Nat) (bs : List UInt8) (hi : l[i]? = some (.rd g bs n)) (hk : n + k ≤ 8 * bs.length) (hlen : bs.length ≤ 1099511627776) (hK : k ≤ 57) :
    Calls Try.prog 30 #[.pointer (some ⟨g, 0, none⟩), .int .i64 (k : Int)] w (WsPost (.int .i64 0) base w (l.set i (.rd g bs (n + k)))) :=
  ws_turn hW i hi fun F hF => skip_ok w F g n k bs hF hk hlen hK
theorem ws_skip_no {base : Nat} {w : World} {l : List Thing} (hW : Ws base w l) (i g n : Nat) (m : Int) (bs : List UInt8) (hi : l[i]? = some (.rd g bs n)) (hn : n ≤ 8 * bs.length) (hlen : bs.length ≤ 1099511627776) (hr : rerr bs n m ≠ 0) :
    Calls Try.prog 30 #[.pointer (some ⟨g, 0, none⟩), .int .i64 m] w (WsPost (.int .i64 (rerr bs n m : Nat)) base w l) :=
  ws_same hW i hi fun F hF => skip_no w _ m _ (by rw [bne_iff_ne]; omega) (rrefusal_err w F g n m bs hF hn hlen)
theorem ws_peek {base : Nat} {w : World} {l : List Thing} (hW : Ws base w l) (i g n : Nat) (m : Int) (bs : List UInt8) (hi : l[i]? = some (.rd g bs n)) (hn : n ≤ 8 * bs.length) (hlen : bs.length ≤ 1099511627776) :
    Calls Try.prog 35 #[.pointer (some ⟨g, 0, none⟩), .int .i64 m] w (WsPost (.tuple #[.int .u64 (num (seg bs n (there bs n m)) : Nat), .int .i64 (there bs n m : Nat)]) base w l) :=
  ws_same hW i hi fun F hF => peek_walk w F g n m bs hF hn hlen
theorem ws_walign {base : Nat} {w : World} {l : List Thing} (hW : Ws base w l) (i g : Nat) (L : List Bool) (hi : l[i]? = some (.wr g L)) (hlen : L.length ≤ 1099511627776) :
    Calls Try.prog 14 #[.pointer (some ⟨g, 0, none⟩)] w (WsPost (.int .i64 0) base w (l.set i (.wr g (fill L)))) :=
  ws_turn hW i hi fun F hF => walign_walk w F g L hF hlen
theorem ws_wbytes {base : Nat} {w : World} {l : List Thing} (hW : Ws base w l) (i g : Nat) (L : List Bool) (v : Value) (bs : List UInt8) (hi : l[i]? = some (.wr g L)) (hs : SlW w v bs) (hlen : L.length + bs.length ≤ 109951162777) (h8 : L.length % 8 = 0) :
    Calls Try.prog 17 #[.pointer (some ⟨g, 0, none⟩), v] w (WsPost (.int .i64 0) base w (l.set i (.wr g (L ++ bitsOf bs)))) :=
  ws_turn hW i hi fun F hF => wbytes_walk w F g L v bs hF hs hlen h8
theorem ws_wbytes_no {base : Nat} {w : World} {l : List Thing} (hW : Ws base w l) (i g : Nat) (L : List Bool) (v : Value) (hi : l[i]? = some (.wr g L)) (h8 : L.length % 8 ≠ 0) :
    Calls Try.prog 17 #[.pointer (some ⟨g, 0, none⟩), v] w fun e w' => e = .returned (.int .i64 1) ∧ w = w' :=
  ws_keep hW i hi fun F hF => wbytes_arg w F g L v hF h8
theorem ws_put_no {base : Nat} {w : World} {l : List Thing} (hW : Ws base w l) (i g : Nat) (L : List Bool) (n : Nat) (m : Int) (hi : l[i]? = some (.wr g L)) (hf : ¬ fits n m) :
    Calls Try.prog 10 #[.pointer (some ⟨g, 0, none⟩), .int .u64 (n : Int), .int .i64 m] w fun e w' => e = .returned (.int .i64 1) ∧ w = w' :=
  ws_keep hW i hi fun _ hF => put_no w _ n m 1 rfl (wrefusal_bad w g n m hF.w0 hf)
theorem ws_code_no {base : Nat} {w : World} {l : List Thing} (hW : Ws base w l) (i g : Nat) (L : List Bool) (n : Nat) (m : Int) (hi : l[i]? = some (.wr g L)) (hf : ¬ fits n m) :
    Calls Try.prog 12 #[.pointer (some ⟨g, 0, none⟩), .int .u64 (n : Int), .int .i64 m] w fun e w' => e = .returned (.int .i64 1) ∧ w = w' :=
  ws_keep hW i hi fun _ hF => code_no w _ n m 1 rfl (wrefusal_bad w g n m hF.w0 hf)
end Go.Proofs.Ytggpdkcmihgdeaa
