/-
  Names and paths, as mathematics over rows of bytes.
-/
import Derived.Lib.SplitLaws
import Derived.Lib.Join
import Derived.Lib.Strings
namespace Go.Proofs.YtgdnemjlmhmhhaaDoor
namespace Pt
/-- Neither a slash nor 0. -/
def okB (x : UInt8) : Bool := !(x == 47 || x == 0)
/-- What stands between slashes. -/
def parts : List UInt8 → List (List UInt8)
  | [] => [[]]
  | x :: t => if x = 47 then [] :: parts t else match parts t with
    | [] => [[x]]
    | a :: r => (x :: a) :: r
def wh : List UInt8 := [46, 119, 104, 46]
def opq : List UInt8 := [46, 119, 104, 46, 46, 119, 104, 46, 46, 111, 112, 113]
def toc : List UInt8 := [46, 119, 104, 46, 46, 119, 104, 46, 116, 111, 99]
def mayName (s : List UInt8) : Bool := s != [] && s != [46] && s != [46, 46] && decide (s.length ≤ 251) && s.all okB && !wh.isPrefixOf s
def split (p : List UInt8) : List (List UInt8) := if p = [] then [] else parts p
def may (p : List UInt8) : Bool := decide (p.length ≤ 4080) && (decide ((split p).length ≤ 254) && (split p).all mayName)
/-- Joined as they are. -/
def glue : List (List UInt8) → List UInt8
  | [] => []
  | [a] => a
  | a :: b :: r => a ++ 47 :: glue (b :: r)
def full (l : List (List UInt8)) : List (List UInt8) := l.filter (fun a => a != [])
def join (l : List (List UInt8)) : List UInt8 := glue (full l)
/-- The place of the last slash; -1 without one. -/
def cut : List UInt8 → Int
  | [] => -1
  | x :: t => if 0 ≤ cut t then cut t + 1 else if x = 47 then 0 else -1
def parent (p : List UInt8) : List UInt8 := p.take (cut p).toNat
def base (p : List UInt8) : List UInt8 := p.drop (cut p + 1).toNat
/-- What stands ahead of each slash among the first k bytes. -/
def upTo (p : List UInt8) : Nat → List (List UInt8)
  | 0 => []
  | k + 1 => if p.getD k 0 = 47 then upTo p k ++ [p.take k] else upTo p k
def above (p : List UInt8) : List (List UInt8) := upTo p p.length
def under (dir p : List UInt8) : Bool := p != [] && (dir == [] || (dir ++ [47]).isPrefixOf p)
def whiteout (p : List UInt8) : List UInt8 := if p != [] && may p then join [parent p, wh ++ base p] else []
def opaq (dir : List UInt8) : List UInt8 := if may dir then join [dir, opq] else []
/-- The parts that count. -/
def kept (l : List (List UInt8)) : List (List UInt8) := l.filter (fun a => a != [] && a != [46])
/-- Clean: 30, 3 or 0. -/
def cleanE (raw : List UInt8) : Int :=
  if raw.contains 0 || [47].isPrefixOf raw || (parts raw).contains [46, 46] then 30
  else if (kept (parts raw)).any (fun a => decide (255 < a.length)) || decide (255 < (kept (parts raw)).length) || decide (4096 < (glue (kept (parts raw))).length) then 3 else 0
def cleanP (raw : List UInt8) : List UInt8 := if cleanE raw = 0 then glue (kept (parts raw)) else []
/-- Class, as the code asks it. -/
def lastC (b : List UInt8) : Int := if b = opq then 3 else if b = toc then 4 else if wh.isPrefixOf b then 2 else 1
def goneT (p : List UInt8) : List UInt8 := p.take (p.length - (base p).length) ++ (base p).drop 4
def clsT (p : List UInt8) : List UInt8 := if lastC (base p) = 1 then p else if lastC (base p) = 2 then goneT p else if lastC (base p) = 3 then parent p else []
def clsB (p : List UInt8) : Bool :=
  if lastC (base p) = 1 then p != [] && may p else if lastC (base p) = 2 then whiteout (goneT p) == p else if lastC (base p) = 3 then opaq (parent p) == p else p == toc
def cls (p : List UInt8) : Int := if clsB p then lastC (base p) else 0
def tgt (p : List UInt8) : List UInt8 := if clsB p then clsT p else []
end Pt
/-- A text, of its bytes. -/
def sb (l : List UInt8) : ByteArray := ⟨l.toArray⟩
theorem sb_size (l : List UInt8) : (sb l).size = l.length := by simp [sb, ByteArray.size]
theorem sb_data (l : List UInt8) : (sb l).data.toList = l := rfl
theorem sb_list (l : List UInt8) : (sb l).toList = l := by rw [Lib.toList_data]; rfl
theorem sb_of (s : ByteArray) : sb s.data.toList = s := Lib.mk_data s
theorem sb_extract (l : List UInt8) (a b : Nat) : (sb l).extract a b = sb ((l.drop a).take (b - a)) := Lib.extract_eq (sb l) a b
theorem sb_inj {a b : List UInt8} : sb a = sb b ↔ a = b := ⟨fun h => by rw [← sb_data a, h, sb_data], fun h => by rw [h]⟩
theorem sb_append (a b : List UInt8) : sb a ++ sb b = sb (a ++ b) := by
  apply ByteArray.ext
  rw [ByteArray.data_append]
  simp [sb]
theorem sb_beq (a b : List UInt8) : ((sb a).toList == (sb b).toList) = (a == b) := by rw [sb_list, sb_list]
end Go.Proofs.YtgdnemjlmhmhhaaDoor
