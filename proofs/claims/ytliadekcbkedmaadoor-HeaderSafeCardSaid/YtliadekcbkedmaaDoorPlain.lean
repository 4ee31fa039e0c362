/-
  Plain functions on lists of bytes for package text, and what is known of them. No program stands in it.
-/
import Derived.Lib.SlTrimSet
namespace Go.Proofs.YtliadekcbkedmaaDoor
namespace Tx

def lowB (c : UInt8) : UInt8 := if 65 ≤ c ∧ c ≤ 90 then c + 32 else c
def upB (c : UInt8) : UInt8 := if 97 ≤ c ∧ c ≤ 122 then c - 32 else c
def lowL (l : List UInt8) : List UInt8 := l.map lowB
def upL (l : List UInt8) : List UInt8 := l.map upB
def isW (c : UInt8) : Bool := c == 9 || c == 10 || c == 13 || c == 32
def white : List UInt8 := [9, 10, 13, 32]

/-- The words: what has been gathered of the word at hand, and the rest. -/
def wordsGo : List UInt8 → List UInt8 → List (List UInt8)
  | acc, [] => if acc = [] then [] else [acc]
  | acc, c :: r => if isW c then (if acc = [] then wordsGo [] r else acc :: wordsGo [] r) else wordsGo (acc ++ [c]) r
def words (l : List UInt8) : List (List UInt8) := wordsGo [] l

/-- Words with a space between each two. -/
def joinSp : List (List UInt8) → List UInt8
  | [] => []
  | w :: r => w ++ (r.map (fun x => 32 :: x)).flatten
def squeeze (l : List UInt8) : List UInt8 := joinSp (words l)

/-- A line without one CR at its end. -/
def chop (l : List UInt8) : List UInt8 := Lib.trimSuffix l [13]
def linesGo : List UInt8 → List UInt8 → List (List UInt8)
  | acc, [] => if acc = [] then [] else [acc]
  | acc, c :: r => if c = 10 then chop acc :: linesGo [] r else linesGo (acc ++ [c]) r
def lines (l : List UInt8) : List (List UInt8) := linesGo [] l
def unlines (ls : List (List UInt8)) : List UInt8 := (ls.map (fun x => x ++ [10])).flatten

def isDig (c : UInt8) : Bool := decide (48 ≤ c.toNat) && decide (c.toNat ≤ 57)
def val (l : List UInt8) : Nat := l.foldl (fun n c => 10 * n + (c.toNat - 48)) 0
def numOk (l : List UInt8) : Bool := decide (1 ≤ l.length) && decide (l.length ≤ 15) && l.all isDig
def numVal (l : List UInt8) : Nat := if numOk l = true then val l else 0

/-- A pattern and what it stands for. -/
def glob : List UInt8 → List UInt8 → Bool
  | [], s => s.isEmpty
  | p :: ps, s => if p = 42 then (List.range (s.length + 1)).any (fun k => glob ps (s.drop k)) else
      match s with
      | [] => false
      | c :: t => (decide (p = 63) || decide (lowB p = lowB c)) && glob ps t

end Tx
end Go.Proofs.YtliadekcbkedmaaDoor
