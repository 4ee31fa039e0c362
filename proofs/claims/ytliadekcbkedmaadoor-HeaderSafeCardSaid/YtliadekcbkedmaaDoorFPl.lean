/-
  Header, plainly: lines, fields, folds, pieces of values, on lists of bytes. No program stands in it.
-/
import Derived.Test.YtliadekcbkedmaaDoorTrims
import Derived.Lib.IndexMore
import Derived.Lib.Join
namespace Go.Proofs.YtliadekcbkedmaaDoor
namespace Hd

abbrev Fd := List UInt8 × List UInt8

def visB (without : List UInt8) (c : UInt8) : Bool := decide (33 ≤ c.toNat) && decide (c.toNat ≤ 126) && !without.contains c
def vis (without s : List UInt8) : Bool := s.all (visB without) && !s.isEmpty
def specials : List UInt8 := [40, 41, 60, 62, 64, 44, 59, 58, 92, 34, 47, 91, 93, 63, 61]
def named (s : List UInt8) : Bool := decide (s.length ≤ 200) && vis [58] s
def token (s : List UInt8) : Bool := vis specials s
def blank (c : UInt8) : Bool := c == 32 || c == 9

/-! ### lines and Parse -/
def content (l : List UInt8) : List UInt8 := Tx.chop (Lib.cut l [10]).1
def after (l : List UInt8) : List UInt8 := (Lib.cut l [10]).2.1
def field (c : List UInt8) : Option (List UInt8 × List UInt8) :=
  match Lib.cut c [58] with
  | (n, r, true) => if named n = true then some (n, r) else none
  | _ => none
def blankHead : List UInt8 → Bool
  | [] => false
  | c :: _ => blank c
def addPart (v p : List UInt8) : List UInt8 := if p = [] then v else if v = [] then p else v ++ 32 :: p
def addLast (fs : List Fd) (p : List UInt8) : List Fd :=
  match fs.getLast? with
  | none => fs
  | some f => fs.dropLast ++ [(f.1, addPart f.2 p)]
def step (fs : List Fd) (c : List UInt8) : Option (List Fd) :=
  match field c with
  | some (n, r) => if fs.length < 400 then some (fs ++ [(n, Tx.trim r)]) else none
  | none => if blankHead c = true ∧ fs ≠ [] then some (addLast fs (Tx.trim c)) else none
def parseF : Nat → List Fd → List UInt8 → List Fd × List UInt8
  | 0, fs, l => (fs, l)
  | n + 1, fs, l => if l = [] then (fs, []) else
    if content l = [] then (fs, after l) else
    match step fs (content l) with
    | some fs' => parseF n fs' (after l)
    | none => (fs, l)
def parse (raw : List UInt8) : List Fd × List UInt8 := parseF raw.length [] raw

/-! ### Write -/
def isFold (s : List UInt8) (i : Nat) : Bool := decide (1 ≤ i) && decide (i + 1 < s.length) && s.getD i 0 == 32 && !blank (s.getD (i - 1) 0) && !blank (s.getD (i + 1) 0)
def placeF (s : List UInt8) : Nat → Nat → Nat → Nat
  | 0, _, f => f
  | n + 1, i, f => if i ≤ 998 ∧ i + 1 < s.length then (if 78 < i ∧ 0 < f then f else placeF s n (i + 1) (if isFold s i = true then i else f)) else f
def place (s : List UInt8) (least : Nat) : Nat := placeF s (999 - least) least 0
def linesF : Nat → Nat → List UInt8 → List (List UInt8)
  | 0, _, s => [s]
  | n + 1, least, s => if s.length ≤ 78 then [s] else
    if 0 < place s least then s.take (place s least) :: linesF n 1 (s.drop (place s least))
    else if s.length ≤ 998 then [s]
    else s.take 998 :: linesF n 1 (32 :: s.drop 998)
def unbroken (v : List UInt8) : List UInt8 := v.map fun c => if c = 13 ∨ c = 10 then 32 else c
def head (f : Fd) : List UInt8 := f.1 ++ 58 :: (if Tx.trim (unbroken f.2) = [] then [] else 32 :: Tx.trim (unbroken f.2))
def flines (f : Fd) : List (List UInt8) := linesF (head f).length (f.1.length + 2) (head f)
def ended (ls : List (List UInt8)) : List UInt8 := (ls.map fun x => x ++ [10]).flatten
def writeField (f : Fd) : List UInt8 := ended (flines f)
def write (fs : List Fd) : List UInt8 := ((fs.filter fun f => named f.1).map writeField).flatten

/-! ### Get, All, Set, Drop -/
def same (a b : List UInt8) : Bool := Tx.lowL a == Tx.lowL b
def has (n : List UInt8) (f : Fd) : Bool := same f.1 n
def get (fs : List Fd) (n : List UInt8) : Option (List UInt8) := (fs.find? (has n)).map (·.2)
def all (fs : List Fd) (n : List UInt8) : List (List UInt8) := (fs.filter (has n)).map (·.2)
def drop (fs : List Fd) (n : List UInt8) : List Fd := fs.filter fun f => !has n f
def set (fs : List Fd) (n v : List UInt8) : List Fd :=
  match fs with
  | [] => [(n, v)]
  | f :: r => if has n f = true then (n, v) :: drop r n else f :: set r n v

/-! ### Params and Quote -/
def piecesF : Bool → Bool → List UInt8 → List UInt8 → List (List UInt8)
  | _, _, cur, [] => [cur]
  | ins, true, cur, c :: r => piecesF ins false (cur ++ [c]) r
  | ins, false, cur, c :: r => if c = 34 then piecesF (!ins) false (cur ++ [c]) r
    else if c = 92 then piecesF ins ins (cur ++ [c]) r
    else if c = 59 ∧ ins = false then cur :: piecesF ins false [] r
    else piecesF ins false (cur ++ [c]) r
def pieces (v : List UInt8) : List (List UInt8) := piecesF false false [] v
def unqF : Bool → List UInt8 → List UInt8 → Option (List UInt8)
  | _, _, [] => none
  | true, o, c :: r => unqF false (o ++ [c]) r
  | false, o, c :: r => if c = 34 then (if r = [] then some o else none) else if c = 92 then unqF true o r else unqF false (o ++ [c]) r
def unq : List UInt8 → Option (List UInt8)
  | [] => none
  | c :: r => if c = 34 then unqF false [] r else if vis [34] (c :: r) = true then some (c :: r) else none
def pname (p : List UInt8) : List UInt8 := Tx.lowL (Tx.trim (Lib.cut p [61]).1)
def param (p : List UInt8) : Option Fd :=
  match unq (Tx.trim (Lib.cut p [61]).2.1) with
  | none => none
  | some v => if token (pname p) = true then some (pname p, v) else none
def addParam (out : List Fd) (p : List UInt8) : List Fd :=
  match param p with
  | none => out
  | some q => if (out.any fun x => x.1 == q.1) = true then out else out ++ [q]
def params (v : List UInt8) : List UInt8 × List Fd := (Tx.trim ((pieces v).headD []), ((pieces v).drop 1).foldl addParam [])
def esc (v : List UInt8) : List UInt8 := v.flatMap fun c => if c = 34 ∨ c = 92 then [92, c] else [c]
def quoted (v : List UInt8) : List UInt8 := if token v = true then v else 34 :: esc v ++ [34]
def quote1 (p : Fd) : List UInt8 := if token p.1 = true then [59, 32] ++ p.1 ++ 61 :: quoted p.2 else []
def quote (main : List UInt8) (ps : List Fd) : List UInt8 := main ++ (ps.map quote1).flatten

end Hd
end Go.Proofs.YtliadekcbkedmaaDoor
