/-
  The plain functions of package charset on lists of bytes, over the library's own decoder of UTF-8. No program stands in it.
-/
import Derived.Test.YtdkocjdhekomoaaGreatDoorCPl
import Derived.Test.YtdkocjdhekomoaaGreatDoorMap
import Derived.Lib.MapLaws
import Derived.Lib.ValidLaws
import Derived.Lib.RuneCount
namespace Go.Proofs.YtdkocjdhekomoaaGreatDoor
namespace Ch
open Go.Lib

/-- The characters of a string, one behind the other, the replacement for each invalid byte. -/
def repair (l : List UInt8) : List UInt8 := mapD (fun x => x) l
theorem repair_nil : repair [] = [] := rfl
theorem repair_step (l : List UInt8) (h : l ≠ []) : repair l = encodeRune ((decodeL l).1 : Int) ++ repair (l.drop (decodeL l).2) := by
  unfold repair
  rw [mapD_step _ l h, if_pos (by omega)]

def countF : Nat → List UInt8 → Nat
  | 0, _ => 0
  | n + 1, l => if l = [] then 0 else 1 + countF n (l.drop (decodeL l).2)
def count (l : List UInt8) : Nat := countF l.length l
theorem countF_nil : ∀ n, countF n [] = 0
  | 0 => rfl
  | _ + 1 => by simp [countF]
theorem countF_fuel : ∀ (n m : Nat) (l : List UInt8), l.length ≤ n → l.length ≤ m → countF n l = countF m l
  | 0, m, l, hn, _ => by
    have : l = [] := List.eq_nil_of_length_eq_zero (by omega)
    subst this
    rw [countF_nil, countF_nil]
  | n + 1, 0, l, _, hm => by
    have : l = [] := List.eq_nil_of_length_eq_zero (by omega)
    subst this
    rw [countF_nil, countF_nil]
  | n + 1, m + 1, l, hn, hm => by
    by_cases hne : l = []
    · subst hne
      rw [countF_nil, countF_nil]
    · have hw := decodeL_width l
      have hl : 0 < l.length := List.length_pos_iff.2 hne
      simp only [countF, if_neg hne]
      rw [countF_fuel n m _ (by rw [List.length_drop]; omega) (by rw [List.length_drop]; omega)]
theorem count_nil : count [] = 0 := rfl
theorem count_step (l : List UInt8) (h : l ≠ []) : count l = 1 + count (l.drop (decodeL l).2) := by
  have hw := decodeL_width l
  have hl : 0 < l.length := List.length_pos_iff.2 h
  unfold count
  obtain ⟨n, hn⟩ : ∃ n, l.length = n + 1 := ⟨l.length - 1, by omega⟩
  rw [hn]
  show (if l = [] then 0 else _) = _
  rw [if_neg h, countF_fuel n (l.drop (decodeL l).2).length _ (by rw [List.length_drop]; omega) (Nat.le_refl _)]
theorem count_lib (s : ByteArray) : runeCount s = count s.data.toList := by
  have H : ∀ n pos, runeCountFrom s n pos = countF n (s.data.toList.drop pos) := by
    intro n
    induction n with
    | zero => intro pos; rfl
    | succ n ih =>
      intro pos
      unfold runeCountFrom countF
      by_cases hp : pos < s.size
      · have : s.data.toList.drop pos ≠ [] := by
          intro e
          have := congrArg List.length e
          rw [List.length_drop, ← Lib.size_eq] at this
          simp at this; omega
        rw [if_pos hp, if_neg this, decodeL_drop, List.drop_drop, ih]
      · have : s.data.toList.drop pos = [] := List.drop_eq_nil_of_le (by rw [← Lib.size_eq]; omega)
        rw [if_neg hp, if_pos this]
  unfold runeCount count
  rw [H, List.drop_zero, ← Lib.size_eq]

/-- The code points of windows-1252 from 80 to 9F. -/
def win : List Nat := [0x20AC, 0xFFFD, 0x201A, 0x0192, 0x201E, 0x2026, 0x2020, 0x2021, 0x02C6, 0x2030, 0x0160, 0x2039, 0x0152, 0xFFFD, 0x017D, 0xFFFD, 0xFFFD, 0x2018, 0x2019, 0x201C, 0x201D, 0x2022, 0x2013, 0x2014, 0x02DC, 0x2122, 0x0161, 0x203A, 0x0153, 0xFFFD, 0x017E, 0x0178]
def gA (c : UInt8) : Nat := if c.toNat < 128 then c.toNat else 65533
def gL (c : UInt8) : Nat := c.toNat
def gW (c : UInt8) : Nat := if 128 ≤ c.toNat ∧ c.toNat < 160 then win.getD (c.toNat - 128) 0 else c.toNat
def mapB (g : UInt8 → Nat) : List UInt8 → List UInt8
  | [] => []
  | c :: r => encodeRune (g c : Int) ++ mapB g r
theorem mapB_append (g : UInt8 → Nat) : ∀ a b, mapB g (a ++ b) = mapB g a ++ mapB g b
  | [], _ => rfl
  | c :: r, b => by simp [mapB, mapB_append g r b]

def nU : List UInt8 := [117, 116, 102, 45, 56]
def nA : List UInt8 := [117, 115, 45, 97, 115, 99, 105, 105]
def nL : List UInt8 := [105, 115, 111, 45, 56, 56, 53, 57, 45, 49]
def nW : List UInt8 := [119, 105, 110, 100, 111, 119, 115, 45, 49, 50, 53, 50]
def known (n : List UInt8) : Bool := n == nU || n == nA || n == nL || n == nW
/-- The text of a string in a character set whose name (in lower case) is n. -/
def textIn (n s : List UInt8) : List UInt8 :=
  if n = nU then repair s else if n = nA then mapB gA s else if n = nL then mapB gL s else if n = nW then mapB gW s else repair s
def utf8 (name s : List UInt8) : List UInt8 × Bool := (textIn (Tx.lowL name) s, known (Tx.lowL name))

/-- What stands in front of the first question mark, and behind it. -/
def front (l : List UInt8) : List UInt8 := l.takeWhile fun c => c != 63
def back (l : List UInt8) : List UInt8 := (l.dropWhile fun c => c != 63).drop 1
def isContent (l : List UInt8) : Bool := l.all fun c => decide (33 ≤ c) && decide (c ≤ 126)
/-- The content of an encoded-word with Q. -/
def pre (a : List UInt8) (x : Option (List UInt8)) : Option (List UInt8) := x.map fun y => a ++ y
def unqF : Nat → List UInt8 → Option (List UInt8)
  | 0, _ => some []
  | _ + 1, [] => some []
  | n + 1, c :: r =>
    if c = 95 then pre [32] (unqF n r)
    else if c = 61 then
      match Cd.hex2 r with
      | some x => pre [x] (unqF n (r.drop 2))
      | none => none
    else pre [c] (unqF n r)
def unq (l : List UInt8) : Option (List UInt8) := unqF l.length l
def decode (letter content : List UInt8) : Option (List UInt8) :=
  if letter = [66] ∨ letter = [98] then (if (Cd.unbase64 content).2 then some (Cd.unbase64 content).1 else none)
  else if letter = [81] ∨ letter = [113] then unq content
  else none
/-- What stands in front of an encoded-word's end: the name, the letter, the content and what follows. -/
def meant (name letter content r : List UInt8) : Option (List UInt8 × List UInt8) :=
  match r with
  | 61 :: rest =>
    if isContent content then
      match decode letter content with
      | some d => if known (Tx.lowL name) then some (textIn (Tx.lowL name) d, rest) else none
      | none => none
    else none
  | _ => none
/-- The sound encoded-word with which a string begins: what it means, and what stands behind it. -/
def sound (l : List UInt8) : Option (List UInt8 × List UInt8) :=
  match l with
  | 61 :: 63 :: r => meant (front r) (front (back r)) (front (back (back r))) (back (back (back r)))
  | _ => none
def wordsF : Nat → List UInt8 → Bool → List UInt8 → List UInt8
  | 0, gap, _, _ => gap
  | _ + 1, gap, _, [] => gap
  | n + 1, gap, behind, c :: r =>
    match sound (c :: r) with
    | none => wordsF n (gap ++ [c]) behind r
    | some (t, rest) => (if behind && gap.all Tx.isW then [] else gap) ++ (t ++ wordsF n [] true rest)
def words (l : List UInt8) : List UInt8 := wordsF l.length [] false l

/-- Whether a string contains the beginning of an encoded-word. -/
def hasStart : List UInt8 → Bool
  | 61 :: 63 :: _ => true
  | _ :: r => hasStart r
  | [] => false
def plain (l : List UInt8) : Bool := (l.all fun c => decide (32 ≤ c) && decide (c ≤ 126)) && !hasStart l
def start : List UInt8 := [61, 63, 117, 116, 102, 45, 56, 63, 66, 63]
def codedWord (p : List UInt8) : List UInt8 := start ++ (Cd.base64 p).dropLast ++ [63, 61]
/-- The parts of a string: as many whole characters as possible each, with at most 45 bytes. -/
def partsF : Nat → List UInt8 → List UInt8 → List (List UInt8)
  | 0, cur, _ => [cur]
  | n + 1, cur, rest =>
    if rest = [] then [cur]
    else if cur.length + (encodeRune ((decodeL rest).1 : Int)).length > 45 then cur :: partsF n (rest.take (decodeL rest).2) (rest.drop (decodeL rest).2)
    else partsF n (cur ++ rest.take (decodeL rest).2) (rest.drop (decodeL rest).2)
def parts (l : List UInt8) : List (List UInt8) := partsF l.length [] l
def encode (l : List UInt8) : List UInt8 := if plain l then l else Tx.joinSp ((parts (repair l)).map codedWord)
end Ch
end Go.Proofs.YtdkocjdhekomoaaGreatDoor
