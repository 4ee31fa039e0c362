/-
  The codec's plain functions on lists of bytes. No program stands in it.
-/
import Derived.Test.YtdkocjdhekomoaaGreatDoorPlain
namespace Go.Proofs.YtdkocjdhekomoaaGreatDoor
namespace Cd

/-- The digits of base64 and of hexadecimal numbers. -/
def digs : List UInt8 := [65, 66, 67, 68, 69, 70, 71, 72, 73, 74, 75, 76, 77, 78, 79, 80, 81, 82, 83, 84, 85, 86, 87, 88, 89, 90, 97, 98, 99, 100, 101, 102, 103, 104, 105, 106, 107, 108, 109, 110, 111, 112, 113, 114, 115, 116, 117, 118, 119, 120, 121, 122, 48, 49, 50, 51, 52, 53, 54, 55, 56, 57, 43, 47]
def hexs : List UInt8 := [48, 49, 50, 51, 52, 53, 54, 55, 56, 57, 65, 66, 67, 68, 69, 70]
def hexl : List UInt8 := [48, 49, 50, 51, 52, 53, 54, 55, 56, 57, 97, 98, 99, 100, 101, 102]

/-- A partial function on bytes, changed at one. -/
def upd (f : UInt8 → Option UInt8) (c v : UInt8) : UInt8 → Option UInt8 := fun x => if x = c then some v else f x
/-- The value of each digit; the digit of each value: after k digits. -/
def valF (l : List UInt8) : Nat → UInt8 → Option UInt8
  | 0 => fun _ => none
  | k + 1 => upd (valF l k) (l.getD k 0) (UInt8.ofNat k)
def digF (l : List UInt8) : Nat → UInt8 → Option UInt8
  | 0 => fun _ => none
  | k + 1 => upd (digF l k) (UInt8.ofNat k) (l.getD k 0)
/-- The values of hexadecimal digits in either case. -/
def hexF (c : UInt8) : Option UInt8 := match valF hexl 16 c with | some v => some v | none => valF hexs 16 c

def dig64 (n : Nat) : UInt8 := (digF digs 64 (UInt8.ofNat (n % 64))).getD 0
def hexD (n : Nat) : UInt8 := (digF hexs 16 (UInt8.ofNat n)).getD 0

/-- A group of at most three bytes as a number, and its four characters. -/
def num3 (l : List UInt8) : Nat := (l.getD 0 0).toNat * 65536 + (l.getD 1 0).toNat * 256 + (l.getD 2 0).toNat
def chr4 (l : List UInt8) (i : Nat) : UInt8 := if i ≤ l.length then dig64 (num3 l / 2 ^ (18 - 6 * i)) else 61
def grp (l : List UInt8) : List UInt8 := [chr4 l 0, chr4 l 1, chr4 l 2, chr4 l 3]
/-- Where the parts of n bytes begin, and how long they are. -/
def parts (n len : Nat) : List (Nat × Nat) := (List.range ((len + n - 1) / n)).map fun k => (k * n, min n (len - k * n))
def part (l : List UInt8) (x : Nat × Nat) : List UInt8 := (l.drop x.1).take x.2
def b64line (l : List UInt8) : List UInt8 := ((parts 3 l.length).map fun x => grp (part l x)).flatten
def base64 (l : List UInt8) : List UInt8 := ((parts 57 l.length).map fun x => b64line (part l x) ++ [10]).flatten

/-- Decoding base64: what has been gathered, how many bits of it are left, what has been written. -/
structure St where
  g : Nat
  size : Nat
  out : List UInt8
def St.step (st : St) (v : UInt8) : St :=
  let g := (st.g * 64 + v.toNat) % 4294967296
  if st.size + 6 ≥ 8 then ⟨g, st.size - 2, st.out ++ [UInt8.ofNat (g / 2 ^ (st.size - 2) % 256)]⟩ else ⟨g, st.size + 6, st.out⟩
def val64 (c : UInt8) : Option UInt8 := valF digs 64 c
def isDig64 (c : UInt8) : Bool := (val64 c).isSome
def decode (ds : List UInt8) : St := ds.foldl (fun st c => st.step ((val64 c).getD 0)) ⟨0, 0, []⟩
def bare (l : List UInt8) : List UInt8 := l.filter fun c => !Tx.isW c
def missing (n : Nat) : Nat := (4 - n % 4) % 4
def unbase64 (l : List UInt8) : List UInt8 × Bool :=
  let t := bare l
  let ds := t.takeWhile isDig64
  ((decode ds).out, decide (missing ds.length < 3) && (t.drop ds.length == List.replicate (missing ds.length) 61))

/-- Quoted-printable. -/
def lastB : List UInt8 → Bool
  | [] => true
  | c :: _ => c == 10
def plainB (c : UInt8) (last : Bool) : Bool := (decide (33 ≤ c) && decide (c ≤ 126) && (c != 61)) || ((c == 32 || c == 9) && !last)
def form (c : UInt8) (last : Bool) : List UInt8 := if plainB c last then [c] else [61, hexD (c.toNat / 16), hexD (c.toNat % 16)]
def limit (last : Bool) : Nat := if last then 76 else 75
def quo (w : Nat) : List UInt8 → List UInt8
  | [] => []
  | c :: r =>
    if c = 10 then 10 :: quo 0 r
    else if w + (form c (lastB r)).length > limit (lastB r) then 61 :: 10 :: (form c (lastB r) ++ quo (form c (lastB r)).length r)
    else form c (lastB r) ++ quo (w + (form c (lastB r)).length) r
def quoted (l : List UInt8) : List UInt8 := quo 0 l

/-- The byte of two hexadecimal digits. -/
def hex2 : List UInt8 → Option UInt8
  | a :: b :: _ => match hexF a, hexF b with
    | some x, some y => some (UInt8.ofNat (x.toNat * 16 + y.toNat))
    | _, _ => none
  | _ => none
def blank (c : UInt8) : Bool := c == 32 || c == 9
def trimB (l : List UInt8) : List UInt8 := l.dropWhile blank
def endsB : List UInt8 → Bool
  | [] => true
  | c :: r => c == 10 || (c == 13 && r.head? == some 10)
def skipB : List UInt8 → List UInt8
  | 13 :: 10 :: r => r
  | 13 :: r => r
  | 10 :: r => r
  | l => l
def okB (c : UInt8) : Bool := (decide (32 ≤ c) && decide (c ≤ 126)) || c == 10 || c == 13
def pre (a : List UInt8) (ok : Bool) (x : List UInt8 × Bool) : List UInt8 × Bool := (a ++ x.1, ok && x.2)
def unqF : Nat → List UInt8 → List UInt8 × Bool
  | 0, _ => ([], true)
  | _ + 1, [] => ([], true)
  | n + 1, c :: r =>
    if c = 61 then
      match hex2 r with
      | some x => pre [x] true (unqF n (r.drop 2))
      | none => if endsB (trimB r) then unqF n (skipB (trimB r)) else pre [61] false (unqF n r)
    else if blank c then
      if endsB (trimB (c :: r)) then unqF n (trimB (c :: r)) else pre ((c :: r).take ((c :: r).length - (trimB (c :: r)).length)) true (unqF n (trimB (c :: r)))
    else pre [c] (okB c) (unqF n r)
def unquoted (l : List UInt8) : List UInt8 × Bool := unqF l.length l

/-- The form of URLs. -/
def freeB (c : UInt8) : Bool := (decide (97 ≤ c) && decide (c ≤ 122)) || (decide (65 ≤ c) && decide (c ≤ 90)) || (decide (48 ≤ c) && decide (c ≤ 57)) || c == 45 || c == 46 || c == 95 || c == 126
def perB (c : UInt8) : List UInt8 := if freeB c then [c] else if c = 32 then [43] else [37, hexD (c.toNat / 16), hexD (c.toNat % 16)]
def percent (l : List UInt8) : List UInt8 := (l.map perB).flatten
def unpF : Nat → List UInt8 → List UInt8 × Bool
  | 0, _ => ([], true)
  | _ + 1, [] => ([], true)
  | n + 1, c :: r =>
    if c = 43 then pre [32] true (unpF n r)
    else if c = 37 then
      match hex2 r with
      | some x => pre [x] true (unpF n (r.drop 2))
      | none => pre [37] false (unpF n r)
    else pre [c] true (unpF n r)
def unpercent (l : List UInt8) : List UInt8 × Bool := unpF l.length l

example : base64 [77, 97, 110, 10] = [84, 87, 70, 117, 67, 103, 61, 61, 10] := by decide +kernel
example : unbase64 [84, 87, 70, 117, 32, 67, 103] = ([77, 97, 110, 10], false) := by decide +kernel
example : unbase64 [84, 87, 70, 117, 33] = ([77, 97, 110], false) := by decide +kernel
example : unquoted [97, 61, 10, 98, 61, 52, 122, 32] = ([97, 98, 61, 52, 122], false) := by decide +kernel
example : unpercent [97, 43, 98, 37, 50, 70, 99, 37] = ([97, 32, 98, 47, 99, 37], false) := by decide +kernel
example : unbase64 [84, 87, 70, 117, 67, 103, 61, 61, 10] = ([77, 97, 110, 10], true) := by decide +kernel
example : quoted [97, 61, 195, 169, 32, 10] = [97, 61, 51, 68, 61, 67, 51, 61, 65, 57, 61, 50, 48, 10] := by decide +kernel
end Cd
end Go.Proofs.YtdkocjdhekomoaaGreatDoor
