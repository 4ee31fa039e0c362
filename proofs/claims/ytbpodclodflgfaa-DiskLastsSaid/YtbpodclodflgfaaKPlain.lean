/-
  The plain part of layer 5: the disk as the document describes it.
-/
import Derived.Lib.Hide
namespace Go.Proofs.Ytbpodclodflgfaa
open Go
namespace Dk
abbrev B := List UInt8
inductive E | ok | arg | full | down | state | lost
  deriving DecidableEq
structure Piece where
  f : Nat
  at_ : Nat
  s : B
structure Disk where
  last : Nat → B
  queue : List Piece
  lost : Int
  down : Bool
  armed : Int
  keep : List Int
def new : Disk := ⟨fun _ => [], [], 0, false, 0, []⟩
/-- To put bytes into a string at an offset. -/
def put (s : B) (at_ : Nat) (t : B) : B := (s ++ List.replicate (at_ + t.length - s.length) 0).take at_ ++ t ++ (s ++ List.replicate (at_ + t.length - s.length) 0).drop (at_ + t.length)
theorem put_length (s : B) (at_ : Nat) (t : B) : (put s at_ t).length = max s.length (at_ + t.length) := by
  unfold put
  simp
  omega
theorem put_at (s : B) (at_ : Nat) (t : B) (i : Nat) : (put s at_ t)[i]? = if at_ ≤ i ∧ i < at_ + t.length then t[i - at_]? else if i < s.length then s[i]? else if i < at_ + t.length then some 0 else none := by
  unfold put
  have hl : (s ++ List.replicate (at_ + t.length - s.length) (0 : UInt8)).length = max s.length (at_ + t.length) := by simp; omega
  generalize hu : s ++ List.replicate (at_ + t.length - s.length) (0 : UInt8) = u at *
  have hu2 : ∀ j, u[j]? = if j < s.length then s[j]? else if j < at_ + t.length then some 0 else none := by
    intro j
    rw [← hu]
    by_cases h1 : j < s.length
    · rw [if_pos h1, List.getElem?_append_left h1]
    · rw [if_neg h1, List.getElem?_append_right (by omega)]
      by_cases h2 : j < at_ + t.length
      · rw [if_pos h2, List.getElem?_replicate, if_pos (by omega)]
      · rw [if_neg h2, List.getElem?_replicate, if_neg (by omega)]
  have htk : (u.take at_).length = at_ := by rw [List.length_take]; omega
  by_cases h1 : i < at_
  · rw [if_neg (by omega), List.append_assoc, List.getElem?_append_left (by omega), List.getElem?_take_of_lt h1, hu2 i]
  · by_cases h2 : i < at_ + t.length
    · rw [if_pos ⟨by omega, h2⟩, List.append_assoc, List.getElem?_append_right (by omega), htk, List.getElem?_append_left (by omega)]
    · rw [if_neg (by omega), List.append_assoc, List.getElem?_append_right (by omega), htk, List.getElem?_append_right (by omega), List.getElem?_drop, hu2]
      have : at_ + t.length + (i - at_ - t.length) = i := by omega
      rw [this]
/-- The pieces of a write. -/
def pieces (f : Nat) : Nat → Nat → B → List Piece
  | 0, _, _ => []
  | _, _, [] => []
  | n + 1, at_, s => ⟨f, at_, s.take (64 - at_ % 64)⟩ :: pieces f n (at_ + (64 - at_ % 64)) (s.drop (64 - at_ % 64))
def add (d : Disk) (f at_ : Nat) (s : B) : Disk := { d with queue := d.queue ++ pieces f s.length at_ s }
def over (f : Nat) (s : B) (q : List Piece) : B := q.foldl (fun s p => if p.f = f then put s p.at_ p.s else s) s
def read (d : Disk) (f : Nat) : B := over f (d.last f) d.queue
def size (d : Disk) (f : Int) : Nat := if 0 ≤ f ∧ f ≤ 11 then (read d f.toNat).length else 0
/-- What survives of a pending write. -/
def part (p : Piece) (k : Option Int) : B := if k = some 1 then p.s else if k = some 2 then p.s.take 24 else []
def overK (f : Nat) : B → List Piece → List Int → B
  | s, [], _ => s
  | s, _, [] => s
  | s, p :: q, k :: ks => overK f (if p.f = f ∧ (k = 1 ∨ k = 2) then put s p.at_ (part p (some k)) else s) q ks
def crash (d : Disk) (keep : List Int) : Disk :=
  if d.down then d else { d with last := fun f => overK f (d.last f) d.queue keep, queue := [], down := true, armed := 0 }
def fits (at_ : Int) (s : B) : Bool := decide (0 ≤ at_) && decide (at_ + s.length ≤ 16777216)
def isFile (f : Int) : Bool := decide (0 ≤ f) && decide (f ≤ 11)
/-- A call is counted; the scheduled crash, before which a write is performed. -/
def comes (d : Disk) (w : Option (Int × Int × B)) : Disk :=
  if d.down = true ∨ d.armed = 0 then d
  else if 1 < d.armed then { d with armed := d.armed - 1 }
  else match w with
    | some (f, at_, s) => crash (if isFile f && fits at_ s then add { d with armed := 0 } f.toNat at_.toNat s else { d with armed := 0 }) d.keep
    | none => crash { d with armed := 0 } d.keep
def may (d : Disk) (f : Int) : E := if d.down then .down else if isFile f then .ok else .arg
def setLast (l : Nat → B) (f : Nat) (s : B) : Nat → B := fun g => if g = f then s else l g
def without (q : List Piece) (f : Nat) : List Piece := q.filter fun p => p.f != f
/-- The calls, behind the count. -/
def writeB (d : Disk) (f at_ : Int) (s : B) : E × Disk :=
  if may d f = .ok then (if at_ < 0 then (.arg, d) else if fits at_ s = true then (.ok, add d f.toNat at_.toNat s) else (.full, d)) else (may d f, d)
def flushB (d : Disk) (f : Int) : E × Disk :=
  if may d f = .ok then (if 0 < d.lost then (.lost, { d with lost := d.lost - 1 }) else (.ok, { d with last := setLast d.last f.toNat (read d f.toNat), queue := without d.queue f.toNat })) else (may d f, d)
def cutB (d : Disk) (f n : Int) : E × Disk :=
  if may d f = .ok then (if n < 0 ∨ (read d f.toNat).length < n then (.arg, d) else (.ok, { d with last := setLast d.last f.toNat ((read d f.toNat).take n.toNat), queue := without d.queue f.toNat })) else (may d f, d)
def pending (q : List Piece) (f : Nat) : Bool := q.any fun p => p.f == f
def turnB (d : Disk) (f g : Int) : E × Disk :=
  if may d f = .ok then
    if may d g = .ok then
      if f = g then (.arg, d)
      else if pending d.queue g.toNat = true then (.state, d)
      else (.ok, { d with last := setLast (setLast d.last f.toNat (d.last g.toNat)) g.toNat [], queue := without d.queue f.toNat })
    else (may d g, d)
  else (may d f, d)
def write (d : Disk) (f at_ : Int) (s : B) : E × Disk := writeB (comes d (some (f, at_, s))) f at_ s
def flush (d : Disk) (f : Int) : E × Disk := flushB (comes d none) f
def cut (d : Disk) (f n : Int) : E × Disk := cutB (comes d none) f n
def turn (d : Disk) (f g : Int) : E × Disk := turnB (comes d none) f g
def readE (d : Disk) (f : Int) : B × E := match may d f with | .ok => (read d f.toNat, .ok) | e => ([], e)
def lose (d : Disk) (n : Int) : Disk := { d with lost := max n 0 }
def start (d : Disk) : Disk := { d with down := false }
def arm (d : Disk) (n : Int) (keep : List Int) : Disk := { d with armed := max n 0, keep := keep }
end Dk
end Go.Proofs.Ytbpodclodflgfaa
