/-
  The plain part of layer 5: the disk as the document describes it.
  The plain part of layer 5, second: what a crash may leave of a file.
  The plain part of layer 5, third: what holds between two acts, act for act.
  The plain part of layer 5, fourth: a write's pieces put one behind the other are the write; calls on a machine that is down.
  The plain part of layer 5, fifth: DiskTurns and DiskLoses.
  The plain part of layer 5, seventh: DiskReorders.
  The plain part of layer 5, sixth: DiskArms, write for write and flush for flush; DiskLoses.
-/
import Derived.Lib.Hide
namespace Go.Proofs.Ytbelmadbjiiodaa
open Go
namespace Dk
abbrev B := List UInt8
inductive E | ok | arg | full | down | state | lost
  deriving DecidableEq
structure Piece where
  f : Nat
  at_ : Nat
  s : B
structure Disk where
  last : Nat → B
  queue : List Piece
  lost : Int
  down : Bool
  armed : Int
  keep : List Int
def new : Disk := ⟨fun _ => [], [], 0, false, 0, []⟩
/-- To put bytes into a string at an offset. -/
def put (s : B) (at_ : Nat) (t : B) : B := (s ++ List.replicate (at_ + t.length - s.length) 0).take at_ ++ t ++ (s ++ List.replicate (at_ + t.length - s.length) 0).drop (at_ + t.length)
theorem put_length (s : B) (at_ : Nat) (t : B) : (put s at_ t).length = max s.length (at_ + t.length) := by
  unfold put
  simp
  omega
theorem put_at (s : B) (at_ : Nat) (t : B) (i : Nat) : (put s at_ t)[i]? = if at_ ≤ i ∧ i < at_ + t.length then t[i - at_]? else if i < s.length then s[i]? else if i < at_ + t.length then some 0 else none := by
  unfold put
  have hl : (s ++ List.replicate (at_ + t.length - s.length) (0 : UInt8)).length = max s.length (at_ + t.length) := by simp; omega
  generalize hu : s ++ List.replicate (at_ + t.length - s.length) (0 : UInt8) = u at *
  have hu2 : ∀ j, u[j]? = if j < s.length then s[j]? else if j < at_ + t.length then some 0 else none := by
    intro j
    rw [← hu]
    by_cases h1 : j < s.length
    · rw [if_pos h1, List.getElem?_append_left h1]
    · rw [if_neg h1, List.getElem?_append_right (by omega)]
      by_cases h2 : j < at_ + t.length
      · rw [if_pos h2, List.getElem?_replicate, if_pos (by omega)]
      · rw [if_neg h2, List.getElem?_replicate, if_neg (by omega)]
  have htk : (u.take at_).length = at_ := by rw [List.length_take]; omega
  by_cases h1 : i < at_
  · rw [if_neg (by omega), List.append_assoc, List.getElem?_append_left (by omega), List.getElem?_take_of_lt h1, hu2 i]
  · by_cases h2 : i < at_ + t.length
    · rw [if_pos ⟨by omega, h2⟩, List.append_assoc, List.getElem?_append_right (by omega), htk, List.getElem?_append_left (by omega)]
    · rw [if_neg (by omega), List.append_assoc, List.getElem?_append_right (by omega), htk, List.getElem?_append_right (by omega), List.getElem?_drop, hu2]
      have : at_ + t.length + (i - at_ - t.length) = i := by omega
      rw [this]
/-- The pieces of a write. -/
def pieces (f : Nat) : Nat → Nat → B → List Piece
  | 0, _, _ => []
  | _, _, [] => []
  | n + 1, at_, s => ⟨f, at_, s.take (64 - at_ % 64)⟩ :: pieces f n (at_ + (64 - at_ % 64)) (s.drop (64 - at_ % 64))
def add (d : Disk) (f at_ : Nat) (s : B) : Disk := { d with queue := d.queue ++ pieces f s.length at_ s }
def over (f : Nat) (s : B) (q : List Piece) : B := q.foldl (fun s p => if p.f = f then put s p.at_ p.s else s) s
def read (d : Disk) (f : Nat) : B := over f (d.last f) d.queue
def size (d : Disk) (f : Int) : Nat := if 0 ≤ f ∧ f ≤ 11 then (read d f.toNat).length else 0
/-- What survives of a pending write. -/
def part (p : Piece) (k : Option Int) : B := if k = some 1 then p.s else if k = some 2 then p.s.take 24 else []
def overK (f : Nat) : B → List Piece → List Int → B
  | s, [], _ => s
  | s, _, [] => s
  | s, p :: q, k :: ks => overK f (if p.f = f ∧ (k = 1 ∨ k = 2) then put s p.at_ (part p (some k)) else s) q ks
def crash (d : Disk) (keep : List Int) : Disk :=
  if d.down then d else { d with last := fun f => overK f (d.last f) d.queue keep, queue := [], down := true, armed := 0 }
def fits (at_ : Int) (s : B) : Bool := decide (0 ≤ at_) && decide (at_ + s.length ≤ 16777216)
def isFile (f : Int) : Bool := decide (0 ≤ f) && decide (f ≤ 11)
/-- A call is counted; the scheduled crash, before which a write is performed. -/
def comes (d : Disk) (w : Option (Int × Int × B)) : Disk :=
  if d.down = true ∨ d.armed = 0 then d
  else if 1 < d.armed then { d with armed := d.armed - 1 }
  else match w with
    | some (f, at_, s) => crash (if isFile f && fits at_ s then add { d with armed := 0 } f.toNat at_.toNat s else { d with armed := 0 }) d.keep
    | none => crash { d with armed := 0 } d.keep
def may (d : Disk) (f : Int) : E := if d.down then .down else if isFile f then .ok else .arg
def setLast (l : Nat → B) (f : Nat) (s : B) : Nat → B := fun g => if g = f then s else l g
def without (q : List Piece) (f : Nat) : List Piece := q.filter fun p => p.f != f
/-- The calls, behind the count. -/
def writeB (d : Disk) (f at_ : Int) (s : B) : E × Disk :=
  if may d f = .ok then (if at_ < 0 then (.arg, d) else if fits at_ s = true then (.ok, add d f.toNat at_.toNat s) else (.full, d)) else (may d f, d)
def flushB (d : Disk) (f : Int) : E × Disk :=
  if may d f = .ok then (if 0 < d.lost then (.lost, { d with lost := d.lost - 1 }) else (.ok, { d with last := setLast d.last f.toNat (read d f.toNat), queue := without d.queue f.toNat })) else (may d f, d)
def cutB (d : Disk) (f n : Int) : E × Disk :=
  if may d f = .ok then (if n < 0 ∨ (read d f.toNat).length < n then (.arg, d) else (.ok, { d with last := setLast d.last f.toNat ((read d f.toNat).take n.toNat), queue := without d.queue f.toNat })) else (may d f, d)
def pending (q : List Piece) (f : Nat) : Bool := q.any fun p => p.f == f
def turnB (d : Disk) (f g : Int) : E × Disk :=
  if may d f = .ok then
    if may d g = .ok then
      if f = g then (.arg, d)
      else if pending d.queue g.toNat = true then (.state, d)
      else (.ok, { d with last := setLast (setLast d.last f.toNat (d.last g.toNat)) g.toNat [], queue := without d.queue f.toNat })
    else (may d g, d)
  else (may d f, d)
def write (d : Disk) (f at_ : Int) (s : B) : E × Disk := writeB (comes d (some (f, at_, s))) f at_ s
def flush (d : Disk) (f : Int) : E × Disk := flushB (comes d none) f
def cut (d : Disk) (f n : Int) : E × Disk := cutB (comes d none) f n
def turn (d : Disk) (f g : Int) : E × Disk := turnB (comes d none) f g
def readE (d : Disk) (f : Int) : B × E := match may d f with | .ok => (read d f.toNat, .ok) | e => ([], e)
def lose (d : Disk) (n : Int) : Disk := { d with lost := max n 0 }
def start (d : Disk) : Disk := { d with down := false }
def arm (d : Disk) (n : Int) (keep : List Int) : Disk := { d with armed := max n 0, keep := keep }
end Dk
end Go.Proofs.Ytbelmadbjiiodaa
namespace Go.Proofs.Ytbelmadbjiiodaa
open Go
namespace Dk
structure Act where
  do_ : Int
  f : Int
  g : Int
  n : Int
  s : B
  keep : List Int
/-- An act writes this byte at this place of the file. -/
def Hit (a : Act) (f : Nat) (i : Nat) (c : UInt8) : Prop := a.f = (f : Int) ∧ a.n ≤ (i : Int) ∧ a.s[((i : Int) - a.n).toNat]? = some c
def Here (s safe : B) (l : List Act) (f : Nat) : Prop :=
  safe.length ≤ s.length ∧ ∀ i c, s[i]? = some c → safe[i]? = some c ∨ (safe.length ≤ i ∧ c = 0) ∨ ∃ a ∈ l, Hit a f i c
def From (l : List Act) (p : Piece) : Prop := ∃ a ∈ l, a.f = (p.f : Int) ∧ ∀ j c, p.s[j]? = some c → Hit a p.f (p.at_ + j) c
theorem here_self (s : B) (l : List Act) (f : Nat) : Here s s l f := ⟨Nat.le_refl _, fun _ _ h => .inl h⟩
theorem From.mono {l l' : List Act} {p : Piece} (h : From l p) (hs : ∀ a ∈ l, a ∈ l') : From l' p := by
  obtain ⟨a, ha, h2⟩ := h
  exact ⟨a, hs a ha, h2⟩
theorem here_put {s safe t : B} {l : List Act} {p : Piece} (h : Here s safe l p.f) (hp : From l p) (ht : ∀ (j : Nat) (c : UInt8), t[j]? = some c → p.s[j]? = some c) : Here (put s p.at_ t) safe l p.f := by
  refine ⟨by rw [put_length]; have := h.1; omega, fun i c hc => ?_⟩
  rw [put_at] at hc
  by_cases h1 : p.at_ ≤ i ∧ i < p.at_ + t.length
  · rw [if_pos h1] at hc
    obtain ⟨a, ha, _, h2⟩ := hp
    have := h2 _ _ (ht _ _ hc)
    rw [show p.at_ + (i - p.at_) = i by omega] at this
    exact .inr (.inr ⟨a, ha, this⟩)
  · rw [if_neg h1] at hc
    by_cases h2 : i < s.length
    · rw [if_pos h2] at hc
      exact h.2 i c hc
    · rw [if_neg h2] at hc
      by_cases h3 : i < p.at_ + t.length
      · rw [if_pos h3] at hc
        injection hc with hc
        have := h.1
        exact .inr (.inl ⟨by omega, hc.symm⟩)
      · rw [if_neg h3] at hc; cases hc
theorem part_pre (p : Piece) (k : Option Int) : ∀ (j : Nat) (c : UInt8), (part p k)[j]? = some c → p.s[j]? = some c := by
  intro j c h
  unfold part at h
  split at h
  · exact h
  · split at h
    · rw [List.getElem?_take] at h
      split at h
      · exact h
      · cases h
    · simp at h
theorem here_overK {safe : B} {l : List Act} (f : Nat) : ∀ (q : List Piece) (ks : List Int) (s : B), Here s safe l f → (∀ p ∈ q, From l p) → Here (overK f s q ks) safe l f
  | [], ks, s, h, _ => by unfold overK; exact h
  | p :: q, [], s, h, _ => by unfold overK; exact h
  | p :: q, k :: ks, s, h, hq => by
    unfold overK
    refine here_overK f q ks _ ?_ (fun x hx => hq x (by simp [hx]))
    split
    · next hc =>
      obtain ⟨rfl, _⟩ := hc
      exact here_put h (hq p (by simp)) (part_pre p _)
    · exact h
theorem over_cons (f : Nat) (s : B) (p : Piece) (q : List Piece) : over f s (p :: q) = over f (if p.f = f then put s p.at_ p.s else s) q := rfl
theorem here_over {safe : B} {l : List Act} (f : Nat) : ∀ (q : List Piece) (s : B), Here s safe l f → (∀ p ∈ q, From l p) → Here (over f s q) safe l f
  | [], s, h, _ => h
  | p :: q, s, h, hq => by
    rw [over_cons]
    refine here_over f q _ ?_ (fun x hx => hq x (by simp [hx]))
    split
    · next hc =>
      subst hc
      exact here_put h (hq p (by simp)) (fun _ _ h => h)
    · exact h
theorem part_length (p : Piece) (k : Option Int) : (part p k).length ≤ p.s.length := by
  unfold part
  split
  · exact Nat.le_refl _
  · split <;> simp <;> omega
theorem over_length (f : Nat) : ∀ (q : List Piece) (s s' : B), s.length ≤ s'.length → (over f s q).length ≤ (over f s' q).length
  | [], s, s', h => h
  | p :: q, s, s', h => by
    rw [over_cons, over_cons]
    refine over_length f q _ _ ?_
    split
    · rw [put_length, put_length]; omega
    · exact h
theorem overK_length (f : Nat) : ∀ (q : List Piece) (ks : List Int) (s s' : B), s.length ≤ s'.length → (overK f s q ks).length ≤ (over f s' q).length
  | [], ks, s, s', h => by unfold overK; exact h
  | p :: q, [], s, s', h => by
    unfold overK
    have h1 : s'.length ≤ (over f s' (p :: q)).length := by
      have : ∀ (q : List Piece) (s : B), s.length ≤ (over f s q).length := by
        intro q
        induction q with
        | nil => exact fun s => Nat.le_refl _
        | cons p q ih =>
          intro s
          rw [over_cons]
          refine Nat.le_trans ?_ (ih _)
          split
          · rw [put_length]; omega
          · exact Nat.le_refl _
      exact this _ _
    omega
  | p :: q, k :: ks, s, s', h => by
    rw [over_cons]
    unfold overK
    refine overK_length f q ks _ _ ?_
    have := part_length p (some k)
    split
    · next hc =>
      rw [if_pos hc.1, put_length, put_length]; omega
    · split
      · rw [put_length]; omega
      · exact h
theorem pieces_of (f : Nat) : ∀ (n at_ : Nat) (s : B), ∀ p ∈ pieces f n at_ s, p.f = f ∧ ∃ k m, p.at_ = at_ + k ∧ p.s = (s.drop k).take m
  | 0, at_, s, p, hp => by simp [pieces] at hp
  | n + 1, at_, [], p, hp => by simp [pieces] at hp
  | n + 1, at_, c :: s, p, hp => by
    unfold pieces at hp
    rcases List.mem_cons.1 hp with rfl | hp
    · exact ⟨rfl, 0, 64 - at_ % 64, rfl, rfl⟩
    · obtain ⟨h1, k, m, h2, h3⟩ := pieces_of f n _ _ p hp
      exact ⟨h1, (64 - at_ % 64) + k, m, by omega, by rw [h3, List.drop_drop]⟩
theorem pieces_from {l : List Act} {a : Act} (ha : a ∈ l) (f at_ : Nat) (hf : a.f = (f : Int)) (hn : a.n = (at_ : Int)) (n : Nat) : ∀ p ∈ pieces f n at_ a.s, From l p := by
  intro p hp
  obtain ⟨h1, k, m, h2, h3⟩ := pieces_of f n at_ a.s p hp
  refine ⟨a, ha, by rw [hf, h1], fun j c hc => ⟨by rw [hf, h1], by omega, ?_⟩⟩
  rw [h3, List.getElem?_take] at hc
  split at hc
  · rw [List.getElem?_drop] at hc
    rw [show (((p.at_ + j : Nat) : Int) - a.n).toNat = k + j by omega]
    exact hc
  · cases hc
/-- What holds between two acts. -/
structure Inv (d : Disk) (safe : Nat → B) (since : List Act) : Prop where
  from_ : ∀ p ∈ d.queue, From since p
  safe_ : ∀ f, f < 12 → safe f = d.last f
  down_ : d.down = true → d.queue = []
theorem Inv.mono {d : Disk} {safe : Nat → B} {l l' : List Act} (h : Inv d safe l) (hs : ∀ a ∈ l, a ∈ l') : Inv d safe l' := ⟨fun p hp => (h.from_ p hp).mono hs, h.safe_, h.down_⟩
theorem Inv.armed {d : Disk} {safe : Nat → B} {l : List Act} (h : Inv d safe l) (n : Int) : Inv { d with armed := n } safe l := ⟨h.from_, h.safe_, h.down_⟩
theorem Inv.add {d : Disk} {safe : Nat → B} {l : List Act} (h : Inv d safe l) (hd : d.down = false) {a : Act} (ha : a ∈ l) {f at_ : Nat} (hf : a.f = (f : Int)) (hn : a.n = (at_ : Int)) : Inv (add d f at_ a.s) safe l := by
  refine ⟨fun p hp => ?_, h.safe_, fun h2 => ?_⟩
  · rcases List.mem_append.1 hp with hp | hp
    · exact h.from_ p hp
    · exact pieces_from ha f at_ hf hn _ p hp
  · change d.down = true at h2
    rw [hd] at h2; cases h2
theorem crash_here {d : Disk} {safe : Nat → B} {l : List Act} (h : Inv d safe l) (hd : d.down = false) (keep : List Int) : (∀ f, f < 12 → Here ((crash d keep).last f) (safe f) l f) ∧ (crash d keep).queue = [] ∧ (crash d keep).down = true := by
  unfold crash
  rw [hd]
  refine ⟨fun f hf => ?_, rfl, rfl⟩
  show Here (overK f (d.last f) d.queue keep) (safe f) l f
  rw [h.safe_ f hf]
  exact here_overK f _ _ _ (here_self _ _ _) h.from_
end Dk
end Go.Proofs.Ytbelmadbjiiodaa
namespace Go.Proofs.Ytbelmadbjiiodaa
open Go
namespace Dk
def pick (n : Int) : Int := n % 11
def act (d : Disk) (a : Act) : (B × E) × Disk :=
  if pick a.do_ = 0 ∨ pick a.do_ = 1 then (([], (write d a.f a.n a.s).1), (write d a.f a.n a.s).2)
  else if pick a.do_ = 2 then (([], (flush d a.f).1), (flush d a.f).2)
  else if pick a.do_ = 3 then (([], (cut d a.f a.n).1), (cut d a.f a.n).2)
  else if pick a.do_ = 4 then (([], (turn d a.f a.g).1), (turn d a.f a.g).2)
  else if pick a.do_ = 5 then (([], .ok), crash d a.keep)
  else if pick a.do_ = 6 then (([], .ok), lose d a.n)
  else if pick a.do_ = 7 then (([], .ok), start d)
  else if pick a.do_ = 8 then (readE d a.f, d)
  else if pick a.do_ = 10 then (([], .ok), arm d a.n a.keep)
  else (([], .ok), d)
def sinceOf (d : Disk) (a : Act) (since : List Act) : List Act := if pick a.do_ ≤ 1 ∧ d.down = false ∧ 0 ≤ a.n ∧ a.n < 4000 then since ++ [a] else since
def others (l : List Act) (f : Int) : List Act := l.filter fun a => a.f != f
theorem sinceOf_sub (d : Disk) (a : Act) (since : List Act) : ∀ x ∈ since, x ∈ sinceOf d a since := fun x hx => by
  unfold sinceOf
  split
  · exact List.mem_append.2 (.inl hx)
  · exact hx
/-- Counting a call leaves what holds, or crashes. -/
theorem comes_none {d : Disk} {safe : Nat → B} {l : List Act} (h : Inv d safe l) :
    (Inv (comes d none) safe l ∧ (comes d none).down = d.down) ∨ (d.down = false ∧ (comes d none).down = true ∧ (∀ f, f < 12 → Here ((comes d none).last f) (safe f) l f) ∧ (comes d none).queue = []) := by
  unfold comes
  by_cases h1 : d.down = true ∨ d.armed = 0
  · rw [if_pos h1]; exact .inl ⟨h, rfl⟩
  · rw [if_neg h1]
    by_cases h2 : 1 < d.armed
    · rw [if_pos h2]; exact .inl ⟨h.armed _, rfl⟩
    · rw [if_neg h2]
      have hd : d.down = false := by cases hx : d.down with | false => rfl | true => exact absurd (.inl hx) h1
      obtain ⟨a, b, c⟩ := crash_here (h.armed 0) hd d.keep
      exact .inr ⟨hd, c, a, b⟩
theorem comes_write {d : Disk} {safe : Nat → B} {l : List Act} (h : Inv d safe l) (a : Act) (ha : fits a.n a.s = true → d.down = false → a ∈ l) :
    (Inv (comes d (some (a.f, a.n, a.s))) safe l ∧ (comes d (some (a.f, a.n, a.s))).down = d.down) ∨ (d.down = false ∧ (comes d (some (a.f, a.n, a.s))).down = true ∧ (∀ f, f < 12 → Here ((comes d (some (a.f, a.n, a.s))).last f) (safe f) l f) ∧ (comes d (some (a.f, a.n, a.s))).queue = []) := by
  unfold comes
  by_cases h1 : d.down = true ∨ d.armed = 0
  · rw [if_pos h1]; exact .inl ⟨h, rfl⟩
  · rw [if_neg h1]
    by_cases h2 : 1 < d.armed
    · rw [if_pos h2]; exact .inl ⟨h.armed _, rfl⟩
    · rw [if_neg h2]
      have hd : d.down = false := by cases hx : d.down with | false => rfl | true => exact absurd (.inl hx) h1
      dsimp only
      by_cases hf : (isFile a.f && fits a.n a.s) = true
      · rw [if_pos hf]
        simp only [Bool.and_eq_true] at hf
        have hf1 : 0 ≤ a.f := by have := hf.1; unfold isFile at this; simp at this; omega
        have hf2 : 0 ≤ a.n := by have := hf.2; unfold fits at this; simp at this; omega
        obtain ⟨x, y, z⟩ := crash_here ((h.armed 0).add hd (ha hf.2 hd) (f := a.f.toNat) (at_ := a.n.toNat) (by omega) (by omega)) hd d.keep
        exact .inr ⟨hd, z, x, y⟩
      · rw [if_neg hf]
        obtain ⟨x, y, z⟩ := crash_here (h.armed 0) hd d.keep
        exact .inr ⟨hd, z, x, y⟩
/-- Either what holds goes on, or the machine has just crashed, and each file is what a crash may leave. -/
def Went (d d' : Disk) (safe safe' : Nat → B) (since since' : List Act) : Prop :=
  (Inv d' safe' since' ∧ (d.down = false → d'.down = false)) ∨ (d.down = false ∧ d'.down = true ∧ (∀ f, f < 12 → Here (d'.last f) (safe f) since f) ∧ d'.queue = [])
theorem may_ok {d : Disk} {f : Int} (h : may d f = .ok) : d.down = false ∧ 0 ≤ f ∧ f ≤ 11 := by
  unfold may at h
  split at h
  · cases h
  · next hd =>
    split at h
    · next hf =>
      unfold isFile at hf
      simp at hf
      exact ⟨by simpa using hd, hf.1, hf.2⟩
    · cases h
theorem fits_lt {a : Act} (hn : a.n < 4000 ∨ 16777216 < a.n) (h : fits a.n a.s = true) : 0 ≤ a.n ∧ a.n < 4000 := by
  unfold fits at h
  simp at h
  omega
theorem write_went {d : Disk} {safe : Nat → B} {l : List Act} (h : Inv d safe l) (a : Act) (hk : pick a.do_ ≤ 1) (hn : a.n < 4000 ∨ 16777216 < a.n) : Went d (write d a.f a.n a.s).2 safe safe (sinceOf d a l) (sinceOf d a l) := by
  have hin : fits a.n a.s = true → d.down = false → a ∈ sinceOf d a l := by
    intro h1 h2
    have := fits_lt hn h1
    unfold sinceOf
    rw [if_pos ⟨hk, h2, this.1, this.2⟩]
    simp
  have h' := h.mono (sinceOf_sub d a l)
  unfold write
  rcases comes_write h' a hin with ⟨h1, h2⟩ | ⟨h1, h2, h3, h4⟩
  · generalize comes d (some (a.f, a.n, a.s)) = d1 at *
    have hsame : Went d d1 safe safe (sinceOf d a l) (sinceOf d a l) := .inl ⟨h1, fun hd => by rw [h2, hd]⟩
    unfold writeB
    split
    · next hm =>
      obtain ⟨m1, m2, m3⟩ := may_ok hm
      split
      · exact hsame
      · split
        · next hfit =>
          have hd : d.down = false := by rw [← h2]; exact m1
          exact .inl ⟨h1.add m1 (hin hfit hd) (by omega) (by have := fits_lt hn hfit; omega), fun _ => m1⟩
        · exact hsame
    · exact hsame
  · have hm : may (comes d (some (a.f, a.n, a.s))) a.f = .down := by unfold may; rw [h2]; rfl
    unfold writeB
    rw [hm, if_neg (by decide)]
    exact .inr ⟨h1, h2, h3, h4⟩
theorem over_without (f : Nat) : ∀ (q : List Piece) (s : B), (∀ p ∈ q, p.f ≠ f) → over f s q = s
  | [], s, _ => rfl
  | p :: q, s, h => by rw [over_cons, if_neg (h p (by simp))]; exact over_without f q s fun x hx => h x (by simp [hx])
theorem without_ne {q : List Piece} {f : Nat} : ∀ p ∈ without q f, p ∈ q ∧ p.f ≠ f := fun p hp => by
  unfold without at hp
  simpa using hp
theorem from_others {l : List Act} {p : Piece} {f : Int} (h : From l p) (hf : (p.f : Int) ≠ f) : From (others l f) p := by
  obtain ⟨a, ha, h1, h2⟩ := h
  exact ⟨a, by unfold others; simp [ha, h1, hf], h1, h2⟩
/-- A file is durable as it reads. -/
theorem inv_durable {d : Disk} {safe : Nat → B} {l : List Act} (h : Inv d safe l) (hd : d.down = false) (f : Nat) (s : B) :
    Inv { d with last := setLast d.last f s, queue := without d.queue f } (setLast safe f s) (others l (f : Int)) := by
  refine ⟨fun p hp => ?_, fun g hg => ?_, fun h2 => by change d.down = true at h2; rw [hd] at h2; cases h2⟩
  · obtain ⟨h1, h2⟩ := without_ne p hp
    exact from_others (h.from_ p h1) (by omega)
  · show setLast safe f s g = setLast d.last f s g
    unfold setLast
    split
    · rfl
    · exact h.safe_ g hg
/-- What an act that made something durable leaves. -/
def safeOf (d' : Disk) (a : Act) (e : E) (safe : Nat → B) : Nat → B :=
  if (pick a.do_ = 2 ∨ pick a.do_ = 3) ∧ e = .ok then setLast safe a.f.toNat (read d' a.f.toNat)
  else if pick a.do_ = 4 ∧ e = .ok then setLast (setLast safe a.f.toNat (safe a.g.toNat)) a.g.toNat [] else safe
def restOf (a : Act) (e : E) (since : List Act) : List Act :=
  if (pick a.do_ = 2 ∨ pick a.do_ = 3) ∧ e = .ok then others since a.f
  else if pick a.do_ = 4 ∧ e = .ok then others (others since a.f) a.g else since
theorem read_durable (d : Disk) (f : Nat) (s : B) : read { d with last := setLast d.last f s, queue := without d.queue f } f = s := by
  unfold read
  show over f (setLast d.last f s f) (without d.queue f) = s
  rw [over_without f _ _ (fun p hp => (without_ne p hp).2)]
  unfold setLast
  rw [if_pos rfl]
theorem went_none {d : Disk} {safe : Nat → B} {l : List Act} (h : Inv d safe l) (d' : Disk) (safe' : Nat → B) (l' : List Act) (hgo : Inv (comes d none) safe l → (comes d none).down = d.down → Inv d' safe' l' ∧ d'.down = d.down) (hst : (comes d none).down = true → d' = comes d none) : Went d d' safe safe' l l' := by
  rcases comes_none h with ⟨h1, h2⟩ | ⟨h1, h2, h3, h4⟩
  · obtain ⟨a, b⟩ := hgo h1 h2
    exact .inl ⟨a, fun hd => by rw [b, hd]⟩
  · rw [hst h2]; exact .inr ⟨h1, h2, h3, h4⟩
theorem may_down {d : Disk} {f : Int} (h : d.down = true) : may d f = .down := by unfold may; rw [h]; rfl
theorem flush_went {d : Disk} {safe : Nat → B} {l : List Act} (h : Inv d safe l) (a : Act) (hk : pick a.do_ = 2) : Went d (flush d a.f).2 safe (safeOf (flush d a.f).2 a (flush d a.f).1 safe) l (restOf a (flush d a.f).1 l) := by
  unfold flush
  refine went_none h _ _ _ (fun h1 h2 => ?_) (fun h1 => by unfold flushB; rw [may_down h1, if_neg (by decide)])
  generalize comes d none = d1 at *
  unfold flushB safeOf restOf
  by_cases hm : may d1 a.f = .ok
  · rw [if_pos hm]
    obtain ⟨m1, m2, m3⟩ := may_ok hm
    by_cases hl : 0 < d1.lost
    · rw [if_pos hl]
      simp only [hk]
      exact ⟨by simpa using (⟨h1.from_, h1.safe_, h1.down_⟩ : Inv { d1 with lost := d1.lost - 1 } safe l), h2⟩
    · rw [if_neg hl]
      rw [if_pos ⟨.inl hk, rfl⟩, if_pos ⟨.inl hk, rfl⟩]
      refine ⟨?_, h2⟩
      have := inv_durable h1 m1 a.f.toNat (read d1 a.f.toNat)
      rw [show ((a.f.toNat : Nat) : Int) = a.f by omega] at this
      rw [show read (E.ok, { d1 with last := setLast d1.last a.f.toNat (read d1 a.f.toNat), queue := without d1.queue a.f.toNat }).2 a.f.toNat = read d1 a.f.toNat from read_durable d1 _ _]
      exact this
  · rw [if_neg hm]
    rw [if_neg (fun h => hm h.2), if_neg (fun h => hm h.2), if_neg (fun h => hm h.2), if_neg (fun h => hm h.2)]
    exact ⟨h1, h2⟩
theorem cut_went {d : Disk} {safe : Nat → B} {l : List Act} (h : Inv d safe l) (a : Act) (hk : pick a.do_ = 3) : Went d (cut d a.f a.n).2 safe (safeOf (cut d a.f a.n).2 a (cut d a.f a.n).1 safe) l (restOf a (cut d a.f a.n).1 l) := by
  unfold cut
  refine went_none h _ _ _ (fun h1 h2 => ?_) (fun h1 => by unfold cutB; rw [may_down h1, if_neg (by decide)])
  generalize comes d none = d1 at *
  unfold cutB safeOf restOf
  by_cases hm : may d1 a.f = .ok
  · rw [if_pos hm]
    obtain ⟨m1, m2, m3⟩ := may_ok hm
    by_cases hl : a.n < 0 ∨ ((read d1 a.f.toNat).length : Int) < a.n
    · rw [if_pos hl]
      simp only [hk]
      exact ⟨by simpa using h1, h2⟩
    · rw [if_neg hl]
      rw [if_pos ⟨.inr hk, rfl⟩, if_pos ⟨.inr hk, rfl⟩]
      refine ⟨?_, h2⟩
      have := inv_durable h1 m1 a.f.toNat ((read d1 a.f.toNat).take a.n.toNat)
      rw [show ((a.f.toNat : Nat) : Int) = a.f by omega] at this
      rw [show read (E.ok, { d1 with last := setLast d1.last a.f.toNat ((read d1 a.f.toNat).take a.n.toNat), queue := without d1.queue a.f.toNat }).2 a.f.toNat = (read d1 a.f.toNat).take a.n.toNat from read_durable d1 _ _]
      exact this
  · rw [if_neg hm]
    rw [if_neg (fun h => hm h.2), if_neg (fun h => hm h.2), if_neg (fun h => hm h.2), if_neg (fun h => hm h.2)]
    exact ⟨h1, h2⟩
theorem turn_went {d : Disk} {safe : Nat → B} {l : List Act} (h : Inv d safe l) (a : Act) (hk : pick a.do_ = 4) : Went d (turn d a.f a.g).2 safe (safeOf (turn d a.f a.g).2 a (turn d a.f a.g).1 safe) l (restOf a (turn d a.f a.g).1 l) := by
  unfold turn
  refine went_none h _ _ _ (fun h1 h2 => ?_) (fun h1 => by unfold turnB; rw [may_down h1, if_neg (by decide)])
  generalize comes d none = d1 at *
  unfold turnB safeOf restOf
  have hk2 : ¬ (pick a.do_ = 2 ∨ pick a.do_ = 3) := by omega
  by_cases hm : may d1 a.f = .ok
  · rw [if_pos hm]
    obtain ⟨m1, m2, m3⟩ := may_ok hm
    by_cases hg : may d1 a.g = .ok
    · rw [if_pos hg]
      obtain ⟨_, g2, g3⟩ := may_ok hg
      by_cases hfg : a.f = a.g
      · rw [if_pos hfg, if_neg (fun h => hk2 h.1), if_neg (fun h => by cases h.2), if_neg (fun h => hk2 h.1), if_neg (fun h => by cases h.2)]
        exact ⟨h1, h2⟩
      · rw [if_neg hfg]
        by_cases hp : pending d1.queue a.g.toNat = true
        · rw [if_pos hp, if_neg (fun h => hk2 h.1), if_neg (fun h => by cases h.2), if_neg (fun h => hk2 h.1), if_neg (fun h => by cases h.2)]
          exact ⟨h1, h2⟩
        · rw [if_neg hp, if_neg (fun h => hk2 h.1), if_pos ⟨hk, rfl⟩, if_neg (fun h => hk2 h.1), if_pos ⟨hk, rfl⟩]
          refine ⟨⟨fun p hpq => ?_, fun x hx => ?_, fun h3 => by change d1.down = true at h3; rw [m1] at h3; cases h3⟩, h2⟩
          · obtain ⟨q1, q2⟩ := without_ne p hpq
            have q3 : p.f ≠ a.g.toNat := fun e => hp (by unfold pending; rw [List.any_eq_true]; exact ⟨p, q1, by simp [e]⟩)
            exact from_others (from_others (h1.from_ p q1) (by omega)) (by omega)
          · show setLast (setLast safe a.f.toNat (safe a.g.toNat)) a.g.toNat [] x = setLast (setLast d1.last a.f.toNat (d1.last a.g.toNat)) a.g.toNat [] x
            unfold setLast
            split
            · rfl
            · split
              · exact h1.safe_ _ (by omega)
              · exact h1.safe_ _ hx
    · rw [if_neg hg, if_neg (fun h => hk2 h.1), if_neg (fun h => hg h.2), if_neg (fun h => hk2 h.1), if_neg (fun h => hg h.2)]
      exact ⟨h1, h2⟩
  · rw [if_neg hm, if_neg (fun h => hk2 h.1), if_neg (fun h => hm h.2), if_neg (fun h => hk2 h.1), if_neg (fun h => hm h.2)]
    exact ⟨h1, h2⟩
theorem pick_range (n : Int) : 0 ≤ pick n ∧ pick n ≤ 10 := by unfold pick; omega
/-- Act for act: what holds goes on, or the machine has just crashed, and each file is what a crash may leave. -/
theorem act_went {d : Disk} {safe : Nat → B} {l : List Act} (h : Inv d safe l) (a : Act) (hn : a.n < 4000 ∨ 16777216 < a.n) :
    Went d (act d a).2 safe (safeOf (act d a).2 a (act d a).1.2 safe) (sinceOf d a l) (restOf a (act d a).1.2 (sinceOf d a l)) := by
  have hr := pick_range a.do_
  have hsame : ¬ pick a.do_ ≤ 1 → sinceOf d a l = l := fun hk => by unfold sinceOf; rw [if_neg (fun h => hk h.1)]
  have hno : ∀ (d' : Disk) (e : E), ¬ (pick a.do_ = 2 ∨ pick a.do_ = 3) → pick a.do_ ≠ 4 → safeOf d' a e safe = safe ∧ ∀ m, restOf a e m = m := fun d' e h1 h2 => by
    unfold safeOf restOf
    refine ⟨by rw [if_neg (fun h => h1 h.1), if_neg (fun h => h2 h.1)], fun m => by rw [if_neg (fun h => h1 h.1), if_neg (fun h => h2 h.1)]⟩
  unfold act
  split
  · next hk =>
    obtain ⟨e1, e2⟩ := hno (write d a.f a.n a.s).2 (write d a.f a.n a.s).1 (by omega) (by omega)
    show Went d (write d a.f a.n a.s).2 safe (safeOf (write d a.f a.n a.s).2 a (write d a.f a.n a.s).1 safe) _ (restOf a (write d a.f a.n a.s).1 _)
    rw [e1, e2]
    exact write_went h a (by omega) hn
  split
  · next hk => rw [hsame (by omega)]; exact flush_went h a hk
  split
  · next hk => rw [hsame (by omega)]; exact cut_went h a hk
  split
  · next hk => rw [hsame (by omega)]; exact turn_went h a hk
  rw [hsame (by omega)]
  have e1 := fun (d' : Disk) (e : E) => (hno d' e (by omega) (by omega)).1
  have e2 := fun (e : E) => (hno d e (by omega) (by omega)).2
  simp only [e1, e2]
  split
  · by_cases hd : d.down = true
    · have : crash d a.keep = d := by unfold crash; rw [if_pos hd]
      rw [this]
      exact .inl ⟨h, id⟩
    · have hd' : d.down = false := by simpa using hd
      obtain ⟨x, y, z⟩ := crash_here h hd' a.keep
      exact .inr ⟨hd', z, x, y⟩
  split
  · exact .inl ⟨⟨h.from_, h.safe_, h.down_⟩, id⟩
  split
  · exact .inl ⟨⟨h.from_, h.safe_, fun hd => by cases hd⟩, fun _ => rfl⟩
  split
  · exact .inl ⟨h, id⟩
  split
  · exact .inl ⟨⟨h.from_, h.safe_, h.down_⟩, id⟩
  · exact .inl ⟨h, id⟩
/-- Behind a crash all is durable. -/
theorem inv_after {d : Disk} (hq : d.queue = []) (safe : Nat → B) (hs : ∀ f, f < 12 → safe f = d.last f) : Inv (crash (start d) []) safe [] := by
  refine ⟨fun p hp => ?_, fun f hf => ?_, fun _ => rfl⟩
  · change p ∈ ([] : List Piece) at hp; cases hp
  · show safe f = overK f (d.last f) d.queue []
    rw [hq, hs f hf]
    rfl
theorem inv_new : Inv new (fun _ => []) [] := by
  refine ⟨fun p hp => ?_, fun _ _ => rfl, fun h => ?_⟩
  · cases hp
  · cases h
end Dk
end Go.Proofs.Ytbelmadbjiiodaa
namespace Go.Proofs.Ytbelmadbjiiodaa
open Go
namespace Dk
theorem put_put (s : B) (at_ : Nat) (a b : B) : put (put s at_ a) (at_ + a.length) b = put s at_ (a ++ b) := by
  refine List.ext_getElem? fun i => ?_
  rw [put_at (put s at_ a) (at_ + a.length) b i, put_length, put_at s at_ a i, put_at s at_ (a ++ b) i, List.length_append]
  by_cases h1 : at_ + a.length ≤ i ∧ i < at_ + a.length + b.length
  · rw [if_pos h1, if_pos (by omega), List.getElem?_append_right (by omega)]
    congr 1; omega
  · rw [if_neg h1]
    by_cases h2 : at_ ≤ i ∧ i < at_ + a.length
    · rw [if_pos (by omega), if_pos h2, if_pos (by omega), List.getElem?_append_left (by omega)]
    · rw [if_neg h2]
      rw [if_neg (c := at_ ≤ i ∧ i < at_ + (a.length + b.length)) (by omega)]
      by_cases h3 : i < s.length
      · rw [if_pos (by omega), if_pos h3, if_pos h3]
      · rw [if_neg h3]
        by_cases h4 : i < at_ + a.length
        · rw [if_pos (by omega), if_pos h4, if_neg h3, if_pos (by omega)]
        · rw [if_neg (by omega), if_neg (by omega), if_neg h3, if_neg (by omega)]
theorem over_pieces (f : Nat) : ∀ (n at_ : Nat) (s base : B), s.length ≤ n → s ≠ [] → over f base (pieces f n at_ s) = put base at_ s
  | 0, at_, s, base, hn, hs => absurd (List.eq_nil_of_length_eq_zero (by omega)) hs
  | n + 1, at_, [], base, hn, hs => absurd rfl hs
  | n + 1, at_, c :: t, base, hn, hs => by
    unfold pieces
    rw [over_cons, if_pos rfl]
    generalize hm : 64 - at_ % 64 = m
    have hm1 : 1 ≤ m := by omega
    by_cases hd : (c :: t).drop m = []
    · have hlen : (c :: t).length ≤ m := by rw [List.drop_eq_nil_iff] at hd; exact hd
      have hp : pieces f n (at_ + m) [] = [] := by cases n <;> simp [pieces]
      rw [hd, hp, List.take_of_length_le hlen]
      rfl
    · have hlen : m < (c :: t).length := by
        rcases Nat.lt_or_ge m (c :: t).length with h | h
        · exact h
        · exact absurd (List.drop_eq_nil_of_le h) hd
      have htl : ((c :: t).take m).length = m := by rw [List.length_take]; omega
      rw [over_pieces f n (at_ + m) ((c :: t).drop m) _ (by rw [List.length_drop]; simp only [List.length_cons] at hn ⊢; omega) hd]
      show put (put base at_ ((c :: t).take m)) (at_ + m) _ = _
      have := put_put base at_ ((c :: t).take m) ((c :: t).drop m)
      rw [htl, List.take_append_drop] at this
      exact this
theorem over_append (f : Nat) (s : B) (q q' : List Piece) : over f s (q ++ q') = over f (over f s q) q' := by unfold over; rw [List.foldl_append]
theorem over_other (f g : Nat) (h : g ≠ f) (n at_ : Nat) (s base : B) : over f base (pieces g n at_ s) = base :=
  over_without f _ _ fun p hp => by rw [(pieces_of g n at_ s p hp).1]; exact h
theorem read_add (d : Disk) (f at_ : Nat) (s : B) (hs : s ≠ []) : read (add d f at_ s) f = put (read d f) at_ s := by
  unfold read add
  show over f (d.last f) (d.queue ++ pieces f s.length at_ s) = _
  rw [over_append, over_pieces f _ _ _ _ (Nat.le_refl _) hs]
theorem read_add_other (d : Disk) (f g at_ : Nat) (s : B) (h : g ≠ f) : read (add d g at_ s) f = read d f := by
  unfold read add
  show over f (d.last f) (d.queue ++ pieces g s.length at_ s) = _
  rw [over_append, over_other f g h]
theorem put_end (s t : B) : put s s.length t = s ++ t := by
  refine List.ext_getElem? fun i => ?_
  rw [put_at]
  by_cases h1 : s.length ≤ i ∧ i < s.length + t.length
  · rw [if_pos h1, List.getElem?_append_right h1.1]
  · rw [if_neg h1]
    by_cases h2 : i < s.length
    · rw [if_pos h2, List.getElem?_append_left h2]
    · rw [if_neg h2, if_neg (by omega), List.getElem?_append_right (by omega)]
      rw [List.getElem?_eq_none (by omega)]
theorem pieces_nil (f n at_ : Nat) : pieces f n at_ [] = [] := by cases n <;> simp [pieces]
/-- A machine that is down. -/
theorem down_comes {d : Disk} (h : d.down = true) (w : Option (Int × Int × B)) : comes d w = d := by unfold comes; rw [if_pos (.inl h)]
theorem down_write {d : Disk} (h : d.down = true) (f at_ : Int) (s : B) : write d f at_ s = (.down, d) := by
  unfold write; rw [down_comes h]; unfold writeB; rw [may_down h, if_neg (by decide)]
theorem down_flush {d : Disk} (h : d.down = true) (f : Int) : flush d f = (.down, d) := by
  unfold flush; rw [down_comes h]; unfold flushB; rw [may_down h, if_neg (by decide)]
theorem down_cut {d : Disk} (h : d.down = true) (f n : Int) : cut d f n = (.down, d) := by
  unfold cut; rw [down_comes h]; unfold cutB; rw [may_down h, if_neg (by decide)]
theorem down_turn {d : Disk} (h : d.down = true) (f g : Int) : turn d f g = (.down, d) := by
  unfold turn; rw [down_comes h]; unfold turnB; rw [may_down h, if_neg (by decide)]
theorem down_read {d : Disk} (h : d.down = true) (f : Int) : readE d f = ([], .down) := by unfold readE; rw [may_down h]
theorem down_crash {d : Disk} (h : d.down = true) (keep : List Int) : crash d keep = d := by unfold crash; rw [if_pos h]
/-- A file number that is none. -/
theorem may_arg {d : Disk} (h : d.down = false) {f : Int} (hf : f < 0 ∨ 11 < f) : may d f = .arg := by
  unfold may isFile
  rw [h, if_neg (by decide)]
  rw [if_neg (by simp; omega)]
theorem may_file {d : Disk} (h : d.down = false) {f : Int} (h0 : 0 ≤ f) (h1 : f ≤ 11) : may d f = .ok := by
  unfold may isFile
  rw [h, if_neg (by decide), if_pos (by simp; omega)]
theorem calm_comes {d : Disk} (h : d.armed = 0) (w : Option (Int × Int × B)) : comes d w = d := by unfold comes; rw [if_pos (.inr h)]
theorem arg_write {d : Disk} (h : d.down = false) (ha : d.armed = 0) {f : Int} (hf : f < 0 ∨ 11 < f) (at_ : Int) (s : B) : write d f at_ s = (.arg, d) := by
  unfold write; rw [calm_comes ha]; unfold writeB; rw [may_arg h hf, if_neg (by decide)]
theorem arg_flush {d : Disk} (h : d.down = false) (ha : d.armed = 0) {f : Int} (hf : f < 0 ∨ 11 < f) : flush d f = (.arg, d) := by
  unfold flush; rw [calm_comes ha]; unfold flushB; rw [may_arg h hf, if_neg (by decide)]
theorem arg_cut {d : Disk} (h : d.down = false) (ha : d.armed = 0) {f : Int} (hf : f < 0 ∨ 11 < f) (n : Int) : cut d f n = (.arg, d) := by
  unfold cut; rw [calm_comes ha]; unfold cutB; rw [may_arg h hf, if_neg (by decide)]
theorem arg_turn {d : Disk} (h : d.down = false) (ha : d.armed = 0) {f : Int} (hf : f < 0 ∨ 11 < f) (g : Int) : turn d f g = (.arg, d) := by
  unfold turn; rw [calm_comes ha]; unfold turnB; rw [may_arg h hf, if_neg (by decide)]
theorem arg_turn2 {d : Disk} (h : d.down = false) (ha : d.armed = 0) {f g : Int} (h0 : 0 ≤ f) (h1 : f ≤ 11) (hg : g < 0 ∨ 11 < g) : turn d f g = (.arg, d) := by
  unfold turn; rw [calm_comes ha]; unfold turnB; rw [may_file h h0 h1, if_pos rfl, may_arg h hg, if_neg (by decide)]
/-- The final crash of DiskLasts. -/
theorem final_here {d : Disk} {safe : Nat → B} {l : List Act} (h : Inv d safe l) (keep : List Int) (f : Nat) (hf : f < 12) :
    Here ((crash (start (arm d 0 [])) keep).last f) (safe f) l f ∧ ((crash (start (arm d 0 [])) keep).last f).length ≤ (read (start (arm d 0 [])) f).length ∧ (crash (start (arm d 0 [])) keep).queue = [] := by
  have h2 : Inv (start (arm d 0 [])) safe l := ⟨h.from_, h.safe_, fun hd => by cases hd⟩
  obtain ⟨a, b, c⟩ := crash_here h2 rfl keep
  refine ⟨a f hf, ?_, b⟩
  show (overK f (d.last f) d.queue keep).length ≤ (over f (d.last f) d.queue).length
  exact overK_length f _ _ _ _ (Nat.le_refl _)
theorem read_quiet {d : Disk} (h : d.queue = []) (f : Nat) : read d f = d.last f := by unfold read; rw [h]; rfl
/-- Calls that fit, on a calm machine that is up. -/
theorem calm_write {d : Disk} (h : d.down = false) (ha : d.armed = 0) {f at_ : Int} (h0 : 0 ≤ f) (h1 : f ≤ 11) (s : B) (hfit : fits at_ s = true) : write d f at_ s = (.ok, add d f.toNat at_.toNat s) := by
  have hn : ¬ at_ < 0 := by unfold fits at hfit; simp at hfit; omega
  unfold write; rw [calm_comes ha]; unfold writeB; rw [may_file h h0 h1, if_pos rfl, if_neg hn, if_pos hfit]
theorem calm_flush {d : Disk} (h : d.down = false) (ha : d.armed = 0) {f : Int} (h0 : 0 ≤ f) (h1 : f ≤ 11) (hl : d.lost ≤ 0) : flush d f = (.ok, { d with last := setLast d.last f.toNat (read d f.toNat), queue := without d.queue f.toNat }) := by
  unfold flush; rw [calm_comes ha]; unfold flushB; rw [may_file h h0 h1, if_pos rfl, if_neg (by omega)]
theorem calm_lost {d : Disk} (h : d.down = false) (ha : d.armed = 0) {f : Int} (h0 : 0 ≤ f) (h1 : f ≤ 11) (hl : 0 < d.lost) : flush d f = (.lost, { d with lost := d.lost - 1 }) := by
  unfold flush; rw [calm_comes ha]; unfold flushB; rw [may_file h h0 h1, if_pos rfl, if_pos hl]
theorem calm_turn {d : Disk} (h : d.down = false) (ha : d.armed = 0) {f g : Int} (h0 : 0 ≤ f) (h1 : f ≤ 11) (g0 : 0 ≤ g) (g1 : g ≤ 11) (hne : f ≠ g) :
    turn d f g = if pending d.queue g.toNat = true then (.state, d) else (.ok, { d with last := setLast (setLast d.last f.toNat (d.last g.toNat)) g.toNat [], queue := without d.queue f.toNat }) := by
  unfold turn; rw [calm_comes ha]; unfold turnB; rw [may_file h h0 h1, if_pos rfl, may_file h g0 g1, if_pos rfl, if_neg hne]
end Dk
end Go.Proofs.Ytbelmadbjiiodaa
namespace Go.Proofs.Ytbelmadbjiiodaa
open Go
namespace Dk
/-- A calm machine that is up. -/
structure Calm (d : Disk) : Prop where
  down : d.down = false
  armed : d.armed = 0
theorem calm_new : Calm new := ⟨rfl, rfl⟩
theorem fits_of {at_ : Int} {s : B} (h0 : 0 ≤ at_) (h : at_ + s.length ≤ 16777216) : fits at_ s = true := by unfold fits; simp; omega
theorem without_nil (f : Nat) : without [] f = [] := rfl
theorem without_pieces (f n at_ : Nat) (s : B) : without (pieces f n at_ s) f = [] := by
  unfold without
  rw [List.filter_eq_nil_iff]
  intro p hp
  simp [(pieces_of f n at_ s p hp).1]
theorem read_new_write (d : Disk) (hq : d.queue = []) (f : Nat) (hl : d.last f = []) (s : B) : read (add d f 0 s) f = s := by
  by_cases hs : s = []
  · subst hs
    unfold read add
    show over f (d.last f) (d.queue ++ pieces f 0 0 []) = []
    rw [hq, pieces_nil, hl]; rfl
  · rw [read_add d f 0 s hs, read_quiet hq, hl]
    have := put_end [] s
    simpa using this
theorem pending_pieces (f : Nat) (s : B) (hs : s ≠ []) (q : List Piece) : pending (q ++ pieces f s.length 0 s) f = true := by
  unfold pending
  rw [List.any_append]
  cases s with
  | nil => exact absurd rfl hs
  | cons c t =>
    rw [Bool.or_eq_true]
    right
    rw [List.length_cons, pieces]
    · simp
    · intro h; cases h
theorem pending_nil (f : Nat) : pending [] f = false := rfl
/-- The machine behind the first write and flush of one file. -/
theorem wrote {d : Disk} (h : Calm d) (hq : d.queue = []) (hl : d.lost = 0) (f : Nat) (hf : f ≤ 11) (h0 : d.last f = []) (s : B) (hs : s.length ≤ 50000) :
    (write d (f : Int) 0 s) = (.ok, add d f 0 s) ∧ flush (add d f 0 s) (f : Int) = (.ok, { d with last := setLast d.last f s, queue := [] }) := by
  have e1 := calm_write h.down h.armed (f := (f : Int)) (at_ := 0) (by omega) (by omega) s (fits_of (by omega) (by omega))
  rw [Int.toNat_natCast, Int.toNat_zero] at e1
  refine ⟨e1, ?_⟩
  have e2 := calm_flush (d := add d f 0 s) h.down h.armed (f := (f : Int)) (by omega) (by omega) (by show d.lost ≤ 0; omega)
  rw [Int.toNat_natCast, read_new_write d hq f h0 s] at e2
  rw [e2]
  have : without (add d f 0 s).queue f = [] := by
    unfold add
    show without (d.queue ++ pieces f s.length 0 s) f = []
    rw [hq]
    exact without_pieces f _ _ s
  rw [this]
  rfl
theorem overK_other (f : Nat) : ∀ (q : List Piece) (ks : List Int) (s : B), (∀ p ∈ q, p.f ≠ f) → overK f s q ks = s
  | [], ks, s, _ => by unfold overK; rfl
  | p :: q, [], s, _ => by unfold overK; rfl
  | p :: q, k :: ks, s, h => by
    unfold overK
    rw [if_neg (fun hc => h p (by simp) hc.1)]
    exact overK_other f q ks s fun x hx => h x (by simp [hx])
theorem overK_nil (f : Nat) (s : B) (ks : List Int) : overK f s [] ks = s := by unfold overK; rfl
theorem crash_quiet {d : Disk} (hd : d.down = false) (hq : d.queue = []) (keep : List Int) (f : Nat) : read (start (crash d keep)) f = d.last f := by
  have : (start (crash d keep)).queue = [] := by unfold start crash; rw [hd]; rfl
  rw [read_quiet this]
  unfold start crash
  rw [hd]
  show overK f (d.last f) d.queue keep = _
  rw [hq, overK_nil]
/-- What becomes of the two files, whatever was turned. -/
theorem turn_done {d : Disk} (h : Calm d) (hq : d.queue = []) (keep : List Int) :
    (turn d 3 4).1 = .ok ∧ read (start (crash (turn d 3 4).2 keep)) 3 = d.last 4 ∧ read (start (crash (turn d 3 4).2 keep)) 4 = [] := by
  have e := calm_turn h.down h.armed (f := 3) (g := 4) (by omega) (by omega) (by omega) (by omega) (by omega)
  rw [hq] at e
  rw [if_neg (by rw [pending_nil]; decide)] at e
  rw [e]
  refine ⟨rfl, ?_, ?_⟩
  · exact crash_quiet (d := { d with last := setLast (setLast d.last 3 (d.last 4)) 4 [], queue := [] }) h.down rfl keep 3
  · exact crash_quiet (d := { d with last := setLast (setLast d.last 3 (d.last 4)) 4 [], queue := [] }) h.down rfl keep 4
theorem not_turned {d : Disk} (h : Calm d) (newer : B) (hne : newer ≠ []) (hq : d.queue = []) (h4 : d.last 4 = []) (keep : List Int) :
    (turn (add d 4 0 newer) 3 4).1 = .state ∧ read (start (crash (turn (add d 4 0 newer) 3 4).2 keep)) 3 = d.last 3 ∧ (read (start (crash (turn (add d 4 0 newer) 3 4).2 keep)) 4).length ≤ newer.length := by
  have e := calm_turn (d := add d 4 0 newer) h.down h.armed (f := 3) (g := 4) (by omega) (by omega) (by omega) (by omega) (by omega)
  have hp : pending (add d 4 0 newer).queue (4 : Int).toNat = true := pending_pieces 4 newer hne d.queue
  rw [if_pos hp] at e
  rw [e]
  have hqq : (add d 4 0 newer).queue = pieces 4 newer.length 0 newer := by unfold add; show d.queue ++ _ = _; rw [hq]; rfl
  have hs : ∀ f, read (start (crash (add d 4 0 newer) keep)) f = overK f (d.last f) (pieces 4 newer.length 0 newer) keep := by
    intro f
    have hq2 : (start (crash (add d 4 0 newer) keep)).queue = [] := by unfold start crash; rw [if_neg (by show ¬ d.down = true; rw [h.down]; decide)]
    rw [read_quiet hq2]
    unfold start crash
    rw [if_neg (by show ¬ d.down = true; rw [h.down]; decide)]
    show overK f ((add d 4 0 newer).last f) (add d 4 0 newer).queue keep = _
    rw [hqq]
    rfl
  refine ⟨rfl, ?_, ?_⟩
  · rw [hs 3]
    exact overK_other 3 _ _ _ fun p hp => by rw [(pieces_of 4 _ _ _ p hp).1]; decide
  · rw [hs 4, h4]
    refine Nat.le_trans (overK_length 4 _ keep [] [] (Nat.le_refl _)) ?_
    rw [over_pieces 4 _ 0 newer [] (Nat.le_refl _) hne, put_length]
    simp
end Dk
end Go.Proofs.Ytbelmadbjiiodaa
namespace Go.Proofs.Ytbelmadbjiiodaa
open Go
namespace Dk
def kept (s : B) (k : Int) : B := if k = 1 then s else if k = 2 then s.take 24 else []
theorem pieces_one (f at_ : Nat) (s : B) (hs : s ≠ []) (h : s.length ≤ 64) (h64 : at_ % 64 = 0) : pieces f s.length at_ s = [⟨f, at_, s⟩] := by
  cases s with
  | nil => exact absurd rfl hs
  | cons c t =>
    rw [List.length_cons, pieces]
    · rw [h64, List.take_of_length_le (by simpa using h), List.drop_eq_nil_of_le (by simpa using h), pieces_nil]
    · intro h; cases h
theorem kept_nil {s : B} (hs : s ≠ []) {k : Int} : kept s k = [] ↔ ¬ (k = 1 ∨ k = 2) := by
  unfold kept
  by_cases h1 : k = 1
  · rw [if_pos h1]; simp [h1, hs]
  · rw [if_neg h1]
    by_cases h2 : k = 2
    · rw [if_pos h2]
      cases s with
      | nil => exact absurd rfl hs
      | cons c t => simp [h2]
    · rw [if_neg h2]; simp [h1, h2]
theorem part_kept (f at_ : Nat) (s : B) (k : Int) : part ⟨f, at_, s⟩ (some k) = kept s k := by
  unfold part kept
  simp
theorem put_nil (at_ : Nat) (t : B) : put [] at_ t = List.replicate at_ 0 ++ t := by
  refine List.ext_getElem? fun i => ?_
  rw [put_at]
  by_cases h1 : at_ ≤ i ∧ i < at_ + t.length
  · rw [if_pos h1, List.getElem?_append_right (by simpa using h1.1)]
    simp
  · rw [if_neg h1, if_neg (by simp)]
    by_cases h2 : i < at_
    · rw [if_pos (by omega), List.getElem?_append_left (by simpa using h2), List.getElem?_replicate, if_pos h2]
    · rw [if_neg (by omega), List.getElem?_eq_none (by simp; omega)]
theorem put_gap (s t : B) (at_ : Nat) (h : s.length ≤ at_) : put s at_ t = s ++ List.replicate (at_ - s.length) 0 ++ t := by
  have := put_put [] 0 s (List.replicate (at_ - s.length) 0 ++ t)
  refine List.ext_getElem? fun i => ?_
  rw [put_at, List.append_assoc]
  by_cases h1 : at_ ≤ i ∧ i < at_ + t.length
  · rw [if_pos h1, List.getElem?_append_right (by omega), List.getElem?_append_right (by simp; omega)]
    simp
    congr 1; omega
  · rw [if_neg h1]
    by_cases h2 : i < s.length
    · rw [if_pos h2, List.getElem?_append_left h2]
    · rw [if_neg h2, List.getElem?_append_right (by omega)]
      by_cases h3 : i < at_
      · rw [if_pos (by omega), List.getElem?_append_left (by simp; omega), List.getElem?_replicate, if_pos (by omega)]
      · rw [if_neg (by omega), List.getElem?_eq_none (by simp; omega)]
/-- The three writes, and a crash that keeps what it is told. -/
theorem reorders (a b c : B) (ha : a ≠ []) (hb : b ≠ []) (hc : c ≠ []) (la : a.length ≤ 64) (lb : b.length ≤ 64) (lc : c.length ≤ 64) (k0 k1 k2 : Int) :
    write new 5 0 a = (.ok, add new 5 0 a) ∧ write (add new 5 0 a) 6 128 c = (.ok, add (add new 5 0 a) 6 128 c) ∧ write (add (add new 5 0 a) 6 128 c) 5 64 b = (.ok, add (add (add new 5 0 a) 6 128 c) 5 64 b) ∧
    (crash (add (add (add new 5 0 a) 6 128 c) 5 64 b) [k0, k1, k2]).last 5 = (if kept b k2 = [] then kept a k0 else kept a k0 ++ List.replicate (64 - (kept a k0).length) 0 ++ kept b k2) ∧
    (crash (add (add (add new 5 0 a) 6 128 c) 5 64 b) [k0, k1, k2]).last 6 = (if kept c k1 = [] then [] else List.replicate 128 0 ++ kept c k1) := by
  have hlen : (kept a k0).length ≤ 64 := by unfold kept; split; exact la; split; simp; omega; simp
  have hq : (add (add (add new 5 0 a) 6 128 c) 5 64 b).queue = [⟨5, 0, a⟩, ⟨6, 128, c⟩, ⟨5, 64, b⟩] := by
    unfold add new
    show (([] ++ pieces 5 a.length 0 a) ++ pieces 6 c.length 128 c) ++ pieces 5 b.length 64 b = _
    rw [pieces_one 5 0 a ha la rfl, pieces_one 6 128 c hc lc rfl, pieces_one 5 64 b hb lb rfl]
    rfl
  refine ⟨calm_write (d := new) rfl rfl (f := 5) (at_ := 0) (by omega) (by omega) a (fits_of (by omega) (by omega)),
    calm_write (d := add new 5 0 a) rfl rfl (f := 6) (at_ := 128) (by omega) (by omega) c (fits_of (by omega) (by omega)),
    calm_write (d := add (add new 5 0 a) 6 128 c) rfl rfl (f := 5) (at_ := 64) (by omega) (by omega) b (fits_of (by omega) (by omega)), ?_, ?_⟩
  · show overK 5 [] (add (add (add new 5 0 a) 6 128 c) 5 64 b).queue [k0, k1, k2] = _
    rw [hq]
    simp only [overK, part_kept, true_and]
    have h1 : (if (k0 = 1 ∨ k0 = 2) then put [] 0 (kept a k0) else []) = kept a k0 := by
      by_cases h : k0 = 1 ∨ k0 = 2
      · rw [if_pos h, put_nil]; simp
      · rw [if_neg h]; exact ((kept_nil ha).2 h).symm
    have e1 : ∀ (P : Prop) [Decidable P] (x y : B), (if (6 : Nat) = 5 ∧ P then x else y) = y := fun P _ x y => if_neg (by omega)
    rw [h1]
    simp only [e1]
    by_cases h : k2 = 1 ∨ k2 = 2
    · rw [if_pos h, if_neg (fun x => (kept_nil hb).1 x h), put_gap _ _ _ hlen]
    · rw [if_neg h, if_pos ((kept_nil hb).2 h)]
  · show overK 6 [] (add (add (add new 5 0 a) 6 128 c) 5 64 b).queue [k0, k1, k2] = _
    rw [hq]
    have e1 : ∀ (P : Prop) [Decidable P] (x y : B), (if (5 : Nat) = 6 ∧ P then x else y) = y := fun P _ x y => if_neg (by omega)
    simp only [overK, part_kept, true_and, e1]
    by_cases h : k1 = 1 ∨ k1 = 2
    · rw [if_pos h, if_neg (fun x => (kept_nil hc).1 x h), put_nil]
    · rw [if_neg h, if_pos ((kept_nil hc).2 h)]
end Dk
end Go.Proofs.Ytbelmadbjiiodaa
namespace Go.Proofs.Ytbelmadbjiiodaa
open Go
namespace Dk
/-- Between two calls of DiskArms, while the machine is up: calls of n were made. -/
structure AInv (d : Disk) (safe rest : B) (calls n : Int) (keep : List Int) : Prop where
  down : d.down = false
  armed : d.armed = n - calls
  more : calls < n
  keep_ : d.keep = keep
  lost : d.lost = 0
  last : d.last 0 = safe
  read_ : read d 0 = safe ++ rest
  queue : ∀ p ∈ d.queue, p.f = 0 ∧ safe.length ≤ p.at_
/-- What a crash leaves of the file. -/
def Left (z safe rest : B) (keep : List Int) : Prop := safe.length ≤ z.length ∧ z.length ≤ safe.length + rest.length ∧ z.take safe.length = safe ∧ (keep = [] → z = safe)
theorem put_take (s t : B) (at_ k : Nat) (h : k ≤ at_) (h2 : k ≤ s.length) : (put s at_ t).take k = s.take k := by
  refine List.ext_getElem? fun i => ?_
  rw [List.getElem?_take, List.getElem?_take]
  split
  · rw [put_at, if_neg (by omega), if_pos (by omega)]
  · rfl
theorem overK_take (f k : Nat) : ∀ (q : List Piece) (ks : List Int) (s : B), (∀ p ∈ q, k ≤ p.at_) → k ≤ s.length → (overK f s q ks).take k = s.take k ∧ k ≤ (overK f s q ks).length
  | [], ks, s, _, h => by unfold overK; exact ⟨rfl, h⟩
  | p :: q, [], s, _, h => by unfold overK; exact ⟨rfl, h⟩
  | p :: q, j :: ks, s, hq, h => by
    unfold overK
    have hq' : ∀ x ∈ q, k ≤ x.at_ := fun x hx => hq x (by simp [hx])
    by_cases hc : p.f = f ∧ (j = 1 ∨ j = 2)
    · rw [if_pos hc]
      obtain ⟨a, b⟩ := overK_take f k q ks (put s p.at_ (part p (some j))) hq' (by rw [put_length]; omega)
      exact ⟨a.trans (put_take _ _ _ _ (hq p (by simp)) h), b⟩
    · rw [if_neg hc]
      exact overK_take f k q ks s hq' h
theorem left_of (safe rest : B) (q : List Piece) (keep : List Int) (hq : ∀ p ∈ q, safe.length ≤ p.at_) (hr : over 0 safe q = safe ++ rest) : Left (overK 0 safe q keep) safe rest keep := by
  obtain ⟨a, b⟩ := overK_take 0 safe.length q keep safe hq (Nat.le_refl _)
  refine ⟨b, ?_, by rw [a, List.take_length], fun h => by subst h; cases q <;> (unfold overK; rfl)⟩
  have := overK_length 0 q keep safe safe (Nat.le_refl _)
  rw [hr, List.length_append] at this
  exact this
theorem arms_write {d : Disk} {safe rest : B} {calls n : Int} {keep : List Int} (h : AInv d safe rest calls n keep) (s : B) (hsz : safe.length + rest.length + s.length ≤ 100000) :
    (calls + 1 < n → (write d 0 ((safe.length + rest.length : Nat) : Int) s).1 = .ok ∧ AInv (write d 0 ((safe.length + rest.length : Nat) : Int) s).2 safe (rest ++ s) (calls + 1) n keep) ∧
    (calls + 1 = n → (write d 0 ((safe.length + rest.length : Nat) : Int) s).1 = .down ∧ (write d 0 ((safe.length + rest.length : Nat) : Int) s).2.down = true ∧ (write d 0 ((safe.length + rest.length : Nat) : Int) s).2.queue = [] ∧ Left ((write d 0 ((safe.length + rest.length : Nat) : Int) s).2.last 0) safe (rest ++ s) keep) := by
  have hfit : fits ((safe.length + rest.length : Nat) : Int) s = true := fits_of (by omega) (by omega)
  have hna : ¬ (d.down = true ∨ d.armed = 0) := by
    rw [h.down, h.armed]
    have := h.more
    intro h2
    rcases h2 with h2 | h2
    · cases h2
    · omega
  have hread : ∀ a : Int, over 0 (d.last 0) (d.queue ++ pieces 0 s.length (safe.length + rest.length) s) = safe ++ (rest ++ s) := by
    intro a
    rw [over_append]
    have hr := h.read_
    unfold read at hr
    rw [hr]
    by_cases hs : s = []
    · subst hs; rw [pieces_nil]; simp [over]
    · rw [over_pieces 0 _ _ _ _ (Nat.le_refl _) hs]
      have := put_end (safe ++ rest) s
      rw [List.length_append] at this
      rw [this, List.append_assoc]
  have hq : ∀ p ∈ d.queue ++ pieces 0 s.length (safe.length + rest.length) s, p.f = 0 ∧ safe.length ≤ p.at_ := by
    intro p hp
    rcases List.mem_append.1 hp with hp | hp
    · exact h.queue p hp
    · obtain ⟨h1, k, m, h2, _⟩ := pieces_of 0 _ _ s p hp
      exact ⟨h1, by omega⟩
  refine ⟨fun hc => ?_, fun hc => ?_⟩
  · have hcomes : comes d (some (0, ((safe.length + rest.length : Nat) : Int), s)) = { d with armed := d.armed - 1 } := by
      unfold comes
      rw [if_neg hna, if_pos (by rw [h.armed]; omega)]
    unfold write
    rw [hcomes]
    unfold writeB
    rw [may_file (d := { d with armed := d.armed - 1 }) h.down (by omega) (by omega), if_pos rfl, if_neg (by omega), if_pos hfit]
    refine ⟨rfl, ⟨h.down, ?_, hc, h.keep_, h.lost, h.last, ?_, ?_⟩⟩
    · show d.armed - 1 = n - (calls + 1)
      rw [h.armed]; omega
    · exact hread 0
    · exact hq
  · have hcomes : comes d (some (0, ((safe.length + rest.length : Nat) : Int), s)) = crash (add { d with armed := 0 } 0 (safe.length + rest.length) s) d.keep := by
      unfold comes
      rw [if_neg hna, if_neg (by rw [h.armed]; omega)]
      dsimp only
      rw [show (isFile 0 && fits ((safe.length + rest.length : Nat) : Int) s) = true from by rw [hfit]; rfl, if_pos rfl]
      rfl
    unfold write
    rw [hcomes]
    have hdown : (crash (add { d with armed := 0 } 0 (safe.length + rest.length) s) d.keep).down = true := by unfold crash; rw [if_neg (by show ¬ d.down = true; rw [h.down]; decide)]
    unfold writeB
    rw [may_down hdown, if_neg (by decide)]
    refine ⟨rfl, hdown, ?_, ?_⟩
    · unfold crash; rw [if_neg (by show ¬ d.down = true; rw [h.down]; decide)]
    · unfold crash
      rw [if_neg (by show ¬ d.down = true; rw [h.down]; decide)]
      show Left (overK 0 (d.last 0) (d.queue ++ pieces 0 s.length (safe.length + rest.length) s) d.keep) safe (rest ++ s) keep
      have hr := hread 0
      rw [h.last] at hr ⊢
      rw [h.keep_]
      exact left_of safe (rest ++ s) _ keep (fun p hp => (hq p hp).2) hr
theorem arms_flush {d : Disk} {safe rest : B} {calls n : Int} {keep : List Int} (h : AInv d safe rest calls n keep) :
    (calls + 1 < n → (flush d 0).1 = .ok ∧ AInv (flush d 0).2 (safe ++ rest) [] (calls + 1) n keep) ∧
    (calls + 1 = n → (flush d 0).1 = .down ∧ (flush d 0).2.down = true ∧ (flush d 0).2.queue = [] ∧ Left ((flush d 0).2.last 0) safe rest keep) := by
  have hna : ¬ (d.down = true ∨ d.armed = 0) := by
    rw [h.down, h.armed]
    have := h.more
    intro h2
    rcases h2 with h2 | h2
    · cases h2
    · omega
  refine ⟨fun hc => ?_, fun hc => ?_⟩
  · have hcomes : comes d none = { d with armed := d.armed - 1 } := by
      unfold comes
      rw [if_neg hna, if_pos (by rw [h.armed]; omega)]
    have hq : without d.queue 0 = [] := by
      unfold without
      rw [List.filter_eq_nil_iff]
      intro p hp
      simp [(h.queue p hp).1]
    have hr : read { d with armed := d.armed - 1 } 0 = safe ++ rest := h.read_
    unfold flush
    rw [hcomes]
    unfold flushB
    rw [may_file (d := { d with armed := d.armed - 1 }) h.down (by omega) (by omega), if_pos rfl, if_neg (by show ¬ 0 < d.lost; rw [h.lost]; omega)]
    refine ⟨rfl, ⟨h.down, ?_, hc, h.keep_, h.lost, ?_, ?_, ?_⟩⟩
    · show d.armed - 1 = n - (calls + 1)
      rw [h.armed]; omega
    · exact hr
    · show over 0 (setLast d.last 0 (read { d with armed := d.armed - 1 } 0) 0) (without d.queue 0) = _
      rw [hq, hr, List.append_nil]
      rfl
    · show ∀ p ∈ without d.queue 0, _
      rw [hq]
      intro p hp; cases hp
  · have hcomes : comes d none = crash { d with armed := 0 } d.keep := by
      unfold comes
      rw [if_neg hna, if_neg (by rw [h.armed]; omega)]
    unfold flush
    rw [hcomes]
    have hdown : (crash { d with armed := 0 } d.keep).down = true := by unfold crash; rw [if_neg (by show ¬ d.down = true; rw [h.down]; decide)]
    unfold flushB
    rw [may_down hdown, if_neg (by decide)]
    refine ⟨rfl, hdown, ?_, ?_⟩
    · unfold crash; rw [if_neg (by show ¬ d.down = true; rw [h.down]; decide)]
    · unfold crash
      rw [if_neg (by show ¬ d.down = true; rw [h.down]; decide)]
      show Left (overK 0 (d.last 0) d.queue d.keep) safe rest keep
      have hr := h.read_
      unfold read at hr
      rw [h.last] at hr ⊢
      rw [h.keep_]
      exact left_of safe rest _ keep (fun p hp => (h.queue p hp).2) hr
theorem arms_new (n : Int) (hn : 1 ≤ n) (keep : List Int) : AInv (arm new n keep) [] [] 0 n keep :=
  ⟨rfl, by show max n 0 = n - 0; omega, by omega, rfl, rfl, rfl, rfl, fun p hp => by cases hp⟩
/-- DiskLoses: the machine with one write and lost flushes due. -/
theorem loses_round (s : B) (n : Int) (hn : 0 < n) :
    flush { add new 0 0 s with lost := n } 0 = (.lost, { add new 0 0 s with lost := n - 1 }) ∧
    read (start (crash { add new 0 0 s with lost := n } [])) 0 = [] := by
  refine ⟨?_, ?_⟩
  · exact calm_lost (d := { add new 0 0 s with lost := n }) rfl rfl (f := 0) (by omega) (by omega) hn
  · have hq : (start (crash { add new 0 0 s with lost := n } [])).queue = [] := rfl
    rw [read_quiet hq]
    show overK 0 [] _ [] = []
    cases (add new 0 0 s).queue <;> (unfold overK; rfl)
end Dk
end Go.Proofs.Ytbelmadbjiiodaa
