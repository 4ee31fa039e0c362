/-
  What the laws do with a log: the disk's calls beside it; a rewriting that a crash may meet; a list of deeds that is written out.
-/
import Derived.Test.YtbpodclodflgfaaDoorJPk
import Derived.Test.YtbpodclodflgfaaDoorJPl
namespace Go.Proofs.YtbpodclodflgfaaDoor
open Go Go.RowKit
section
variable {w0 w : World} {g lb f sure : Nat} {D : Dk.Disk} {R X : List (List UInt8)} {pa xa : Option Addr} {pc b off cap n : Nat}
theorem jv_arm (h : JV w0 w g lb f D R sure pa pc) (m : Int) (hm : m ≤ 9223372036854775807) (a : Option Addr) (b off n cap : Nat) (ks : List Int) (hk : IR w0 a b off ks) (hn : ks.length = n) (hnil : a = none → cap = 0) (hl : n ≤ 100000000) : Calls Tryd.prog 35 #[.pointer (some ⟨g, 0, none⟩), .int .i64 m, .slice a n cap] w fun e w' => (∃ v, e = .returned v) ∧ JV w0 w' g lb f (Dk.arm D m ks) R sure pa pc :=
  (mm_arm_arg h.mm m hm a b off n cap ks hk hn hnil hl).mono fun _ _ ⟨x, y⟩ => ⟨x, (h.mv y).1⟩
theorem jv_arm_nil (h : JV w0 w g lb f D R sure pa pc) (m : Int) (hm : m ≤ 9223372036854775807) : Calls Tryd.prog 35 #[.pointer (some ⟨g, 0, none⟩), .int .i64 m, .slice none 0 0] w fun e w' => (∃ v, e = .returned v) ∧ JV w0 w' g lb f (Dk.arm D m []) R sure pa pc :=
  (mm_arm_nil h.mm m hm).mono fun _ _ ⟨x, y⟩ => ⟨x, (h.mv y).1⟩
theorem jv_crash (h : JV w0 w g lb f D R sure pa pc) (a : Option Addr) (b off n cap : Nat) (ks : List Int) (hk : IR w0 a b off ks) (hn : ks.length = n) : Calls Tryd.prog 21 #[.pointer (some ⟨g, 0, none⟩), .slice a n cap] w fun e w' => (∃ v, e = .returned v) ∧ JV w0 w' g lb f (Dk.crash D ks) R sure pa pc :=
  (mm_crash_arg h.mm a b off n cap ks hk hn).mono fun _ _ ⟨x, y⟩ => ⟨x, (h.mv y).1⟩
theorem jv_lose (h : JV w0 w g lb f D R sure pa pc) (n : Int) (hn : n ≤ 9223372036854775807) : Calls Tryd.prog 25 #[.pointer (some ⟨g, 0, none⟩), .int .i64 n] w fun e w' => (∃ v, e = .returned v) ∧ JV w0 w' g lb f (Dk.lose D n) R sure pa pc :=
  (mm_lose h.mm n hn).mono fun _ _ ⟨x, y⟩ => ⟨x, (h.mv y).1⟩
theorem jv_start (h : JV w0 w g lb f D R sure pa pc) : Calls Tryd.prog 23 #[.pointer (some ⟨g, 0, none⟩)] w fun e w' => (∃ v, e = .returned v) ∧ JV w0 w' g lb f (Dk.start D) R sure pa pc :=
  (mm_start h.mm).mono fun _ _ ⟨x, y⟩ => ⟨x, (h.mv y).1⟩
/-- All, and what was there reads still. -/
theorem jv_all (h : JV w0 w g lb f D R sure pa pc) : Calls Tryd.prog 33 #[.pointer (some ⟨lb, 0, none⟩)] w fun e w' => ∃ xa xc b, e = .returned (.slice xa R.length xc) ∧ JV w0 w' g lb f D R sure pa pc ∧ Lv w' xa b 0 xc R := sm_all h
theorem jv_same (h : JV w0 w g lb f D R sure pa pc) {Y : List (List UInt8)} {ya : Option Addr} {r b' off' cap' : Nat} {xa : Option Addr} {b xc : Nat} (hl : Lv w xa b 0 xc R) (hr : R.length = r) (hY : Lv w0 ya b' off' cap' Y) (hn : Y.length = n) (hR : R.length ≤ 1000000) (hm : n ≤ 1000000) {q : Bool} (hq : sameRows R Y = q) :
    Calls Tryd.prog 32 #[.slice xa r xc, .slice ya n cap'] w fun e w' => e = .returned (.bool q) ∧ JV w0 w' g lb f D R sure pa pc :=
  (same_any R Y r n hr hn (by omega) hm xa ya b 0 xc b' off' cap' w hl (hY.below h.mine.below)).mono fun _ _ ⟨x, y⟩ => ⟨by rw [x, hq], (h.quiet y).1⟩
end
/-- The machine runs, nothing is pending, no flush is due to be lost. -/
structure Rest (D : Dk.Disk) : Prop where
  down : D.down = false
  queue : D.queue = []
  lost : D.lost ≤ 0
theorem Rest.rw {D : Dk.Disk} (h : Rest D) (f : Nat) (X : List (List UInt8)) (a : Int) : Rest (Jn.RWd D f (f + 1) X a) := ⟨h.down, rfl, h.lost⟩
theorem Rest.arm {D : Dk.Disk} (h : Rest D) (m : Int) (ks : List Int) : Rest (Dk.arm D m ks) := ⟨h.down, h.queue, h.lost⟩
theorem rest_new : Rest Dk.new := ⟨rfl, rfl, Int.le_refl 0⟩
theorem Rest.kept {D D' : Dk.Disk} {f : Nat} (h : Rest D) (k : Dk.Kept D D' f) : Rest (Dk.start D') := ⟨rfl, k.queue, by show D'.lost ≤ 0; rw [k.lost]; exact h.lost⟩
theorem Rest.qlen {D : Dk.Disk} (h : Rest D) (k : Nat) : D.queue.length ≤ k := by rw [h.queue]; exact Nat.zero_le _
theorem Rest.read {D : Dk.Disk} (h : Rest D) (f : Nat) : Dk.read D f = D.last f := by unfold Dk.read; rw [h.queue]; rfl
theorem Rest.crash {D : Dk.Disk} (h : Rest D) (ks : List Int) (f : Nat) : Rest (Dk.start (Dk.crash D ks)) ∧ (Dk.start (Dk.crash D ks)).last f = D.last f := by
  unfold Dk.crash
  rw [h.down, h.queue]
  refine ⟨⟨rfl, rfl, h.lost⟩, ?_⟩
  show Dk.overK f (D.last f) [] ks = D.last f
  cases ks <;> rfl
namespace Jn
theorem forms_le (m k : Nat) : ∀ (X : List B), X.length ≤ m → (∀ r ∈ X, r.length ≤ k) → (forms X).length ≤ m * (16 + k)
  | [], _, _ => by simp [forms]
  | r :: X, hl, h => by
    cases m with
    | zero => simp at hl
    | succ m =>
      have ih := forms_le m k X (by simp at hl; omega) (fun x hx => h x (by simp [hx]))
      have h1 := h r (by simp)
      have e : (forms (r :: X)).length = (form r).length + (forms X).length := by
        rw [show r :: X = [r] ++ X from rfl, forms_append, forms_one, List.length_append]
      rw [e, form_length, Nat.succ_mul]
      omega
end Jn
section
variable {w0 w : World} {g lb f sure : Nat} {D : Dk.Disk} {R X : List (List UInt8)} {pa xa : Option Addr} {pc b off cap n : Nat}
/-- A rewriting that no crash meets. -/
theorem jv_rewrite (h : JV w0 w g lb f D R sure pa pc) (hD : Rest D) (ha : D.armed = 0) (hL : Lv w0 xa b off cap X) (hn : X.length = n) (hnil : xa = none → cap = 0) (hf : f ≤ 6) (hX : (Jn.forms X).length ≤ 300000) :
    Calls Tryd.prog 19 #[.pointer (some ⟨lb, 0, none⟩), .slice xa n cap] w fun e w' => ∃ pa pc, e = .returned (.int .i64 0) ∧ JV w0 w' g lb f (Jn.RWd D f (f + 1) X 0) X X.length pa pc := by
  refine (rewrite_any h (hL.below h.mine.below) hn hnil ((f + 1 : Nat) : Int) rfl hf hX (hD.qlen _)).mono fun e w' ⟨he, ⟨pa, pc, hJ⟩, _⟩ => ?_
  rcases Jn.rewrite_or D hD.down hD.queue hD.lost f hf R sure X hX with ⟨a, h0, hr⟩ | ⟨h0, _⟩
  · obtain rfl := h0 ha
    rw [hr] at he hJ
    exact ⟨pa, pc, he, hJ⟩
  · exact absurd ha h0
/-- What a rewriting leaves that a crash may meet: the answer, the disk, the rows, as many sure. -/
inductive Rwo (D : Dk.Disk) (f : Nat) (R X : List (List UInt8)) (s : Nat) : Int → Dk.Disk → List (List UInt8) → Nat → Prop
  | ok (a : Int) : Rwo D f R X s 0 (Jn.RWd D f (f + 1) X a) X X.length
  | down (D' : Dk.Disk) (h : Dk.Kept D D' f) : Rwo D f R X s 8 D' R s
/-- What a rewriting does, before it is called. -/
theorem rewrite_does (hD : Rest D) (hf : f ≤ 6) (hX : (Jn.forms X).length ≤ 300000) : ∃ c D' R' s', Rwo D f R X sure c D' R' s' ∧
    ∀ (w0 w : World) (g lb : Nat) (pa xa : Option Addr) (pc b off cap n : Nat), JV w0 w g lb f D R sure pa pc → Lv w0 xa b off cap X → X.length = n → (xa = none → cap = 0) →
      Calls Tryd.prog 19 #[.pointer (some ⟨lb, 0, none⟩), .slice xa n cap] w fun e w' => ∃ pa pc, e = .returned (.int .i64 c) ∧ JV w0 w' g lb f D' R' s' pa pc := by
  rcases Jn.rewrite_or D hD.down hD.queue hD.lost f hf R sure X hX with ⟨a, h0, hr⟩ | ⟨h0, D', hr, hk⟩
  · refine ⟨0, _, _, _, .ok a, fun w0 w g lb pa xa pc b off cap n h hL hn hnil => ?_⟩
    refine (rewrite_any h (hL.below h.mine.below) hn hnil ((f + 1 : Nat) : Int) rfl hf hX (hD.qlen _)).mono fun e w' ⟨he, ⟨pa, pc, hJ⟩, _⟩ => ?_
    rw [hr] at he hJ
    exact ⟨pa, pc, he, hJ⟩
  · refine ⟨8, _, _, _, .down D' hk, fun w0 w g lb pa xa pc b off cap n h hL hn hnil => ?_⟩
    refine (rewrite_any h (hL.below h.mine.below) hn hnil ((f + 1 : Nat) : Int) rfl hf hX (hD.qlen _)).mono fun e w' ⟨he, ⟨pa, pc, hJ⟩, _⟩ => ?_
    rw [hr] at he hJ
    exact ⟨pa, pc, he, hJ⟩
end
end Go.Proofs.YtbpodclodflgfaaDoor
