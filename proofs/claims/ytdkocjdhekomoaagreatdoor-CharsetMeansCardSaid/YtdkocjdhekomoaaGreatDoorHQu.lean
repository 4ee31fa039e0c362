/-
  missivelaw08.quote; text.Upper; what two quoted words mean.
-/
import Derived.Test.YtdkocjdhekomoaaGreatDoorHKe
import Derived.Test.YtdkocjdhekomoaaGreatDoorHSi
import Derived.BigRegion
import Derived.Deep.RegionWith
namespace Go.Proofs.YtdkocjdhekomoaaGreatDoor
open Go Go.RowKit Go.Shelf
theorem upper_any (c : UInt8) (w : World) : Calls Tryz.prog 56 #[.int .u8 c.toNat] w fun e w' => e = .returned (.int .u8 (Tx.upB c).toNat) ∧ w' = w := by
  have hc : c.toNat < 256 := UInt8.toNat_lt c
  by_cases h : 97 ≤ c.toNat ∧ c.toNat ≤ 122
  · have H := Lib.hid (Tx.upB_lo c h)
    obtain ⟨h1, h2⟩ := h
    go_enter Tryz.func56, Tryz.ntmps56
    go_wp2
    go_ret
    exact ⟨ret_byte (by rw [H.out]; omega), rfl⟩
  · have H := Lib.hid (Tx.upB_no c h)
    by_cases h1 : 97 ≤ c.toNat
    · have h2 : 122 < c.toNat := by omega
      clear h
      go_enter Tryz.func56, Tryz.ntmps56
      go_wp2
      go_ret
      exact ⟨ret_byte (by rw [H.out]), rfl⟩
    · clear h
      go_enter Tryz.func56, Tryz.ntmps56
      go_wp2
      go_ret
      exact ⟨ret_byte (by rw [H.out]), rfl⟩
set_option maxHeartbeats 1000000 in
set_option maxRecDepth 100000 in
theorem map_upper (s : ByteArray) (w : World) (hs : s.size ≤ 9223372036854775807) :
    Calls Tryz.prog 55 #[.string s, .func (.func 56) #[] #[]] w fun e w' => e = .returned (.string ⟨(s.data.toList.map Tx.upB).toArray⟩) ∧ Below w.heap.size w w' := by
  have hconv := run_bytes_of_string (P := Tryz.prog) w 9 32 5 s Tryz.underlying9 Tryz.underlying32 Tryz.underlying5
  have hst := Tx.MapRow.start Tx.upB s w (grownCap w s.size 0 5)
  generalize grownCap w s.size 0 5 = cap at hconv hst
  generalize bytesRow s cap = C at hconv hst
  have HSt := Lib.hid hst
  clear hst
  go_enter Tryz.func55, Tryz.ntmps55
  go_wp2
  go_loopw [6, 7, 12] (fun _ _ i wr => ∃ k : Nat, i = .int .i64 k ∧ k ≤ s.size ∧ Hid (Tx.MapRow Tx.upB s w.heap.size k wr) ∧ Below w.heap.size w wr) (fun _ _ i _ => s.size - (intOf i).toNat)
  case atStart => exact ⟨0, rfl, Nat.zero_le _, HSt.out.drews 1, below_drews ((Below.refl _ w).alloc (Nat.le_refl _) _) 1⟩
  case round =>
    obtain ⟨k, rfl, hk, hrow, hb⟩ := hrel
    by_cases hlt : k < s.size
    · have hc := hrow.out.cell k hlt
      rw [if_neg (by omega)] at hc
      have hf := hrow.out.free k hlt
      have HN := Lib.hid (hrow.out.step hlt)
      obtain ⟨c, hck⟩ : ∃ c, s[k] = c := ⟨_, rfl⟩
      rw [hck] at hc HN
      have HL := Lib.hid (upper_any c)
      clear hck
      go_wp2_with (go_at_call 56; refine (HL.out _).mono ?_; rintro e w' ⟨rfl, rfl⟩)
      go_roundw
      case rel => exact ⟨k + 1, by go_num, by omega, HN.out, hb.setCell (p := ⟨w.heap.size, k, none⟩) (Nat.le_refl _) _⟩
      case measure => simp [intOf]; omega
    · obtain rfl : k = s.size := by omega
      have hback := hrow.out.back cap
      go_wp2
      go_ret
      exact ⟨rfl, hb⟩
theorem upperS_any (s : ByteArray) (w : World) (hs : s.size ≤ 9223372036854775807) :
    Calls Tryz.prog 25 #[.string s] w fun e w' => e = .returned (.string ⟨(Tx.upL s.data.toList).toArray⟩) ∧ Below w.heap.size w w' := by
  have HM := Lib.hid (map_upper s w hs)
  go_enter Tryz.func25, Tryz.ntmps25
  go_wp2_with fail
  refine HM.out.mono ?_
  rintro e w1 ⟨rfl, hB⟩
  go_wp2
  go_ret
  exact ⟨rfl, hB⟩
namespace Ch
def hl (n : Nat) : UInt8 := Cd.hexl.getD n 0
def quo2 (c : UInt8) : List UInt8 := [61, hl (c.toNat / 16), hl (c.toNat % 16)]
def quo : List UInt8 → List UInt8
  | [] => []
  | c :: r => quo2 c ++ quo r
theorem quo_append : ∀ a b, quo (a ++ b) = quo a ++ quo b
  | [], _ => rfl
  | c :: r, b => by simp [quo, quo_append r b]
theorem quo_len : ∀ l, (quo l).length = 3 * l.length
  | [] => rfl
  | c :: r => by simp [quo, quo2, quo_len r]; omega
theorem hex2_quo (c : UInt8) (r : List UInt8) : Cd.hex2 (hl (c.toNat / 16) :: hl (c.toNat % 16) :: r) = some c := by
  rw [show Cd.hex2 (hl (c.toNat / 16) :: hl (c.toNat % 16) :: r) = Cd.hex2 [hl (c.toNat / 16), hl (c.toNat % 16)] from rfl]
  have H : ∀ k : Fin 256, Cd.hex2 [hl (k.val / 16), hl (k.val % 16)] = some (UInt8.ofNat k.val) := by decide +kernel
  have := H ⟨c.toNat, UInt8.toNat_lt c⟩
  simpa using this
theorem unq_quo : ∀ l, unq (quo l) = some l
  | [] => rfl
  | c :: r => by
    show unq (61 :: hl (c.toNat / 16) :: hl (c.toNat % 16) :: quo r) = _
    rw [unq_cons, if_neg (by decide), if_pos rfl, hex2_quo]
    show pre [c] (unq (quo r)) = _
    rw [unq_quo r]; rfl
theorem quo_chars : ∀ l, ∀ c ∈ quo l, (decide (33 ≤ c) && decide (c ≤ 126)) = true ∧ c ≠ 63
  | [], _, h => by cases h
  | a :: r, c, h => by
    rcases List.mem_append.1 (show c ∈ quo2 a ++ quo r from h) with h | h
    · have H : ∀ k : Fin 256, ∀ c ∈ quo2 (UInt8.ofNat k.val), (decide (33 ≤ c) && decide (c ≤ 126)) = true ∧ c ≠ 63 := by decide +kernel
      have := H ⟨a.toNat, UInt8.toNat_lt a⟩ c
      simp only [UInt8.ofNat_toNat] at this
      exact this h
    · exact quo_chars r c h
/-- A quoted word. -/
def qWord (nm : List UInt8) (le : UInt8) (a : List UInt8) : List UInt8 := 61 :: 63 :: (nm ++ 63 :: (le :: 63 :: (quo a ++ [63, 61])))
theorem qWord_sound (nm : List UInt8) (le : UInt8) (a rest : List UInt8) (hn : ∀ c ∈ nm, c ≠ 63) (hle : le = 113 ∨ le = 81) (hk : known (Tx.lowL nm) = true) :
    sound (qWord nm le a ++ rest) = some (textIn (Tx.lowL nm) a, rest) := by
  have hc := quo_chars a
  have hl63 : le ≠ 63 := by rcases hle with rfl | rfl <;> decide
  have f1 := front_name (t := [le] ++ 63 :: (quo a ++ 63 :: (61 :: rest))) nm hn
  have f2 := front_name (t := quo a ++ 63 :: (61 :: rest)) [le] (fun c h => by obtain rfl := List.mem_singleton.1 h; exact hl63)
  have f3 := front_name (t := 61 :: rest) (quo a) (fun c h => (hc c h).2)
  have e : qWord nm le a ++ rest = 61 :: 63 :: (nm ++ 63 :: ([le] ++ 63 :: (quo a ++ 63 :: (61 :: rest)))) := by simp [qWord]
  rw [e]
  show meant (front _) (front (back _)) (front (back (back _))) (back (back (back _))) = _
  rw [f1.1, f1.2, f2.1, f2.2, f3.1, f3.2]
  unfold meant
  simp only []
  have i1 : isContent (quo a) = true := by
    unfold isContent
    rw [List.all_eq_true]
    intro c h
    exact (hc c h).1
  have d1 : decode [le] (quo a) = some a := by
    unfold decode
    rw [if_neg (by rcases hle with rfl | rfl <;> decide), if_pos (by rcases hle with rfl | rfl <;> decide), unq_quo]
  rw [if_pos i1, d1]
  simp only []
  rw [if_pos hk]
theorem white_no {c : UInt8} (h : Tx.isW c = true) : c ≠ 61 ∧ c ≠ 63 := ⟨by rintro rfl; revert h; decide, by rintro rfl; revert h; decide⟩
theorem gap_white : ∀ (wh : List UInt8), (∀ c ∈ wh, Tx.isW c = true) → ∀ (g : List UInt8) (b : Bool) (r : List UInt8), wordsG g b (wh ++ r) = wordsG (g ++ wh) b r
  | [], _, g, b, r => by simp
  | c :: t, h, g, b, r => by
    rw [List.cons_append, wordsG_no (sound_61 (white_no (h c (by simp))).1), gap_white t (fun x hx => h x (by simp [hx]))]
    simp
theorem two_words {v w x y : List UInt8} (hv : ∀ rest, sound (v ++ rest) = some (x, rest)) (hw : ∀ rest, sound (w ++ rest) = some (y, rest)) {wh : List UInt8} (hwh : ∀ c ∈ wh, Tx.isW c = true) :
    words (v ++ wh ++ w) = x ++ y := by
  show wordsG [] false (v ++ wh ++ w) = _
  rw [List.append_assoc, wordsG_yes (hv _), gap_white wh hwh]
  have := hw []
  rw [List.append_nil] at this
  rw [wordsG_yes this, wordsG_nil]
  have ha : ([] ++ wh).all Tx.isW = true := by rw [List.nil_append, List.all_eq_true]; exact hwh
  rw [ha]
  simp
theorem apart_words {v w x y : List UInt8} (hv : ∀ rest, sound (v ++ rest) = some (x, rest)) (hw : ∀ rest, sound (w ++ rest) = some (y, rest)) (hw0 : w.head? = some 61) {wh : List UInt8} (hwh : ∀ c ∈ wh, Tx.isW c = true) {c : UInt8} (hc : Tx.isW c = false) :
    words (v ++ wh ++ [c] ++ wh ++ w) = x ++ wh ++ [c] ++ wh ++ y := by
  show wordsG [] false (v ++ wh ++ [c] ++ wh ++ w) = _
  have e : v ++ wh ++ [c] ++ wh ++ w = v ++ (wh ++ (c :: (wh ++ w))) := by simp
  rw [e, wordsG_yes (hv _), gap_white wh hwh]
  have hn : sound (c :: (wh ++ w)) = none := by
    by_cases h61 : c = 61
    · subst h61
      cases wh with
      | nil =>
        cases w with
        | nil => cases hw0
        | cons d t =>
          have : d = 61 := by simpa using hw0
          subst this
          exact sound_63 (by decide)
      | cons d t => exact sound_63 (white_no (hwh d (by simp))).2
    · exact sound_61 h61
  rw [wordsG_no hn, gap_white wh hwh]
  have := hw []
  rw [List.append_nil] at this
  rw [wordsG_yes this, wordsG_nil]
  have ha : ([] ++ wh ++ [c] ++ wh).all Tx.isW = false := by simp [hc]
  rw [ha]
  simp
end Ch
/-! ### quote -/
set_option maxHeartbeats 1000000 in
set_option maxRecDepth 100000 in
theorem digit_any (n : Nat) (h : n < 256) (w : World) : Calls Tryz.prog 54 #[.int .i64 n] w fun e w' => e = .returned (.string ⟨#[Ch.hl (n % 16)]⟩) ∧ w = w' := by
  have ha : bits .and .i64 (n : Int) 15 = ((n % 16 : Nat) : Int) := by
    have H : ∀ k : Fin 256, bits .and .i64 (k.val : Int) 15 = ((k.val % 16 : Nat) : Int) := by decide +kernel
    exact H ⟨n, h⟩
  obtain ⟨m, hm⟩ : ∃ m, n % 16 = m := ⟨_, rfl⟩
  have hm16 : m < 16 := by omega
  rw [hm] at ha ⊢
  have e1 : (⟨#[48, 49, 50, 51, 52, 53, 54, 55, 56, 57, 97, 98, 99, 100, 101, 102]⟩ : ByteArray).extract m (m + 1) = ⟨#[Ch.hl m]⟩ := by
    have H : ∀ k : Fin 16, (⟨#[48, 49, 50, 51, 52, 53, 54, 55, 56, 57, 97, 98, 99, 100, 101, 102]⟩ : ByteArray).extract k.val (k.val + 1) = ⟨#[Ch.hl k.val]⟩ := by decide +kernel
    exact H ⟨m, hm16⟩
  have H1 := Lib.hid e1
  have i0 : (m : Int) ≤ (m : Int) + 1 := by omega
  have i1 : (m : Int) + 1 ≤ 16 := by omega
  clear hm e1
  go_enter Tryz.func54, Tryz.ntmps54
  go_wp2
  go_ret
  exact ⟨congrArg (fun X : ByteArray => Ending.returned (.string X)) H1.out, rfl⟩
theorem quo_next {S : List UInt8} {k : Nat} {c : UInt8} (h : S[k]? = some c) : Ch.quo (S.take (k + 1)) = Ch.quo (S.take k) ++ Ch.quo2 c := by
  rw [List.take_add_one, h, Ch.quo_append]
  simp [Ch.quo]
set_option maxHeartbeats 4000000 in
set_option maxRecDepth 100000 in
theorem quote_any (s : ByteArray) (hs : s.size ≤ 1000000) (w : World) :
    Calls Tryz.prog 24 #[.string s] w fun e w' => e = .returned (.string ⟨(Ch.quo s.data.toList).toArray⟩) ∧ Below w.heap.size w w' := by
  go_enter Tryz.func24, Tryz.ntmps24
  go_wp2
  go_loopw [3, 4] (fun o i wr => ∃ (k : Nat) (X : ByteArray), o = .string X ∧ i = .int .i64 k ∧ k ≤ s.size ∧ Below w.heap.size w wr ∧ X.size ≤ 3 * k ∧ Hid (X.data.toList = Ch.quo (s.data.toList.take k))) (fun _ i _ => s.size - (intOf i).toNat)
  case atStart => exact ⟨0, ⟨#[]⟩, rfl, rfl, Nat.zero_le _, Below.refl _ _, by decide, rfl⟩
  case round =>
    obtain ⟨k, X, rfl, rfl, hk, hB, hX, hq⟩ := hrel
    by_cases hlt : k < s.size
    · have hg := Tx.get_of s k hlt
      obtain ⟨c, hc⟩ : ∃ c, s[k] = c := ⟨_, rfl⟩
      rw [hc] at hg
      have cl := UInt8.toNat_lt c
      have D1 := digit_any (c.toNat / 16) (by omega)
      have D2 := digit_any c.toNat cl
      rw [Nat.mod_eq_of_lt (show c.toNat / 16 < 16 by omega)] at D1
      obtain ⟨q, hqq⟩ : ∃ q : Nat, c.toNat / 16 = q := ⟨_, rfl⟩
      have hdiv : (c.toNat : Int) / 16 = (q : Int) := by omega
      have htdiv : Int.tdiv (c.toNat : Int) 16 = (q : Int) := by rw [Int.tdiv_eq_ediv_of_nonneg (by omega)]; exact hdiv
      have HN := quo_next hg
      rw [show Ch.quo2 c = [61, Ch.hl q, Ch.hl (c.toNat % 16)] by rw [← hqq]; rfl, ← hq.out] at HN
      rw [hqq] at D1
      obtain ⟨A, hA⟩ : ∃ A : ByteArray, (⟨#[Ch.hl q]⟩ : ByteArray) = A := ⟨_, rfl⟩
      obtain ⟨B, hBb⟩ : ∃ B : ByteArray, (⟨#[Ch.hl (c.toNat % 16)]⟩ : ByteArray) = B := ⟨_, rfl⟩
      have hAs : A.size = 1 := by rw [← hA]; rfl
      have hBs : B.size = 1 := by rw [← hBb]; rfl
      have hadd1 := fun w' : World => run_string_add_sum (P := Tryz.prog) (w := w') X ⟨#[61]⟩ (by have : (⟨#[61]⟩ : ByteArray).size = 1 := rfl; omega)
      obtain ⟨X1, hX1⟩ : ∃ X1 : ByteArray, X ++ ⟨#[61]⟩ = X1 := ⟨_, rfl⟩
      have hX1s : X1.size = X.size + 1 := by rw [← hX1, ByteArray.size_append]; rfl
      rw [hX1] at hadd1
      have hadd2 := fun w' : World => run_string_add_sum (P := Tryz.prog) (w := w') X1 A (by omega)
      obtain ⟨X2, hX2⟩ : ∃ X2 : ByteArray, X1 ++ A = X2 := ⟨_, rfl⟩
      have hX2s : X2.size = X.size + 2 := by rw [← hX2, ByteArray.size_append]; omega
      rw [hX2] at hadd2
      have hadd3 := fun w' : World => run_string_add_sum (P := Tryz.prog) (w := w') X2 B (by omega)
      obtain ⟨X3, hX3⟩ : ∃ X3 : ByteArray, X2 ++ B = X3 := ⟨_, rfl⟩
      have hX3s : X3.size ≤ 3 * (k + 1) := by rw [← hX3, ByteArray.size_append]; omega
      rw [hX3] at hadd3
      have HQ : Hid (X3.data.toList = Ch.quo (s.data.toList.take (k + 1))) := Lib.hid (by
        rw [HN, ← hX3, ← hX2, ← hX1, ← hA, ← hBb]; simp)
      rw [hA] at D1
      rw [hBb] at D2
      have hwc : IntKind.i64.wrap (c.toNat : Int) = (c.toNat : Int) := by simp only [IntKind.wrap_i64]; omega
      have hwq : IntKind.i64.wrap (q : Int) = (q : Int) := by simp only [IntKind.wrap_i64]; omega
      have HD1 := Lib.hid D1
      have HD2 := Lib.hid D2
      clear hg HN hq hA hBb hX1 hX2 hX3 D1 D2 hqq hAs hBs hX1s hX2s
      go_wp2
      go_region_with (first
        | (go_at_call 54; first
          | (with_reducible refine (HD1.out _).mono ?_; rintro e w' ⟨rfl, rfl⟩)
          | (with_reducible refine (HD2.out _).mono ?_; rintro e w' ⟨rfl, rfl⟩))
        | fail)
      all_goals go_wp2
      all_goals exact ⟨⟨k + 1, X3, rfl, by go_num, by omega, hB.drew, hX3s, HQ⟩, by simp [intOf]; omega⟩
    · obtain rfl : k = s.size := by omega
      have he : s.data.toList.take s.size = s.data.toList := List.take_of_length_le (by rw [← Lib.size_eq]; exact Nat.le_refl _)
      have HQ : Hid (X.data.toList = Ch.quo s.data.toList) := Lib.hid (by rw [← he]; exact hq.out)
      clear hq he
      go_wp2
      go_ret
      exact ⟨congrArg (fun Y : ByteArray => Ending.returned (.string Y)) (by rw [← HQ.out, Lib.mk_data]), hB⟩
end Go.Proofs.YtdkocjdhekomoaaGreatDoor
