/-
  codec.Unpercent.
-/
import Derived.Test.YtehnjoggilomfaaDoorCPer
namespace Go.Proofs.YtehnjoggilomfaaDoor
open Go Go.RowKit Go.Shelf
namespace Cd
theorem pre_pre (a b : List UInt8) (o p : Bool) (x : List UInt8 × Bool) : pre a o (pre b p x) = pre (a ++ b) (o && p) x := by
  simp [pre, Bool.and_assoc]
theorem unp_fuel : ∀ (n m : Nat) (l : List UInt8), l.length ≤ n → l.length ≤ m → unpF n l = unpF m l := by
  intro n
  induction n with
  | zero =>
    intro m l h1 h2
    have : l = [] := List.eq_nil_of_length_eq_zero (by omega)
    subst this
    cases m <;> rfl
  | succ n ih =>
    intro m l h1 h2
    cases l with
    | nil => cases m <;> rfl
    | cons c r =>
      simp only [List.length_cons] at h1 h2
      obtain ⟨m, rfl⟩ : ∃ k, m = k + 1 := ⟨m - 1, by omega⟩
      unfold unpF
      rw [ih m r (by omega) (by omega), ih m (r.drop 2) (by rw [List.length_drop]; omega) (by rw [List.length_drop]; omega)]
theorem unp_cons (c : UInt8) (r : List UInt8) : unpercent (c :: r) =
    if c = 43 then pre [32] true (unpercent r)
    else if c = 37 then
      match hex2 r with
      | some x => pre [x] true (unpercent (r.drop 2))
      | none => pre [37] false (unpercent r)
    else pre [c] true (unpercent r) := by
  show unpF (r.length + 1) (c :: r) = _
  unfold unpF
  rw [unp_fuel r.length (r.drop 2).length (r.drop 2) (by rw [List.length_drop]; omega) (Nat.le_refl _)]
  rfl
/-- What has been written, and what is still to be read. -/
def Up (l out : List UInt8) (sd : Bool) (rest : List UInt8) : Prop := pre out sd (unpercent rest) = unpercent l
theorem Up.start (l : List UInt8) : Up l [] true l := by simp [Up, pre]
theorem Up.end_ {l out : List UInt8} {sd : Bool} (h : Up l out sd []) : unpercent l = (out, sd) := by
  unfold Up at h
  rw [← h]
  simp [pre, unpercent, unpF]
theorem Up.plus {l out r : List UInt8} {sd : Bool} (h : Up l out sd (43 :: r)) : Up l (out ++ [32]) sd r := by
  unfold Up at h ⊢
  rw [unp_cons, if_pos rfl, pre_pre, Bool.and_true] at h
  exact h
theorem Up.hex {l out r : List UInt8} {sd : Bool} {x : UInt8} (h : Up l out sd (37 :: r)) (hx : hex2 r = some x) : Up l (out ++ [x]) sd (r.drop 2) := by
  unfold Up at h ⊢
  rw [unp_cons, if_neg (by decide), if_pos rfl, hx] at h
  simp only [pre_pre, Bool.and_true] at h
  exact h
theorem Up.bad {l out r : List UInt8} {sd : Bool} (h : Up l out sd (37 :: r)) (hx : hex2 r = none) : Up l (out ++ [37]) false r := by
  unfold Up at h ⊢
  rw [unp_cons, if_neg (by decide), if_pos rfl, hx] at h
  simp only [pre_pre, Bool.and_false] at h
  exact h
theorem Up.other {l out r : List UInt8} {sd : Bool} {c : UInt8} (h : Up l out sd (c :: r)) (h1 : c ≠ 43) (h2 : c ≠ 37) : Up l (out ++ [c]) sd r := by
  unfold Up at h ⊢
  rw [unp_cons, if_neg h1, if_neg h2, pre_pre, Bool.and_true] at h
  exact h
theorem hex2_len {r : List UInt8} {x : UInt8} (h : hex2 r = some x) : 2 ≤ r.length := by
  match r, h with
  | _ :: _ :: _, _ => simp
end Cd
theorem drop_next (s : ByteArray) (k : Nat) (h : k < s.size) : s.data.toList.drop k = s[k]'h :: s.data.toList.drop (k + 1) := by
  rw [List.drop_eq_getElem_cons (by rw [← Lib.size_eq]; exact h)]; rfl
theorem extract_eq (s : ByteArray) (f u : Nat) : (s.extract f u).data.toList = (s.data.toList.take u).drop f := by simp [List.drop_take]
theorem extract_end (s : ByteArray) (f : Nat) : (s.extract f s.size).data.toList = s.data.toList.drop f := by
  rw [extract_eq, List.take_of_length_le (by rw [Lib.size_eq]; exact Nat.le_refl _)]
/-- hexByte of the rest of a string. -/
theorem hexByte_yes (s : ByteArray) (k : Nat) (x : UInt8) (b n : Nat) (w : World) (hT : Tab b n Cd.hexF w) (hx : Cd.hex2 (s.data.toList.drop k) = some x) :
    Calls Tryd.prog 30 #[.string (s.extract k s.size), .map (some b)] w fun e w' => e = .returned (.tuple #[.int .u8 x.toNat, .bool true]) ∧ w = w' := by
  refine (hexByte_any _ b n w hT).mono ?_
  rintro e w' ⟨⟨v, rfl, hv⟩, rfl⟩
  rw [extract_end, hx]
  rw [extract_end] at hv
  rw [hv x hx]
  exact ⟨rfl, rfl⟩
theorem hexByte_no (s : ByteArray) (k : Nat) (b n : Nat) (w : World) (hT : Tab b n Cd.hexF w) (hx : Cd.hex2 (s.data.toList.drop k) = none) :
    Calls Tryd.prog 30 #[.string (s.extract k s.size), .map (some b)] w fun e w' => (∃ v : UInt8, e = .returned (.tuple #[.int .u8 v.toNat, .bool false])) ∧ w = w' := by
  refine (hexByte_any _ b n w hT).mono ?_
  rintro e w' ⟨⟨v, rfl, hv⟩, rfl⟩
  rw [extract_end, hx]
  exact ⟨⟨v, rfl⟩, rfl⟩
theorem ret_sb {l m : List UInt8} {x y : Bool} (h : l = m) (hx : x = y) : Ending.returned (.tuple #[.string ⟨l.toArray⟩, .bool x]) = .returned (.tuple #[.string ⟨m.toArray⟩, .bool y]) := by rw [h, hx]

set_option maxHeartbeats 2000000 in
set_option maxRecDepth 100000 in
theorem unpercent_any (s : ByteArray) (w : World) (hs : s.size ≤ 100000000) :
    Calls Tryd.prog 13 #[.string s] w fun e w' => e = .returned (.tuple #[.string ⟨(Cd.unpercent s.data.toList).1.toArray⟩, .bool (Cd.unpercent s.data.toList).2]) ∧ Below w.heap.size w w' := by
  have HD := Lib.hid (hexValues_any w)
  go_enter Tryd.func13, Tryd.ntmps13
  go_wp2_with fail
  refine HD.out.mono ?_
  rintro e w1 ⟨rfl, hT, hB1⟩
  have htl := hT.lt
  have HF := Lib.hid (Bld.fresh w1)
  obtain ⟨b, hb⟩ : ∃ b, w1.heap.size = b := ⟨_, rfl⟩
  have HS := Lib.hid hb
  rw [hb] at htl
  go_wp2
  go_loopw [6, 7] (fun sv i wr => ∃ (k : Nat) (sd : Bool) (out : List UInt8), k ≤ s.size ∧ i = .int .i64 k ∧ sv = .bool sd ∧ Hid (Cd.Up s.data.toList out sd (s.data.toList.drop k)) ∧ out.length ≤ k ∧ Bld b b out wr ∧ Below b w1 wr) (fun _ i _ => s.size - (intOf i).toNat)
  case atStart => exact ⟨0, true, [], Nat.zero_le _, rfl, rfl, Cd.Up.start _, Nat.le_refl _, by rw [← hb]; exact HF.out, by rw [← hb]; exact (Below.refl _ w1).alloc (Nat.le_refl _) _⟩
  case round =>
    obtain ⟨k, sd, out, hk, rfl, rfl, hU, hol, hBl, hBe⟩ := hrel
    clear hb HF
    have hTr := hT.below hBe htl
    have hsz : b ≤ wr.heap.size := by have := hBe.size; have := HS.out; omega
    by_cases hlt : k < s.size
    · have hd := drop_next s k hlt
      obtain ⟨c, hc⟩ : ∃ c, s[k] = c := ⟨_, rfl⟩
      rw [hc] at hd
      have hU2 := hU.out
      rw [hd] at hU2
      clear hd hU
      by_cases h43 : c = 43
      · subst h43
        have HN := Lib.hid hU2.plus
        clear hU2
        go_wp2_with (first
          | (go_at_call 23; refine (wb_any b b _ 32 _ hBl (by omega) hsz).mono ?_; rintro e w2 ⟨rfl, hBl2, hB2, -⟩))
        go_roundw
        case rel => exact ⟨k + 1, sd, out ++ [32], by omega, by go_num, rfl, HN.out, by simp; omega, hBl2, hBe.trans hB2⟩
        case measure => simp [intOf]; omega
      · have q43 := byte_ne (n := 43) (by decide) h43
        by_cases h37 : c = 37
        · subst h37
          cases hx : Cd.hex2 (s.data.toList.drop (k + 1)) with
          | none =>
            have HN := Lib.hid (hU2.bad hx)
            have HX := Lib.hid hx
            clear hU2 hx
            go_wp2_with (first
              | (go_at_call 30; refine (hexByte_no s (k + 1) _ _ _ hTr HX.out).mono ?_; rintro e w' ⟨⟨v, rfl⟩, rfl⟩)
              | (go_at_call 23; refine (wb_any b b _ 37 _ hBl (by omega) hsz).mono ?_; rintro e w2 ⟨rfl, hBl2, hB2, -⟩))
            go_roundw
            case rel => exact ⟨k + 1, false, out ++ [37], by omega, by go_num, rfl, HN.out, by simp; omega, hBl2, hBe.trans hB2⟩
            case measure => simp [intOf]; omega
          | some x =>
            have HN := Lib.hid (hU2.hex hx)
            have hl := Cd.hex2_len hx
            rw [List.length_drop, ← Lib.size_eq] at hl
            rw [List.drop_drop] at HN
            have HX := Lib.hid hx
            clear hU2 hx
            have hk3 : k + 3 ≤ s.size := by omega
            go_wp2_with (first
              | (go_at_call 30; refine (hexByte_yes s (k + 1) x _ _ _ hTr HX.out).mono ?_; rintro e w' ⟨rfl, rfl⟩)
              | (go_at_call 23; refine (wb_any b b _ x _ hBl (by omega) hsz).mono ?_; rintro e w2 ⟨rfl, hBl2, hB2, -⟩))
            go_roundw
            case rel => exact ⟨k + 3, sd, out ++ [x], by omega, by go_num, rfl, HN.out, by simp; omega, hBl2, hBe.trans hB2⟩
            case measure => simp [intOf]; omega
        · have q37 := byte_ne (n := 37) (by decide) h37
          have HN := Lib.hid (hU2.other h43 h37)
          clear hU2 h37 h43
          go_wp2_with (first
            | (go_at_call 23; refine (wb_any b b _ c _ hBl (by omega) hsz).mono ?_; rintro e w2 ⟨rfl, hBl2, hB2, -⟩))
          go_roundw
          case rel => exact ⟨k + 1, sd, out ++ [c], by omega, by go_num, rfl, HN.out, by simp; omega, hBl2, hBe.trans hB2⟩
          case measure => simp [intOf]; omega
    · obtain rfl : k = s.size := by omega
      have he : s.data.toList.drop s.size = [] := List.drop_eq_nil_of_le (by rw [Lib.size_eq]; exact Nat.le_refl _)
      rw [he] at hU
      have HE := Lib.hid hU.out.end_
      clear hU he
      go_wp2_with (go_at_call 24; refine (str_any b b _ _ hBl hsz).mono ?_; rintro e w2 ⟨rfl, hB2, -⟩)
      go_ret2
      exact ⟨ret_sb (by rw [HE.out]) (by rw [HE.out]), hB1.trans ((hBe.trans hB2).mono (by have := hB1.size; have := HS.out; omega))⟩
end Go.Proofs.YtehnjoggilomfaaDoor
