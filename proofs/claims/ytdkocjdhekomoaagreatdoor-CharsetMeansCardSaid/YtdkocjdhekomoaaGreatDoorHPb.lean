/-
  strconv.ParseUint of two bytes in base 16; charset.hexByte, isContent, unquoted.
-/
import Derived.Test.YtdkocjdhekomoaaGreatDoorHPu
import Derived.BigRegion
namespace Go.Proofs.YtdkocjdhekomoaaGreatDoor
open Go Go.RowKit Go.Shelf
theorem num2_some {o : Option UInt8} {x : UInt8} (h : o = some x) : num2 o = .tuple #[.int .u64 x.toNat, .nilIface] := by rw [h]; rfl
theorem num2_none {o : Option UInt8} (h : o = none) : num2 o = .tuple #[.int .u64 0, .iface 123 (.int .i64 2)] := by rw [h]; rfl

set_option maxHeartbeats 2000000 in
set_option maxRecDepth 100000 in
theorem pub_yes (t : ByteArray) (a b x : UInt8) (ht : t.data.toList = [a, b]) (hx : Cd.hex2 [a, b] = some x) (w : World) :
    Calls Tryz.prog 133 #[.string t, .int .i64 16, .int .i64 8] w fun e w' => e = .returned (.tuple #[.int .u64 x.toNat, .nilIface]) ∧ Below w.heap.size w w' := by
  have HP := Lib.hid (parse2_any t a b ht w)
  rw [num2_some hx] at HP
  clear hx ht
  go_enter Tryz.func133, Tryz.ntmps133
  go_wp2_with (go_at_call 139; refine HP.out.mono ?_; rintro e w1 ⟨rfl, hB⟩)
  go_ret2
  exact ⟨rfl, hB⟩
set_option maxHeartbeats 2000000 in
set_option maxRecDepth 100000 in
theorem pub_no (t : ByteArray) (a b : UInt8) (ht : t.data.toList = [a, b]) (hx : Cd.hex2 [a, b] = none) (w : World) (hE : EnvH w) :
    Calls Tryz.prog 133 #[.string t, .int .i64 16, .int .i64 8] w fun e w' => (∃ tp N, e = .returned (.tuple #[.int .u64 0, .iface tp (.pointer (some ⟨N, 0, none⟩))])) ∧ Below w.heap.size w w' := by
  have HP := Lib.hid (parse2_any t a b ht w)
  rw [num2_none hx] at HP
  have hlim : t.size ≤ 281474976710656 := by rw [Lib.size_eq, ht]; simp
  obtain ⟨ev, hv, hev⟩ := hE.syn
  have HT := Lib.hid (fun W hv => AnyPu.strconv_toError_syntax Tryz.laysPu17 ⟨#[80, 97, 114, 115, 101, 85, 105, 110, 116]⟩ t 16 8 ev W hlim hv hev)
  have HZ := Lib.hid hE.size
  have HV := Lib.hid hv
  clear hx ht hv hev hE hlim
  go_enter Tryz.func133, Tryz.ntmps133
  go_wp2_with (first
    | (go_at_call 139; refine HP.out.mono ?_; rintro e w1 ⟨rfl, hB⟩)
    | (go_at_call 140; refine (HT.out _ ((hB.cell (show 4 < w.heap.size from Nat.lt_of_lt_of_le (by decide) HZ.out)).trans HV.out)).mono ?_; rintro e w2 ⟨N, rfl, _, _, hB2⟩))
  go_ret2
  exact ⟨⟨_, N, rfl⟩, hB.trans (hB2.mono hB.size)⟩

theorem two_of (s : ByteArray) (h : 2 ≤ s.size) : ∃ a b r, s.data.toList = a :: b :: r ∧ (s.extract 0 2).data.toList = [a, b] := by
  have hl : 2 ≤ s.data.toList.length := by rw [← Lib.size_eq]; exact h
  match hs : s.data.toList, hl with
  | a :: b :: r, _ => exact ⟨a, b, r, rfl, by rw [extract_eq, hs]; rfl⟩
theorem hex2_of (a b : UInt8) (r : List UInt8) : Cd.hex2 (a :: b :: r) = Cd.hex2 [a, b] := rfl
set_option maxHeartbeats 2000000 in
set_option maxRecDepth 100000 in
theorem hexByte_yes (s : ByteArray) (x : UInt8) (w : World) (hx : Cd.hex2 s.data.toList = some x) :
    Calls Tryz.prog 117 #[.string s] w fun e w' => e = .returned (.tuple #[.int .u8 x.toNat, .bool true]) ∧ Below w.heap.size w w' := by
  have h2 : 2 ≤ s.size := by
    by_cases h : 2 ≤ s.size
    · exact h
    · rw [Cd.hex2_short s (by omega)] at hx; cases hx
  obtain ⟨a, b, r, hs, he⟩ := two_of s h2
  rw [hs, hex2_of] at hx
  have HP := Lib.hid (pub_yes _ a b x he hx w)
  have xl : x.toNat < 256 := UInt8.toNat_lt x
  have hwr : IntKind.u8.wrap (x.toNat : Int) = (x.toNat : Int) := by rw [IntKind.wrap_u8]; omega
  clear hx hs he
  go_enter Tryz.func117, Tryz.ntmps117
  go_wp2_with (go_at_call 133; refine HP.out.mono ?_; rintro e w1 ⟨rfl, hB⟩)
  go_region
  go_wp2
  go_ret2
  exact ⟨rfl, hB.drew⟩
set_option maxHeartbeats 2000000 in
set_option maxRecDepth 100000 in
theorem hexByte_no (s : ByteArray) (w : World) (hx : Cd.hex2 s.data.toList = none) (hE : EnvH w) :
    Calls Tryz.prog 117 #[.string s] w fun e w' => (∃ v : Int, e = .returned (.tuple #[.int .u8 v, .bool false])) ∧ Below w.heap.size w w' := by
  by_cases h2 : 2 ≤ s.size
  · obtain ⟨a, b, r, hs, he⟩ := two_of s h2
    rw [hs, hex2_of] at hx
    have HP := Lib.hid (pub_no _ a b he hx w hE)
    clear hx hs he hE
    go_enter Tryz.func117, Tryz.ntmps117
    go_wp2_with (go_at_call 133; refine HP.out.mono ?_; rintro e w1 ⟨⟨tp, N, rfl⟩, hB⟩)
    go_region
    go_wp2
    go_ret2
    exact ⟨⟨_, rfl⟩, hB.drew⟩
  · have h3 : s.size < 2 := by omega
    clear hx hE h2
    go_enter Tryz.func117, Tryz.ntmps117
    go_wp2
    go_ret2
    exact ⟨⟨_, rfl⟩, Below.refl _ _⟩

/-! ### isContent -/
theorem all_next {p : UInt8 → Bool} {S : List UInt8} {k : Nat} {c : UInt8} (h : S[k]? = some c) : (S.drop k).all p = (p c && (S.drop (k + 1)).all p) := by
  have hk : k < S.length := (List.getElem?_eq_some_iff.1 h).1
  have hc : S[k] = c := (List.getElem?_eq_some_iff.1 h).2
  rw [List.drop_eq_getElem_cons hk, hc]
  rfl
set_option maxHeartbeats 2000000 in
set_option maxRecDepth 100000 in
theorem isContent_any (s : ByteArray) (w : World) (hs : s.size ≤ 9223372036854775807) :
    Calls Tryz.prog 67 #[.string s] w fun e w' => e = .returned (.bool (Ch.isContent s.data.toList)) ∧ w = w' := by
  obtain ⟨R, hR⟩ : ∃ R, Ch.isContent s.data.toList = R := ⟨_, rfl⟩
  rw [hR]
  have HR := Lib.hid hR
  clear hR
  go_enter Tryz.func67, Tryz.ntmps67
  go_wp2
  go_loop [3, 6] (fun _ i => ∃ k : Nat, i = .int .i64 k ∧ k ≤ s.size ∧ Hid (Ch.isContent (s.data.toList.drop k) = R)) (fun _ i => s.size - (intOf i).toNat)
  case atStart => exact ⟨0, rfl, Nat.zero_le _, HR.out⟩
  case round =>
    obtain ⟨k, rfl, hk, hI⟩ := hrel
    by_cases hlt : k < s.size
    · have hg := Tx.get_of s k hlt
      obtain ⟨c, hc⟩ : ∃ c, s[k] = c := ⟨_, rfl⟩
      rw [hc] at hg
      have hA := hI.out
      unfold Ch.isContent at hA
      rw [all_next hg] at hA
      by_cases h1 : c.toNat ≤ 32
      · have hF : R = false := by rw [← hA]; simp [show ¬ (33 : UInt8) ≤ c by rw [UInt8.le_iff_toNat_le]; simp; omega]
        have HF := Lib.hid hF
        clear hA hF hg hI
        have q1 : (c.toNat : Int) ≤ 32 := by omega
        go_wp2
        go_ret
        exact ⟨congrArg (fun b => Ending.returned (.bool b)) HF.out.symm, rfl⟩
      · have q1 : ¬ ((c.toNat : Int) ≤ 32) := by omega
        by_cases h2 : 126 < c.toNat
        · have hF : R = false := by rw [← hA]; simp [show ¬ c ≤ (126 : UInt8) by rw [UInt8.le_iff_toNat_le]; simp; omega]
          have HF := Lib.hid hF
          clear hA hF hg hI
          have q2 : (126 : Int) < (c.toNat : Int) := by omega
          go_wp2
          go_ret
          exact ⟨congrArg (fun b => Ending.returned (.bool b)) HF.out.symm, rfl⟩
        · have q2 : ¬ ((126 : Int) < (c.toNat : Int)) := by omega
          have hN : Ch.isContent (s.data.toList.drop (k + 1)) = R := by
            rw [← hA]
            simp [Ch.isContent, show (33 : UInt8) ≤ c by rw [UInt8.le_iff_toNat_le]; simp; omega, show c ≤ (126 : UInt8) by rw [UInt8.le_iff_toNat_le]; simp; omega]
          have HN := Lib.hid hN
          clear hA hN hg hI
          go_wp2
          go_round
          case rel => exact ⟨k + 1, by go_num, by omega, HN.out⟩
          case measure => simp [intOf]; omega
    · obtain rfl : k = s.size := by omega
      have he : s.data.toList.drop s.size = [] := List.drop_eq_nil_of_le (by rw [Lib.size_eq]; exact Nat.le_refl _)
      rw [he] at hI
      have HF : Hid (true = R) := Lib.hid hI.out
      clear hI he
      go_wp2
      go_ret
      exact ⟨congrArg (fun b => Ending.returned (.bool b)) HF.out, rfl⟩
end Go.Proofs.YtdkocjdhekomoaaGreatDoor
