/-
  charset.isPlain, encodedWord.
-/
import Derived.Test.YtdkocjdhekomoaaGreatDoorHPb
import Derived.Test.YtdkocjdhekomoaaGreatDoorHWe
import Derived.Test.YtdkocjdhekomoaaGreatDoorCB64
import Derived.Test.YtdkocjdhekomoaaGreatDoorCBack6
import Derived.Lib.IndexMore
namespace Go.Proofs.YtdkocjdhekomoaaGreatDoor
open Go Go.RowKit Go.Shelf
namespace Ch
theorem start_hit (r : List UInt8) : hasStart (61 :: 63 :: r) = true := rfl
theorem start_no {c : UInt8} {r : List UInt8} (h : ([61, 63] : List UInt8).isPrefixOf (c :: r) = false) : hasStart (c :: r) = hasStart r := by
  conv => lhs; unfold hasStart
  split
  · rename_i heq; cases heq; simp [List.isPrefixOf] at h
  · rename_i heq; cases heq; rfl
  · rename_i heq; cases heq
theorem contains_start : ∀ l : List UInt8, Lib.contains l [61, 63] = hasStart l
  | [] => rfl
  | c :: r => by
    have ih := contains_start r
    unfold Lib.contains at ih ⊢
    by_cases h : ([61, 63] : List UInt8).isPrefixOf (c :: r) = true
    · obtain ⟨x, hx⟩ := List.isPrefixOf_iff_prefix.1 h
      have e : Lib.index (c :: r) [61, 63] = 0 := by unfold Lib.index; rw [if_pos h]
      rw [e, ← hx]
      rfl
    · have h2 := Bool.eq_false_iff.2 h
      rw [start_no h2, ← ih]
      have e : Lib.index (c :: r) [61, 63] = if Lib.index r [61, 63] == -1 then -1 else Lib.index r [61, 63] + 1 := by
        conv => lhs; unfold Lib.index
        rw [h2]; rfl
      rw [e]
      rcases Lib.index_spec r [61, 63] with ⟨hi, _⟩ | ⟨i, hi, _⟩
      · rw [hi]; rfl
      · rw [hi]
        have n1 : ((i : Int) == -1) = false := by rw [beq_eq_false_iff_ne]; omega
        rw [n1]
        simp only [Bool.false_eq_true, if_false]
        rw [decide_eq_true (by omega), decide_eq_true (by omega)]
end Ch
def pch (c : UInt8) : Bool := decide (32 ≤ c) && decide (c ≤ 126)
set_option maxHeartbeats 2000000 in
set_option maxRecDepth 100000 in
theorem isPlain_any (s : ByteArray) (w : World) (hs : s.size ≤ 100000000) (hE : EnvH w) :
    Calls Tryz.prog 44 #[.string s] w fun e w' => e = .returned (.bool (Ch.plain s.data.toList)) ∧ w' = w := by
  obtain ⟨R, hR⟩ : ∃ R, Ch.plain s.data.toList = R := ⟨_, rfl⟩
  rw [hR]
  have HR := Lib.hid hR
  clear hR
  go_enter Tryz.func44, Tryz.ntmps44
  go_wp2
  go_loop [3, 6] (fun _ i => ∃ k : Nat, i = .int .i64 k ∧ k ≤ s.size ∧ Hid (((s.data.toList.drop k).all pch && !Ch.hasStart s.data.toList) = R)) (fun _ i => s.size - (intOf i).toNat)
  case atStart => exact ⟨0, rfl, Nat.zero_le _, by rw [List.drop_zero]; exact HR.out⟩
  case round =>
    obtain ⟨k, rfl, hk, hI⟩ := hrel
    by_cases hlt : k < s.size
    · have hg := Tx.get_of s k hlt
      obtain ⟨c, hc⟩ : ∃ c, s[k] = c := ⟨_, rfl⟩
      rw [hc] at hg
      have hA := hI.out
      rw [all_next hg] at hA
      by_cases h1 : c.toNat < 32
      · have hF : R = false := by rw [← hA]; simp [pch, show ¬ (32 : UInt8) ≤ c by rw [UInt8.le_iff_toNat_le]; simp; omega]
        have HF := Lib.hid hF
        clear hA hF hg hI
        have q1 : (c.toNat : Int) < 32 := by omega
        go_wp2
        go_ret
        exact ⟨congrArg (fun b => Ending.returned (.bool b)) HF.out.symm, rfl⟩
      · have q1 : ¬ ((c.toNat : Int) < 32) := by omega
        by_cases h2 : 126 < c.toNat
        · have hF : R = false := by rw [← hA]; simp [pch, show ¬ c ≤ (126 : UInt8) by rw [UInt8.le_iff_toNat_le]; simp; omega]
          have HF := Lib.hid hF
          clear hA hF hg hI
          have q2 : (126 : Int) < (c.toNat : Int) := by omega
          go_wp2
          go_ret
          exact ⟨congrArg (fun b => Ending.returned (.bool b)) HF.out.symm, rfl⟩
        · have q2 : ¬ ((126 : Int) < (c.toNat : Int)) := by omega
          have hN : ((s.data.toList.drop (k + 1)).all pch && !Ch.hasStart s.data.toList) = R := by
            rw [← hA]
            simp [pch, show (32 : UInt8) ≤ c by rw [UInt8.le_iff_toNat_le]; simp; omega, show c ≤ (126 : UInt8) by rw [UInt8.le_iff_toNat_le]; simp; omega]
          have HN := Lib.hid hN
          clear hA hN hg hI
          go_wp2
          go_round
          case rel => exact ⟨k + 1, by go_num, by omega, HN.out⟩
          case measure => simp [intOf]; omega
    · obtain rfl : k = s.size := by omega
      have he : s.data.toList.drop s.size = [] := List.drop_eq_nil_of_le (by rw [Lib.size_eq]; exact Nat.le_refl _)
      rw [he] at hI
      have HF : Hid ((!Ch.hasStart s.data.toList) = R) := Lib.hid (by simpa using hI.out)
      obtain ⟨m, hm⟩ := hE.mx
      have HCo := Lib.hid (Any.strings_Contains Tryz.lays144 s ⟨#[61, 63]⟩ m w (by omega) hm)
      rw [show (⟨#[61, 63]⟩ : ByteArray).data.toList = [61, 63] from rfl, Ch.contains_start] at HCo
      obtain ⟨q, hq⟩ : ∃ q, Ch.hasStart s.data.toList = q := ⟨_, rfl⟩
      rw [hq] at HF HCo
      clear hI he hq hm hE
      go_wp2_with (go_at_call 73; refine HCo.out.mono ?_; rintro e w2 ⟨rfl, rfl⟩)
      go_ret
      exact ⟨congrArg (fun b => Ending.returned (.bool b)) HF.out, rfl⟩

/-! ### an encoded word -/
namespace Cd
theorem base_len (l : List UInt8) : (base64 l).length ≤ 77 * l.length := by
  have e : base64 l = lins l (parts 57 l.length) := rfl
  have h1 := lins_le l (parts 57 l.length) (by
    intro x hx
    obtain ⟨k, _, rfl⟩ := List.mem_map.1 hx
    exact Nat.min_le_left _ _)
  have h2 := parts_len 57 l.length
  have h3 := cnt_le 57 l.length (by decide)
  rw [e]; omega
theorem base_end (l : List UInt8) (h : l ≠ []) : base64 l ≠ [] ∧ (base64 l).getLast? = some 10 := by
  have key : ∀ n (l : List UInt8), l.length ≤ n → l ≠ [] → (base64 l).getLast? = some 10 := by
    intro n
    induction n using Nat.strongRecOn with
    | ind n ih =>
      intro l hl h0
      have hp : 0 < l.length := List.length_pos_iff.2 h0
      rw [base_step l h0]
      by_cases hs : l.length ≤ 57
      · rw [List.drop_eq_nil_of_le hs, base_nil, List.append_nil, List.getLast?_append]; rfl
      · have hd : l.drop 57 ≠ [] := by intro e; have := congrArg List.length e; rw [List.length_drop] at this; simp at this; omega
        rw [List.getLast?_append, ih (n - 57) (by omega) _ (by rw [List.length_drop]; omega) hd]; rfl
  have h1 := key _ l (Nat.le_refl _) h
  exact ⟨(by intro e; rw [e] at h1; cases h1), h1⟩
end Cd
theorem trim_end {l : List UInt8} (h : l = [] ∨ l.getLast? = some 10) : Lib.trimSuffix l [10] = l.dropLast := by
  rcases h with rfl | h
  · rfl
  · obtain ⟨x, rfl⟩ : ∃ x, l = x ++ [10] := by
      have := List.getLast?_eq_some_iff.1 h
      exact this
    unfold Lib.trimSuffix Lib.hasSuffix
    rw [if_pos (by rw [List.isSuffixOf_iff_suffix]; exact List.suffix_append _ _)]
    simp
theorem base_last (p : List UInt8) : Cd.base64 p = [] ∨ (Cd.base64 p).getLast? = some 10 := by
  by_cases h : p = []
  · left; subst h; rfl
  · right; exact (Cd.base_end p h).2
theorem str_add (a b : List UInt8) : (⟨a.toArray⟩ : ByteArray) ++ (⟨b.toArray⟩ : ByteArray) = ⟨(a ++ b).toArray⟩ := by
  have h : ((⟨a.toArray⟩ : ByteArray) ++ (⟨b.toArray⟩ : ByteArray)).data.toList = a ++ b := by simp
  rw [← Lib.mk_data ((⟨a.toArray⟩ : ByteArray) ++ (⟨b.toArray⟩ : ByteArray)), h]
set_option maxHeartbeats 2000000 in
set_option maxRecDepth 100000 in
theorem encWord_any (p : List UInt8) (w : World) (hp : p.length ≤ 1000000) :
    Calls Tryz.prog 46 #[.string ⟨p.toArray⟩] w fun e w' => e = .returned (.string ⟨(Ch.codedWord p).toArray⟩) ∧ Below w.heap.size w w' := by
  have HB := Lib.hid (base64_any ⟨p.toArray⟩ w (by rw [mk_len]; exact hp))
  rw [mk_list] at HB
  have hl : (Cd.base64 p).length ≤ 9223372036854775807  := by have := Cd.base_len p; omega
  have HT := Lib.hid (fun W => Any.strings_TrimSuffix Tryz.lays102 ⟨(Cd.base64 p).toArray⟩ ⟨#[10]⟩ W (by rw [mk_len]; exact hl))
  have ht : Lib.trimSuffix (⟨(Cd.base64 p).toArray⟩ : ByteArray).data.toList (⟨#[10]⟩ : ByteArray).data.toList = (Cd.base64 p).dropLast := by
    rw [mk_list]
    exact trim_end (base_last p)
  rw [ht] at HT
  obtain ⟨B, hB⟩ : ∃ B : ByteArray, (⟨(Cd.base64 p).toArray⟩ : ByteArray) = B := ⟨_, rfl⟩
  obtain ⟨T, hT⟩ : ∃ T : ByteArray, (⟨(Cd.base64 p).dropLast.toArray⟩ : ByteArray) = T := ⟨_, rfl⟩
  rw [hB] at HB HT
  rw [hT] at HT
  have hTs : T.size ≤ 77000000 := by have := Cd.base_len p; rw [← hT, mk_len, List.length_dropLast]; omega
  have hr : (⟨(Ch.codedWord p).toArray⟩ : ByteArray) = (⟨#[61, 63, 117, 116, 102, 45, 56, 63, 66, 63]⟩ ++ T) ++ ⟨#[63, 61]⟩ := by
    rw [← hT]
    show _ = ((⟨Ch.start.toArray⟩ : ByteArray) ++ _) ++ (⟨([63, 61] : List UInt8).toArray⟩ : ByteArray)
    rw [str_add, str_add]; rfl
  rw [hr]
  clear hB hT ht hr hl
  go_enter Tryz.func46, Tryz.ntmps46
  go_wp2_with (first
    | (go_at_call 75; refine HB.out.mono ?_; rintro e w1 ⟨rfl, hB1⟩)
    | (go_at_call 74; refine (HT.out _).mono ?_; rintro e w2 ⟨rfl, rfl⟩))
  go_ret
  exact ⟨rfl, hB1⟩
end Go.Proofs.YtdkocjdhekomoaaGreatDoor
