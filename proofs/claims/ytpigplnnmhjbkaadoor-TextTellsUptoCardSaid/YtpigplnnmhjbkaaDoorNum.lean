/-
  The contract of text.Number.
-/
import Derived.Test.YtpigplnnmhjbkaaDoorProg
import Derived.Test.YtpigplnnmhjbkaaDoorPlain
import Derived.WalkKit
import Derived.WalkSpells
import Derived.WalkLawsBesides
import Derived.Outline
import Derived.Lib.Hide
namespace Go.Proofs.YtpigplnnmhjbkaaDoor
open Go Go.RowKit
namespace Tx

theorem val_snoc (l : List UInt8) (c : UInt8) : val (l ++ [c]) = 10 * val l + (c.toNat - 48) := by simp [val]
theorem val_lt (l : List UInt8) (h : l.all isDig = true) : val l < 10 ^ l.length := by
  suffices H : ∀ (l : List UInt8) (a b : Nat), l.all isDig = true → a < 10 ^ b → l.foldl (fun n c => 10 * n + (c.toNat - 48)) a < 10 ^ (b + l.length) by
    simpa [val] using H l 0 0 h (by simp)
  intro l
  induction l with
  | nil => intro a b _ h; simpa using h
  | cons c r ih =>
    intro a b hd ha
    simp only [List.all_cons, Bool.and_eq_true] at hd
    have := ih (10 * a + (c.toNat - 48)) (b + 1) hd.2 (by
      have h1 := hd.1; simp only [isDig, Bool.and_eq_true, decide_eq_true_eq] at h1
      rw [Nat.pow_succ]; omega)
    simp only [List.foldl_cons, List.length_cons]
    rw [show b + (r.length + 1) = b + 1 + r.length from by omega]
    exact this
theorem val_bd (l : List UInt8) (h : l.all isDig = true) (hl : l.length ≤ 15) : val l ≤ 999999999999999 := by
  have h1 := val_lt l h
  have h2 : (10 : Nat) ^ l.length ≤ 10 ^ 15 := Nat.pow_le_pow_right (by omega) hl
  omega
theorem val_bd' (l : List UInt8) (h : l.all isDig = true) (hl : l.length ≤ 14) : val l ≤ 99999999999999 := by
  have h1 := val_lt l h
  have h2 : (10 : Nat) ^ l.length ≤ 10 ^ 14 := Nat.pow_le_pow_right (by omega) hl
  omega
theorem take_snoc (s : ByteArray) (k : Nat) (h : k < s.size) : s.data.toList.take (k + 1) = s.data.toList.take k ++ [s[k]] := by
  rw [List.take_succ_eq_append_getElem (by simpa using h)]; rfl
theorem get_some (s : ByteArray) (k : Nat) (h : k < s.size) : s.data.toList[k]? = some s[k] := by
  rw [List.getElem?_eq_getElem (by simpa using h)]; rfl
theorem numOk_no (l : List UInt8) (k : Nat) (c : UInt8) (hc : l[k]? = some c) (h : isDig c = false) : numOk l = false := by
  unfold numOk
  have : l.all isDig = false := by
    rw [List.all_eq_false]
    exact ⟨c, List.mem_of_getElem? hc, by simp [h]⟩
  simp [this]
end Tx

theorem ret_ib {k : IntKind} {a b : Int} {p q : Bool} (h : a = b) (h2 : p = q) : Ending.returned (.tuple #[.int k a, .bool p]) = .returned (.tuple #[.int k b, .bool q]) := by rw [h, h2]

set_option maxHeartbeats 1000000 in
theorem number_any (s : ByteArray) (w : World) (hs : s.size ≤ 9223372036854775807) :
    Calls Tryd.prog 10 #[.string s] w fun e w' => e = .returned (.tuple #[.int .i64 (Tx.numVal s.data.toList), .bool (Tx.numOk s.data.toList)]) ∧ w = w' := by
  have hsz := Lib.size_eq s
  by_cases h0 : s.size = 0
  · have hemp : s.toList.isEmpty = true := by rw [Lib.toList_data]; cases h : s.data.toList with | nil => rfl | cons _ _ => rw [h, List.length_cons] at hsz; omega
    have hok : Tx.numOk s.data.toList = false := by simp [Tx.numOk]; omega
    have H := Lib.hid hok
    clear hok hsz h0
    go_enter Tryd.func10, Tryd.ntmps10
    go_wp2
    go_ret2
    exact ⟨ret_ib (by simp [Tx.numVal, H.out]) (by simp [H.out]), rfl⟩
  have hemp : s.toList.isEmpty = false := by rw [Lib.toList_data]; cases h : s.data.toList with | nil => rw [h, List.length_nil] at hsz; omega | cons _ _ => rfl
  by_cases h15 : 15 < s.size
  · have hok : Tx.numOk s.data.toList = false := by simp [Tx.numOk]; omega
    have H := Lib.hid hok
    clear hok hsz h0
    go_enter Tryd.func10, Tryd.ntmps10
    go_wp2
    go_ret2
    exact ⟨ret_ib (by simp [Tx.numVal, H.out]) (by simp [H.out]), rfl⟩
  have hz : decide ((15 : Int) < s.size) = false := decide_eq_false (by omega)
  have Hsz := Lib.hid hsz
  clear hsz
  go_enter Tryd.func10, Tryd.ntmps10
  go_wp2
  go_loop [4, 15] (fun n i => ∃ k : Nat, k ≤ s.size ∧ i = .int .i64 k ∧ (s.data.toList.take k).all Tx.isDig = true ∧ n = .int .i64 (Tx.val (s.data.toList.take k))) (fun _ i => s.size - (intOf i).toNat)
  case atStart => exact ⟨0, Nat.zero_le _, rfl, rfl, rfl⟩
  case round =>
    obtain ⟨k, hk, rfl, hd, rfl⟩ := hrel
    have hl : (s.data.toList.take k).length ≤ k := List.length_take_le _ _
    by_cases hlt : k < s.size
    · have hb := Tx.val_bd' (s.data.toList.take k) hd (by omega)
      have hts := Tx.take_snoc s k hlt
      have hg : s.data.toList[k]? = some s[k] := Tx.get_some s k hlt
      have HS : Hid (s.data.toList.take (k + 1) = s.data.toList.take k ++ [s[k]]) := hts
      have HG : Hid (s.data.toList[k]? = some s[k]) := hg
      have HD := Lib.hid hd
      clear hts hg hd
      by_cases hdig : 48 ≤ (s[k].toNat : Int) ∧ (s[k].toNat : Int) ≤ 57
      · obtain ⟨hd1, hd2⟩ := hdig
        go_wp2
        go_round
        case rel =>
          refine ⟨k + 1, by omega, by go_num, ?_, ?_⟩
          · rw [HS.out, List.all_append, HD.out]
            simp [Tx.isDig]; omega
          · rw [HS.out, Tx.val_snoc]
            congr 1; omega
        case measure => simp [intOf]; omega
      · have hno : Tx.numOk s.data.toList = false := Tx.numOk_no _ k _ HG.out (by simp [Tx.isDig]; omega)
        have HN := Lib.hid hno
        clear hno
        by_cases h1 : (s[k].toNat : Int) < 48
        · go_wp2
          go_ret2
          exact ⟨ret_ib (by simp [Tx.numVal, HN.out]) (by simp [HN.out]), rfl⟩
        · have h2 : 57 < (s[k].toNat : Int) := by omega
          go_wp2
          go_ret2
          exact ⟨ret_ib (by simp [Tx.numVal, HN.out]) (by simp [HN.out]), rfl⟩
    · have hok : Tx.numOk s.data.toList = true := by
        have e : s.data.toList.take k = s.data.toList := List.take_of_length_le (by rw [← Hsz.out]; omega)
        rw [e] at hd
        simp only [Tx.numOk, hd, Bool.and_true, Bool.and_eq_true, decide_eq_true_eq]
        rw [← Hsz.out]; omega
      have HN := Lib.hid hok
      have HE : Hid (s.data.toList.take k = s.data.toList) := List.take_of_length_le (by rw [← Hsz.out]; omega)
      clear hok hd
      go_wp2
      go_ret2
      exact ⟨ret_ib (by simp [Tx.numVal, HN.out, HE.out]) (by simp [HN.out]), rfl⟩
end Go.Proofs.YtpigplnnmhjbkaaDoor
