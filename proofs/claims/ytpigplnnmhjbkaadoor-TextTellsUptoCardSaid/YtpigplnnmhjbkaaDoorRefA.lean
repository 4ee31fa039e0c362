/-
  The reference's White, lower, Number, Lower, Upper, Same.
-/
import Derived.Test.YtpigplnnmhjbkaaDoorMap
import Derived.Test.YtpigplnnmhjbkaaDoorWalkW
namespace Go.Proofs.YtpigplnnmhjbkaaDoor
open Go Go.RowKit Go.Shelf
set_option maxHeartbeats 1000000 in
set_option maxRecDepth 100000 in
theorem refWhite_to {c : UInt8} {g : Bool} (hg : Tx.isW c = g) (w : World) :
    Calls Tryd.prog 39 #[.int .u8 c.toNat] w fun e w' => e = .returned (.bool g) ∧ ∃ n, w' = w.drewN n := by
  have key : g = (((c.toNat : Int) == 9) || (((c.toNat : Int) == 10) || (((c.toNat : Int) == 13) || ((c.toNat : Int) == 32)))) := by
    rw [← hg]
    exact Tx.byte_all (P := fun c => Tx.isW c = (((c.toNat : Int) == 9) || (((c.toNat : Int) == 10) || (((c.toNat : Int) == 13) || ((c.toNat : Int) == 32))))) (by decide +kernel) c
  clear hg
  generalize (c.toNat : Int) = z at key ⊢
  cases h9 : z == 9 <;> cases h10 : z == 10 <;> cases h13 : z == 13 <;> cases h32 : z == 32 <;> rw [h9, h10, h13, h32] at key <;> subst key <;>
  · go_enter Tryd.func39, Tryd.ntmps39
    go_wp2
    go_ret
    exact ⟨rfl, 0, rfl⟩

theorem refLow_any (c : UInt8) (w : World) : Calls Tryd.prog 36 #[.int .u8 c.toNat] w fun e w' => e = .returned (.int .u8 (Tx.lowB c).toNat) ∧ w' = w := by
  have hc : c.toNat < 256 := UInt8.toNat_lt c
  by_cases h : 65 ≤ c.toNat ∧ c.toNat ≤ 90
  · have H := Lib.hid (Tx.lowB_lo c h)
    obtain ⟨h1, h2⟩ := h
    go_enter Tryd.func36, Tryd.ntmps36
    go_wp2
    go_ret
    exact ⟨ret_byte (by rw [H.out]; omega), rfl⟩
  · have H := Lib.hid (Tx.lowB_no c h)
    by_cases h1 : 65 ≤ c.toNat
    · have h2 : 90 < c.toNat := by omega
      clear h
      go_enter Tryd.func36, Tryd.ntmps36
      go_wp2
      go_ret
      exact ⟨ret_byte (by rw [H.out]), rfl⟩
    · clear h
      go_enter Tryd.func36, Tryd.ntmps36
      go_wp2
      go_ret
      exact ⟨ret_byte (by rw [H.out]), rfl⟩
set_option maxHeartbeats 1000000 in
theorem refNumber_any (s : ByteArray) (w : World) (hs : s.size ≤ 9223372036854775807) :
    Calls Tryd.prog 11 #[.string s] w fun e w' => e = .returned (.tuple #[.int .i64 (Tx.numVal s.data.toList), .bool (Tx.numOk s.data.toList)]) ∧ w = w' := by
  have hsz := Lib.size_eq s
  by_cases h0 : s.size = 0
  · have h1s : decide ((s.size : Int) < 1) = true := decide_eq_true (by omega)
    have hok : Tx.numOk s.data.toList = false := by simp [Tx.numOk]; omega
    have H := Lib.hid hok
    clear hok hsz h0
    go_enter Tryd.func11, Tryd.ntmps11
    go_wp2
    go_ret2
    exact ⟨ret_ib (by simp [Tx.numVal, H.out]) (by simp [H.out]), rfl⟩
  have h1s : decide ((s.size : Int) < 1) = false := decide_eq_false (by omega)
  by_cases h15 : 15 < s.size
  · have hok : Tx.numOk s.data.toList = false := by simp [Tx.numOk]; omega
    have H := Lib.hid hok
    clear hok hsz h0
    go_enter Tryd.func11, Tryd.ntmps11
    go_wp2
    go_ret2
    exact ⟨ret_ib (by simp [Tx.numVal, H.out]) (by simp [H.out]), rfl⟩
  have hz : decide ((15 : Int) < s.size) = false := decide_eq_false (by omega)
  have Hsz := Lib.hid hsz
  clear hsz
  go_enter Tryd.func11, Tryd.ntmps11
  go_wp2
  go_loop [4, 5] (fun n i => ∃ k : Nat, k ≤ s.size ∧ i = .int .i64 k ∧ (s.data.toList.take k).all Tx.isDig = true ∧ n = .int .i64 (Tx.val (s.data.toList.take k))) (fun _ i => s.size - (intOf i).toNat)
  case atStart => exact ⟨0, Nat.zero_le _, rfl, rfl, rfl⟩
  case round =>
    obtain ⟨k, hk, rfl, hd, rfl⟩ := hrel
    have hl : (s.data.toList.take k).length ≤ k := List.length_take_le _ _
    by_cases hlt : k < s.size
    · have hb := Tx.val_bd' (s.data.toList.take k) hd (by omega)
      have hts := Tx.take_snoc s k hlt
      have hg : s.data.toList[k]? = some s[k] := Tx.get_some s k hlt
      have HS : Hid (s.data.toList.take (k + 1) = s.data.toList.take k ++ [s[k]]) := hts
      have HG : Hid (s.data.toList[k]? = some s[k]) := hg
      have HD := Lib.hid hd
      clear hts hg hd
      by_cases hdig : 48 ≤ (s[k].toNat : Int) ∧ (s[k].toNat : Int) ≤ 57
      · obtain ⟨hd1, hd2⟩ := hdig
        go_wp2
        go_round
        case rel =>
          refine ⟨k + 1, by omega, by go_num, ?_, ?_⟩
          · rw [HS.out, List.all_append, HD.out]
            simp [Tx.isDig]; omega
          · rw [HS.out, Tx.val_snoc]
            congr 1; omega
        case measure => simp [intOf]; omega
      · have hno : Tx.numOk s.data.toList = false := Tx.numOk_no _ k _ HG.out (by simp [Tx.isDig]; omega)
        have HN := Lib.hid hno
        clear hno
        by_cases h1 : (s[k].toNat : Int) < 48
        · go_wp2
          go_ret2
          exact ⟨ret_ib (by simp [Tx.numVal, HN.out]) (by simp [HN.out]), rfl⟩
        · have h2 : 57 < (s[k].toNat : Int) := by omega
          go_wp2
          go_ret2
          exact ⟨ret_ib (by simp [Tx.numVal, HN.out]) (by simp [HN.out]), rfl⟩
    · have hok : Tx.numOk s.data.toList = true := by
        have e : s.data.toList.take k = s.data.toList := List.take_of_length_le (by rw [← Hsz.out]; omega)
        rw [e] at hd
        simp only [Tx.numOk, hd, Bool.and_true, Bool.and_eq_true, decide_eq_true_eq]
        rw [← Hsz.out]; omega
      have HN := Lib.hid hok
      have HE : Hid (s.data.toList.take k = s.data.toList) := List.take_of_length_le (by rw [← Hsz.out]; omega)
      clear hok hd
      go_wp2
      go_ret2
      exact ⟨ret_ib (by simp [Tx.numVal, HN.out, HE.out]) (by simp [HN.out]), rfl⟩
set_option maxHeartbeats 1000000 in
set_option maxRecDepth 100000 in
theorem refLower_any (s : ByteArray) (w : World) (hs : s.size ≤ 9223372036854775807) :
    Calls Tryd.prog 13 #[.string s] w fun e w' => e = .returned (.string ⟨(s.data.toList.map Tx.lowB).toArray⟩) ∧ Below w.heap.size w w' := by
  have hconv := run_bytes_of_string (P := Tryd.prog) w 9 38 5 s Tryd.underlying9 Tryd.underlying38 Tryd.underlying5
  have hst := Tx.MapRow.start Tx.lowB s w (grownCap w s.size 0 5)
  generalize grownCap w s.size 0 5 = cap at hconv hst
  generalize bytesRow s cap = C at hconv hst
  have HSt := Lib.hid hst
  clear hst
  go_enter Tryd.func13, Tryd.ntmps13
  go_wp2
  go_loopw [4] (fun i wr => ∃ k : Nat, i = .int .i64 k ∧ k ≤ s.size ∧ Hid (Tx.MapRow Tx.lowB s w.heap.size k wr) ∧ Below w.heap.size w wr) (fun i _ => s.size - (intOf i).toNat)
  case atStart => exact ⟨0, rfl, Nat.zero_le _, HSt.out.drews 1, below_drews ((Below.refl _ w).alloc (Nat.le_refl _) _) 1⟩
  case round =>
    obtain ⟨k, rfl, hk, hrow, hb⟩ := hrel
    by_cases hlt : k < s.size
    · have hc := hrow.out.cell k hlt
      rw [if_neg (by omega)] at hc
      have hf := hrow.out.free k hlt
      have HN := Lib.hid (hrow.out.step hlt)
      obtain ⟨c, hck⟩ : ∃ c, s[k] = c := ⟨_, rfl⟩
      rw [hck] at hc HN
      have HL := Lib.hid (refLow_any c)
      clear hck
      go_wp2_with (go_at_call 36; refine (HL.out _).mono ?_; rintro e w' ⟨rfl, rfl⟩)
      go_roundw
      case rel => exact ⟨k + 1, by go_num, by omega, HN.out, hb.setCell (p := ⟨w.heap.size, k, none⟩) (Nat.le_refl _) _⟩
      case measure => simp [intOf]; omega
    · obtain rfl : k = s.size := by omega
      have hback := hrow.out.back cap
      go_wp2
      go_ret
      exact ⟨rfl, hb⟩


set_option maxHeartbeats 1000000 in
set_option maxRecDepth 100000 in
theorem refSame_any (a b : ByteArray) (w : World) (ha : a.size ≤ 9223372036854775807) (hb : b.size ≤ 9223372036854775807) :
    Calls Tryd.prog 17 #[.string a, .string b] w fun e w' => e = .returned (.bool (Tx.same a.data.toList b.data.toList)) ∧ Below w.heap.size w w' := by
  have H1 := Lib.hid (fun W => refLower_any a W ha)
  have H2 := Lib.hid (fun W => refLower_any b W hb)
  obtain ⟨A, hA⟩ : ∃ A : ByteArray, ⟨(a.data.toList.map Tx.lowB).toArray⟩ = A := ⟨_, rfl⟩
  obtain ⟨B, hB⟩ : ∃ B : ByteArray, ⟨(b.data.toList.map Tx.lowB).toArray⟩ = B := ⟨_, rfl⟩
  rw [hA] at H1
  rw [hB] at H2
  have hg : (A.toList == B.toList) = Tx.same a.data.toList b.data.toList := by
    rw [Lib.toList_data, Lib.toList_data, ← hA, ← hB]; rfl
  obtain ⟨g, hgg⟩ : ∃ g, Tx.same a.data.toList b.data.toList = g := ⟨_, rfl⟩
  rw [hgg] at hg ⊢
  clear hA hB hgg
  go_enter Tryd.func17, Tryd.ntmps17
  go_wp2_with fail
  refine (H1.out _).mono ?_
  rintro e w1 ⟨rfl, hB1⟩
  go_wp2_with fail
  refine (H2.out _).mono ?_
  rintro e w2 ⟨rfl, hB2⟩
  go_wp2
  go_ret
  exact ⟨by first | rfl | rw [hg], hB1.trans (hB2.mono hB1.size)⟩
end Go.Proofs.YtpigplnnmhjbkaaDoor
