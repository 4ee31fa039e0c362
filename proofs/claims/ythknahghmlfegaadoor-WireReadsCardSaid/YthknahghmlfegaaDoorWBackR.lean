/-
  The reference's Back: the int whose canonical numeral a string is.
-/
import Derived.Test.YthknahghmlfegaaDoorWRefW
import Derived.OpenShut
namespace Go.Proofs.YthknahghmlfegaaDoor
open Go Go.RowKit Go.Shelf

namespace Wr
theorem unItoa_len {d : List UInt8} {n : Int} (h : unItoa d = some n) : d.length ≤ 20 := by
  obtain ⟨rfl, hi⟩ := unItoa_some h
  exact itoa_len hi
theorem val_append (acc : Nat) (a b : List UInt8) : val acc (a ++ b) = val (val acc a) b := by unfold val; rw [List.foldl_append]
theorem val_prefix (a b : List UInt8) : val 0 a ≤ val 0 (a ++ b) := by rw [val_append]; exact val_ge b _
theorem cut_snoc (s : ByteArray) (f j : Nat) (hf : f ≤ j) (hj : j < s.size) : (s.data.toList.take (j + 1)).drop f = (s.data.toList.take j).drop f ++ [s[j]] := by
  have h : s.data.toList.take (j + 1) = s.data.toList.take j ++ [s[j]] := by
    rw [List.take_succ_eq_append_getElem (by simpa using hj)]; rfl
  rw [h, List.drop_append_of_le_length (by rw [List.length_take, ← Lib.size_eq]; omega)]
theorem cut_le (s : ByteArray) (f j u : Nat) (hu : val 0 (s.data.toList.drop f) = u) : val 0 ((s.data.toList.take j).drop f) ≤ u := by
  have h : s.data.toList.drop f = (s.data.toList.take j).drop f ++ (s.data.toList.drop j).drop (f - (s.data.toList.take j).length) := by
    conv => lhs; rw [← List.take_append_drop j s.data.toList]
    rw [List.drop_append]
  rw [← hu, h]
  exact val_prefix _ _
theorem get_some (s : ByteArray) (k : Nat) (h : k < s.size) : s.data.toList[k]? = some s[k] := by
  rw [List.getElem?_eq_getElem (by simpa using h)]; rfl
theorem drop_dig {s : ByteArray} {f j : Nat} (hd : (s.data.toList.drop f).all isDig = true) (hf : f ≤ j) (hj : j < s.size) : 48 ≤ (s[j].toNat : Int) ∧ (s[j].toNat : Int) ≤ 57 := by
  have hm : s[j] ∈ s.data.toList.drop f := by
    have h1 := get_some s j hj
    have h2 : (s.data.toList.drop f)[j - f]? = some s[j] := by rw [List.getElem?_drop, show f + (j - f) = j from by omega]; exact h1
    exact List.mem_of_getElem? h2
  have := List.all_eq_true.1 hd _ hm
  unfold isDig at this
  simp only [Bool.and_eq_true, decide_eq_true_eq] at this
  omega
end Wr
theorem wrap_i64 (x : Int) : Wr.i64 (IntKind.i64.wrap x) := by
  have h := wf_wrap .i64 x
  simp only [Lit.wf, Bool.and_eq_true, decide_eq_true_eq] at h
  have e1 : IntKind.i64.min = -9223372036854775808 := rfl
  have e2 : IntKind.i64.max = 9223372036854775807 := rfl
  unfold Wr.i64
  omega
theorem wrap64_i64 (x : Int) : Wr.i64 (wrap64 x) := by unfold Wr.i64 wrap64; omega
/-- Back says no. -/
def BackNo (w : World) (e : Ending) (w' : World) : Prop := ∃ z, e = .returned (.tuple #[.int .i64 z, .bool false]) ∧ Below w.heap.size w w'
theorem ret_ib {a b : Int} {p q : Bool} (h : a = b) (h2 : p = q) : Ending.returned (.tuple #[.int .i64 a, .bool p]) = .returned (.tuple #[.int .i64 b, .bool q]) := by rw [h, h2]

set_option maxHeartbeats 2000000 in
set_option maxRecDepth 100000 in
theorem back_pos (s : ByteArray) (u : Nat) (hu : u ≤ 9223372036854775807) (hs : s.data.toList = Lib.decDigits u) (w : World) :
    Calls Tryd.prog 63 #[.string s] w fun e w' => e = .returned (.tuple #[.int .i64 ((u : Int)), .bool true]) ∧ Below w.heap.size w w' := by
  have hsz := Lib.size_eq s
  have hm : Wr.i64 ((u : Int)) := by unfold Wr.i64; omega
  have hlen : s.size ≤ 20 := by
    rw [hsz, hs]
    have := Wr.dec_len_le 18 u (by have : (10 : Nat) ^ 19 = 10000000000000000000 := by decide
                                   omega)
    simp; omega
  have hpos : 0 < s.size := by
    rw [hsz, hs]
    have := List.length_pos_iff.2 (Wr.dec_ne u)
    simp; omega
  have hd : (s.data.toList.drop 0).all Wr.isDig = true := by rw [hs]; exact Wr.dec_dig u
  have hv : Wr.val 0 (s.data.toList.drop 0) = u := by rw [hs]; exact Wr.dec_val u
  have h0 : 0 < s.size := by omega
  have h45 : ((s[0].toNat : Int) == 45) = false := by
    have := (Wr.drop_dig (f := 0) (j := 0) hd (Nat.le_refl _) h0).1
    rw [beq_eq_false_iff_ne]; omega
  have HI := Lib.hid (fun z W (hz : z = (u : Int)) => rint_any z (by rw [hz]; exact hm) W)
  obtain ⟨E, hE⟩ : ∃ E : ByteArray, (⟨(Wr.encInt ((u : Int))).toArray⟩ : ByteArray) = E := ⟨_, rfl⟩
  have hEl : E = s ++ ⟨#[59]⟩ := by
    rw [← hE]; apply ByteArray.ext; apply Array.ext'
    unfold Wr.encInt; simp [hs, Lib.itoa_nonneg]
  have HI2 : Hid (∀ (z : Int) (W : World), z = (u : Int) → Calls Tryd.prog 14 #[.int .i64 z] W fun e w' => e = .returned (.string (s ++ ⟨#[59]⟩)) ∧ Below W.heap.size W w') := fun z W hz => by
    have := HI.out z W hz
    rw [hz, hE, hEl] at this
    rw [hz]
    exact this
  have HS := Lib.hid hs
  have HD := Lib.hid hd
  have HV := Lib.hid hv
  have HSZ := Lib.hid hsz
  have hcmp : ((s ++ ⟨#[59]⟩ : ByteArray).toList == (s ++ ⟨#[59]⟩ : ByteArray).toList) = true := by simp
  clear hsz hs hd hv hm HI hE hEl
  go_enter Tryd.func63, Tryd.ntmps63
  go_wp2
  go_loop [5, 6] (fun n i => ∃ j : Nat, i = .int .i64 j ∧ 0 ≤ j ∧ j ≤ s.size ∧ n = .int .i64 (-(Wr.val 0 ((s.data.toList.take j).drop 0) : Int))) (fun _ i => s.size - (intOf i).toNat)
  case atStart => exact ⟨0, rfl, Nat.le_refl _, by omega, by rw [List.drop_eq_nil_of_le (by rw [List.length_take]; omega)]; rfl⟩
  case round =>
    obtain ⟨j, rfl, hfj, hj, rfl⟩ := hrel
    by_cases hlt : j < s.size
    · obtain ⟨hd1, hd2⟩ := Wr.drop_dig HD.out hfj hlt
      have hb := Wr.cut_le s 0 (j + 1) u HV.out
      rw [Wr.cut_snoc s 0 j hfj hlt, Wr.val_snoc] at hb
      have hnext : Hid (Wr.val 0 ((s.data.toList.take (j + 1)).drop 0) = 10 * Wr.val 0 ((s.data.toList.take j).drop 0) + (s[j].toNat - 48)) := by
        show _ = _
        rw [Wr.cut_snoc s 0 j hfj hlt, Wr.val_snoc]
      have hj20 : j ≤ 20 := by omega
      generalize Wr.val 0 ((s.data.toList.take j).drop 0) = a at hb hnext ⊢
      go_wp2
      go_round
      case rel => exact ⟨j + 1, by go_num, by omega, by omega, by rw [hnext.out]; congr 1; omega⟩
      case measure => simp [intOf]; omega
    · obtain rfl : j = s.size := by omega
      have hall : Hid (Wr.val 0 ((s.data.toList.take s.size).drop 0) = u) := by
        show _ = _
        rw [List.take_of_length_le (by rw [← HSZ.out]; omega)]; exact HV.out
      rw [hall.out]
      go_wp2_with fail
      refine (HI2.out _ _ (by omega)).mono ?_
      rintro e w1 ⟨rfl, hB⟩
      go_wp2
      go_ret2
      exact ⟨ret_ib (by omega) (by simp), hB⟩

set_option maxHeartbeats 2000000 in
set_option maxRecDepth 100000 in
theorem back_neg (s : ByteArray) (u : Nat) (h1 : 1 ≤ u) (hu : u ≤ 9223372036854775808) (hs : s.data.toList = 45 :: Lib.decDigits u) (w : World) :
    Calls Tryd.prog 63 #[.string s] w fun e w' => e = .returned (.tuple #[.int .i64 (-(u : Int)), .bool true]) ∧ Below w.heap.size w w' := by
  have hsz := Lib.size_eq s
  have hm : Wr.i64 (-(u : Int)) := by unfold Wr.i64; omega
  have hlen : s.size ≤ 20 := by
    rw [hsz, hs]
    have := Wr.dec_len_le 18 u (by have : (10 : Nat) ^ 19 = 10000000000000000000 := by decide
                                   omega)
    simp; omega
  have hpos : 1 < s.size := by
    rw [hsz, hs]
    have := List.length_pos_iff.2 (Wr.dec_ne u)
    simp; omega
  have hd : (s.data.toList.drop 1).all Wr.isDig = true := by rw [hs]; exact Wr.dec_dig u
  have hv : Wr.val 0 (s.data.toList.drop 1) = u := by rw [hs]; exact Wr.dec_val u
  have h0 : 0 < s.size := by omega
  have h45 : ((s[0].toNat : Int) == 45) = true := by
    have h1 := Wr.get_some s 0 h0
    rw [hs] at h1
    have h2 : s[0] = 45 := by simpa using h1.symm
    rw [h2]; rfl
  have HI := Lib.hid (fun z W (hz : z = -(u : Int)) => rint_any z (by rw [hz]; exact hm) W)
  obtain ⟨E, hE⟩ : ∃ E : ByteArray, (⟨(Wr.encInt (-(u : Int))).toArray⟩ : ByteArray) = E := ⟨_, rfl⟩
  have hEl : E = s ++ ⟨#[59]⟩ := by
    rw [← hE]; apply ByteArray.ext; apply Array.ext'
    unfold Wr.encInt; simp [hs, Lib.itoa_neg u h1]
  have HI2 : Hid (∀ (z : Int) (W : World), z = -(u : Int) → Calls Tryd.prog 14 #[.int .i64 z] W fun e w' => e = .returned (.string (s ++ ⟨#[59]⟩)) ∧ Below W.heap.size W w') := fun z W hz => by
    have := HI.out z W hz
    rw [hz, hE, hEl] at this
    rw [hz]
    exact this
  have HS := Lib.hid hs
  have HD := Lib.hid hd
  have HV := Lib.hid hv
  have HSZ := Lib.hid hsz
  have hcmp : ((s ++ ⟨#[59]⟩ : ByteArray).toList == (s ++ ⟨#[59]⟩ : ByteArray).toList) = true := by simp
  clear hsz hs hd hv hm HI hE hEl
  go_enter Tryd.func63, Tryd.ntmps63
  go_wp2
  go_loop [5, 6] (fun n i => ∃ j : Nat, i = .int .i64 j ∧ 1 ≤ j ∧ j ≤ s.size ∧ n = .int .i64 (-(Wr.val 0 ((s.data.toList.take j).drop 1) : Int))) (fun _ i => s.size - (intOf i).toNat)
  case atStart => exact ⟨1, rfl, Nat.le_refl _, by omega, by rw [List.drop_eq_nil_of_le (by rw [List.length_take]; omega)]; rfl⟩
  case round =>
    obtain ⟨j, rfl, hfj, hj, rfl⟩ := hrel
    by_cases hlt : j < s.size
    · obtain ⟨hd1, hd2⟩ := Wr.drop_dig HD.out hfj hlt
      have hb := Wr.cut_le s 1 (j + 1) u HV.out
      rw [Wr.cut_snoc s 1 j hfj hlt, Wr.val_snoc] at hb
      have hnext : Hid (Wr.val 0 ((s.data.toList.take (j + 1)).drop 1) = 10 * Wr.val 0 ((s.data.toList.take j).drop 1) + (s[j].toNat - 48)) := by
        show _ = _
        rw [Wr.cut_snoc s 1 j hfj hlt, Wr.val_snoc]
      have hj20 : j ≤ 20 := by omega
      generalize Wr.val 0 ((s.data.toList.take j).drop 1) = a at hb hnext ⊢
      go_wp2
      go_round
      case rel => exact ⟨j + 1, by go_num, by omega, by omega, by rw [hnext.out]; congr 1; omega⟩
      case measure => simp [intOf]; omega
    · obtain rfl : j = s.size := by omega
      have hall : Hid (Wr.val 0 ((s.data.toList.take s.size).drop 1) = u) := by
        show _ = _
        rw [List.take_of_length_le (by rw [← HSZ.out]; omega)]; exact HV.out
      rw [hall.out]
      go_wp2_with fail
      refine (HI2.out _ _ (by omega)).mono ?_
      rintro e w1 ⟨rfl, hB⟩
      go_wp2
      go_ret2
      exact ⟨ret_ib (by omega) (by simp), hB⟩

set_option maxHeartbeats 2000000 in
set_option maxRecDepth 100000 in
theorem back_noE (s : ByteArray) (h0 : s.size = 0) (hn : ∀ z : Int, Wr.i64 z → Wr.encInt z ≠ s.data.toList ++ [59]) (w : World) :
    Calls Tryd.prog 63 #[.string s] w (BackNo w) := by
  have HI : Hid (∀ (z : Int) (W : World), Wr.i64 z → Calls Tryd.prog 14 #[.int .i64 z] W fun e w' => ∃ E : ByteArray, e = .returned (.string E) ∧ (E.toList == (s ++ ⟨#[59]⟩ : ByteArray).toList) = false ∧ Below W.heap.size W w') := fun z W hz => by
    refine (rint_any z hz W).mono fun e w' ⟨h1, h2⟩ => ⟨_, h1, ?_, h2⟩
    have := hn z hz
    rw [Lib.toList_data, Lib.toList_data]
    simpa using this
  clear hn

  go_enter Tryd.func63, Tryd.ntmps63
  go_wp2
  go_loop [5, 6] (fun n i => ∃ (j : Nat) (a : Int), i = .int .i64 j ∧ 0 ≤ j ∧ j ≤ s.size ∧ n = .int .i64 a ∧ Hid (Wr.i64 a)) (fun _ i => s.size - (intOf i).toNat)
  case atStart => exact ⟨0, 0, rfl, Nat.le_refl _, by omega, rfl, (show Wr.i64 0 by unfold Wr.i64; omega)⟩
  case round =>
    obtain ⟨j, a, rfl, hfj, hj, rfl, ha⟩ := hrel
    obtain rfl : j = s.size := by omega
    go_wp2_with fail
    refine (HI.out _ _ ?_).mono ?_
    · first | exact wrap_i64 _ | (have h1 := ha.out; unfold Wr.i64 at *; first | omega | (unfold wrap64; omega))
    rintro e w1 ⟨E, rfl, hE, hB⟩
    go_wp2
    go_ret2
    exact ⟨_, rfl, hB⟩
end Go.Proofs.YthknahghmlfegaaDoor
