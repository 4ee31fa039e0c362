/-
  missivelaw08.CharsetRepairs.
-/
import Derived.Test.YtdkocjdhekomoaaGreatDoorHSm
namespace Go.Proofs.YtdkocjdhekomoaaGreatDoor
open Go Go.RowKit Go.Shelf
theorem same_to {A B : ByteArray} {v : Bool} (h : (A.data.toList == B.data.toList) = v) : (A.toList == B.toList) = v := by rw [Lib.toList_data, Lib.toList_data]; exact h
set_option maxHeartbeats 4000000 in
set_option maxRecDepth 100000 in
theorem repairs_law (s : ByteArray) (w : World) (hE : EnvH w) (hs : s.size ≤ 9223372036854775807) :
    Calls Tryz.prog 4 #[.string s] w fun e w' => e = .returned (.bool true) ∧ Below w.heap.size w w' := by
  have HSm := Lib.hid (small_any w hE)
  have E0 := Lib.hid hE
  clear hE
  by_cases h2 : 2000 < (s.size : Int)
  · go_enter Tryz.func4, Tryz.ntmps4
    go_wp2_with fail
    refine HSm.out.mono ?_
    rintro e w1 ⟨rfl, hB1⟩
    go_wp2
    go_ret
    exact ⟨rfl, hB1⟩
  · have hle : s.size ≤ 2000 := by omega
    have h3 : (s.size : Int) ≤ 2000 := by omega
    have hrl := Ch.repair_len _ s.data.toList (Nat.le_refl _)
    rw [← Lib.size_eq] at hrl
    have HR := Lib.hid (fun W => repair_to (s := s) rfl (by omega) W)
    have r1 := Ch.repair_again s.data.toList
    have r2 := Ch.repair_valid s.data.toList
    have r3 := Ch.repair_count s.data.toList
    have r4 := Ch.repair_iff s.data.toList
    have r5 := Ch.count_le s.data.toList
    rw [← Lib.size_eq] at r5
    have HCs := Lib.hid (fun W => count_to (s := s) rfl (by omega) W)
    have HVs := Lib.hid (fun W h => valid_to (s := s) rfl (by omega) W h)
    obtain ⟨L, hL⟩ : ∃ L, Ch.repair s.data.toList = L := ⟨_, rfl⟩
    obtain ⟨T, hT⟩ : ∃ T : ByteArray, (⟨L.toArray⟩ : ByteArray) = T := ⟨_, rfl⟩
    have hTl : T.data.toList = L := by rw [← hT]
    rw [hL] at HR hrl r1 r2 r3 r4
    rw [hT] at HR
    have hTs : T.size ≤ 8000 := by rw [← hT, mk_len]; omega
    have HR2 := Lib.hid (fun W => repair_to (s := T) (o := L) (by rw [hTl]; exact r1) (by omega) W)
    rw [hT] at HR2
    have HV2 := Lib.hid (fun W h => valid_to (s := T) (o := true) (by rw [hTl]; exact r2) (by omega) W h)
    obtain ⟨n, hn⟩ : ∃ n, Ch.count s.data.toList = n := ⟨_, rfl⟩
    obtain ⟨v, hv⟩ : ∃ v, Lib.validD s.data.toList = v := ⟨_, rfl⟩
    rw [hn] at HCs r3 r5
    rw [hv] at HVs r4
    have HC2 := Lib.hid (fun W => count_to (s := T) (o := n) (by rw [hTl]; exact r3) (by omega) W)
    have q1 : (T.toList == s.toList) = v := same_to (by rw [hTl]; exact r4)
    have q2 : (n : Int) ≤ (s.size : Int) := by omega
    have q3 : (T.toList == T.toList) = true := by simp
    clear hrl r1 r2 r3 r4 r5 hL hT hTl hn hv hTs h2 hle
    go_enter Tryz.func4, Tryz.ntmps4
    go_wp2_with fail
    refine HSm.out.mono ?_
    rintro e w1 ⟨rfl, hB1⟩
    have E1 := Lib.hid (E0.out.new hB1)
    go_wp2_with fail
    refine (HR.out _).mono ?_
    rintro e w2 ⟨rfl, hB2⟩
    have E2 := Lib.hid (E1.out.new hB2)
    have T2 := hB1.trans (hB2.mono hB1.size)
    go_wp2_with fail
    refine (HV2.out _ E2.out).mono ?_
    rintro e w3 ⟨rfl, hB3⟩
    have T3 := T2.trans (hB3.mono T2.size)
    have E3 := Lib.hid (E2.out.new hB3)
    go_wp2_with fail
    refine (HR2.out _).mono ?_
    rintro e w4 ⟨rfl, hB4⟩
    have T4 := T3.trans (hB4.mono T3.size)
    have E4 := Lib.hid (E3.out.new hB4)
    go_wp2_with fail
    refine (HC2.out _).mono ?_
    rintro e w5 ⟨rfl, hB5⟩
    have T5 := T4.trans (hB5.mono T4.size)
    have E5 := Lib.hid (E4.out.new hB5)
    go_wp2_with fail
    refine (HCs.out _).mono ?_
    rintro e w6 ⟨rfl, hB6⟩
    have T6 := T5.trans (hB6.mono T5.size)
    have E6 := Lib.hid (E5.out.new hB6)
    go_wp2_with fail
    refine (HVs.out _ E6.out).mono ?_
    rintro e w7 ⟨rfl, hB7⟩
    have T7 := T6.trans (hB7.mono T6.size)
    go_wp2_with fail
    refine (HCs.out _).mono ?_
    rintro e w8 ⟨rfl, hB8⟩
    have T8 := T7.trans (hB8.mono T7.size)
    go_wp2
    go_ret
    exact ⟨rfl, T8⟩
end Go.Proofs.YtdkocjdhekomoaaGreatDoor
