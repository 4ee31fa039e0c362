/-
  missivelaw08.CharsetSingles.
-/
import Derived.Test.YtdkocjdhekomoaaGreatDoorHRp
import Derived.BigRegion
import Derived.Deep.RegionWith
namespace Go.Proofs.YtdkocjdhekomoaaGreatDoor
open Go Go.RowKit Go.Shelf
/-- A character set of single bytes: its name, and what each byte stands for. -/
def OneSet (nm : ByteArray) (g : UInt8 → Nat) : Prop := nm.size ≤ 1000 ∧ (∀ c, Ch.okRune (g c)) ∧ ∀ l, Ch.utf8 nm.data.toList l = (Ch.mapB g l, true)
theorem one_name {nm : ByteArray} {g : UInt8 → Nat} {n : List UInt8} (h : Tx.lowL nm.data.toList = n) (hs : nm.size ≤ 1000) (hg : ∀ c, Ch.okRune (g c)) (hk : Ch.known n = true) (ht : ∀ l, Ch.textIn n l = Ch.mapB g l) : OneSet nm g :=
  ⟨hs, hg, fun l => by unfold Ch.utf8; rw [h, hk, ht]⟩
theorem setA : OneSet ⟨#[117, 115, 45, 97, 115, 99, 105, 105]⟩ Ch.gA := one_name (n := Ch.nA) (by decide) (by decide) Ch.okA (by decide) (fun l => rfl)
theorem setL : OneSet ⟨#[73, 115, 111, 45, 56, 56, 53, 57, 45, 49]⟩ Ch.gL := one_name (n := Ch.nL) (by decide) (by decide) Ch.okL (by decide) (fun l => rfl)
theorem setW : OneSet ⟨#[87, 73, 78, 68, 79, 87, 83, 45, 49, 50, 53, 50]⟩ Ch.gW := one_name (n := Ch.nW) (by decide) (by decide) Ch.okW (by decide) (fun l => rfl)
theorem setW2 : OneSet ⟨#[119, 105, 110, 100, 111, 119, 115, 45, 49, 50, 53, 50]⟩ Ch.gW := one_name (n := Ch.nW) (by decide) (by decide) Ch.okW (by decide) (fun l => rfl)
theorem one_to {nm s : ByteArray} {g : UInt8 → Nat} (h : OneSet nm g) (hs : s.size ≤ 1000000) (w : World) (hE : EnvH w) :
    Calls Tryz.prog 10 #[.string nm, .string s] w fun e w' => e = .returned (.tuple #[.string ⟨(Ch.mapB g s.data.toList).toArray⟩, .bool true]) ∧ Below w.heap.size w w' :=
  utf8_to (h.2.2 _) (by have := h.1; omega) hs w hE
theorem asc_A (c : UInt8) (h : c.toNat < 128) : Ch.gA c = c.toNat := by unfold Ch.gA; rw [if_pos h]
theorem asc_W (c : UInt8) (h : c.toNat < 128) : Ch.gW c = c.toNat := by unfold Ch.gW; rw [if_neg (by omega)]
def names3 : List ByteArray := [⟨#[117, 115, 45, 97, 115, 99, 105, 105]⟩, ⟨#[73, 115, 111, 45, 56, 56, 53, 57, 45, 49]⟩, ⟨#[87, 73, 78, 68, 79, 87, 83, 45, 49, 50, 53, 50]⟩]
set_option maxHeartbeats 8000000 in
set_option maxRecDepth 100000 in
theorem singles_law (s : ByteArray) (i1 : Int) (hi1 : (Lit.int .i64 i1).wf = true) (w : World) (hE : EnvH w) (hs : s.size ≤ 9223372036854775807) :
    Calls Tryz.prog 5 #[.string s, .int .i64 i1] w fun e w' => e = .returned (.bool true) ∧ Below w.heap.size w w' := by
  have HSm := Lib.hid (small_any w hE)
  have E0 := Lib.hid hE
  clear hE
  by_cases h1 : 1000 < (s.size : Int)
  · go_enter Tryz.func5, Tryz.ntmps5
    go_wp2_with (go_at_call 9; refine HSm.out.mono ?_; rintro e w1 ⟨rfl, hB1⟩)
    go_ret
    exact ⟨rfl, hB1⟩
  have j1 : (s.size : Int) ≤ 1000 := by omega
  by_cases h2 : i1 < 0
  · go_enter Tryz.func5, Tryz.ntmps5
    go_wp2_with (go_at_call 9; refine HSm.out.mono ?_; rintro e w1 ⟨rfl, hB1⟩)
    go_ret
    exact ⟨rfl, hB1⟩
  obtain ⟨m, rfl⟩ : ∃ m : Nat, i1 = (m : Int) := ⟨i1.toNat, by omega⟩
  by_cases h3 : s.size < m
  · have h4 : (s.size : Int) < (m : Int) := by omega
    go_enter Tryz.func5, Tryz.ntmps5
    go_wp2_with (go_at_call 9; refine HSm.out.mono ?_; rintro e w1 ⟨rfl, hB1⟩)
    go_ret
    exact ⟨rfl, hB1⟩
  have hm : m ≤ s.size := by omega
  have hm2 : (m : Int) ≤ (s.size : Int) := by omega
  go_enter Tryz.func5, Tryz.ntmps5
  go_wp2_with (go_at_call 9; refine HSm.out.mono ?_; rintro e w1 ⟨rfl, hB1⟩)
  have E1 := Lib.hid (E0.out.new hB1)
  have hBa : Below w.heap.size w (w1.alloc (.cells #[.string ⟨#[117, 115, 45, 97, 115, 99, 105, 105]⟩, .string ⟨#[73, 115, 111, 45, 56, 56, 53, 57, 45, 49]⟩, .string ⟨#[87, 73, 78, 68, 79, 87, 83, 45, 49, 50, 53, 50]⟩] 9)) := hB1.alloc hB1.size _
  have hnb : (w1.alloc (.cells #[.string ⟨#[117, 115, 45, 97, 115, 99, 105, 105]⟩, .string ⟨#[73, 115, 111, 45, 56, 56, 53, 57, 45, 49]⟩, .string ⟨#[87, 73, 78, 68, 79, 87, 83, 45, 49, 50, 53, 50]⟩] 9)).heap[w1.heap.size]? = some (.cells (names3.map Value.string).toArray 9 (0, 0)) := World.alloc_heap_new w1 _
  go_loopw [7] (fun i wr => ∃ k : Nat, i = .int .i64 k ∧ k ≤ 3 ∧ Below w.heap.size w wr ∧ wr.heap[w1.heap.size]? = some (.cells (names3.map Value.string).toArray 9 (0, 0))) (fun i _ => 3 - (intOf i).toNat)
  case atStart => exact ⟨0, rfl, by omega, hBa, hnb⟩
  case round =>
    obtain ⟨k, rfl, hk, hBr, hbl⟩ := hrel
    clear hBa hnb
    by_cases hlt : k < 3
    · obtain ⟨nm, g, hnm, hset⟩ : ∃ nm g, names3[k]? = some nm ∧ OneSet nm g := by
        match k, hlt with
        | 0, _ => exact ⟨_, _, rfl, setA⟩
        | 1, _ => exact ⟨_, _, rfl, setL⟩
        | 2, _ => exact ⟨_, _, rfl, setW⟩
      have hcell : ∀ W, Below wr.heap.size wr W → W.cell? ⟨w1.heap.size, k, none⟩ = some (.string nm) := fun W hW => by
        have hb : W.heap[w1.heap.size]? = _ := (hW.block _ (Array.getElem?_eq_some_iff.1 hbl).1).trans hbl
        simp [World.cell?, hb, hnm]
      have hc0 := hcell wr (Below.refl _ _)
      have HC := Lib.hid hcell
      have Er := Lib.hid (E0.out.below hBr E0.out.size)
      have HU1 := Lib.hid (fun W h => one_to (s := s) hset (by omega) W h)
      have HU2 := Lib.hid (fun W h => one_to (s := s.extract 0 m) hset (by rw [Lib.size_eq, extract_eq, List.drop_zero, List.length_take, ← Lib.size_eq]; omega) W h)
      have HU3 := Lib.hid (fun W h => one_to (s := s.extract m s.size) hset (by rw [Lib.size_eq, extract_end, List.length_drop, ← Lib.size_eq]; omega) W h)
      obtain ⟨A, hA⟩ : ∃ A : ByteArray, (⟨(Ch.mapB g s.data.toList).toArray⟩ : ByteArray) = A := ⟨_, rfl⟩
      obtain ⟨B, hB⟩ : ∃ B : ByteArray, (⟨(Ch.mapB g (s.extract 0 m).data.toList).toArray⟩ : ByteArray) = B := ⟨_, rfl⟩
      obtain ⟨C, hC⟩ : ∃ C : ByteArray, (⟨(Ch.mapB g (s.extract m s.size).data.toList).toArray⟩ : ByteArray) = C := ⟨_, rfl⟩
      obtain ⟨hv, hn⟩ := Ch.single g hset.2.1 s.data.toList
      have hAl : A.data.toList = Ch.mapB g s.data.toList := by rw [← hA]
      have hAs : A.size ≤ 4000 := by rw [Lib.size_eq, hAl]; have := mapB_len g s.data.toList; rw [← Lib.size_eq] at this; omega
      have hABC : (A.toList == (B ++ C).toList) = true := by
        refine same_to ?_
        have : (B ++ C).data.toList = A.data.toList := by
          rw [hAl, ← hB, ← hC, extract_eq, extract_end, List.drop_zero]
          simp only [ByteArray.data_append, Array.toList_append]
          rw [← Ch.mapB_append, List.take_append_drop]
        rw [this]; simp
      have hBs : B.size ≤ 4000 := by rw [← hB, mk_len, extract_eq, List.drop_zero]; have := mapB_len g (s.data.toList.take m); rw [List.length_take, ← Lib.size_eq] at this; omega
      have hCs : C.size ≤ 4000 := by rw [← hC, mk_len, extract_end]; have := mapB_len g (s.data.toList.drop m); rw [List.length_drop, ← Lib.size_eq] at this; omega
      have HV := Lib.hid (fun W h => valid_to (s := A) (o := true) (by rw [hAl]; exact hv) (by omega) W h)
      have HN := Lib.hid (fun W => count_to (s := A) (o := s.size) (by rw [hAl, hn, ← Lib.size_eq]) (by omega) W)
      rw [hA] at HU1
      rw [hB] at HU2
      rw [hC] at HU3
      have HBL := Lib.hid hbl
      clear hA hB hC hv hn hAl hset hcell hnm hbl h1 h2 h3
      go_wp2_with (go_at_call 10; refine (HU1.out _ Er.out).mono ?_; rintro e w2 ⟨rfl, hB2⟩)
      have E2 := Lib.hid (Er.out.new hB2)
      have E2d : Hid (EnvH w2.drew) := Lib.hid (E2.out.below (below_drews (Below.refl _ w2) 1) E2.out.size)
      have hc2 := HC.out w2 hB2
      have hc2d : w2.drew.cell? ⟨w1.heap.size, k, none⟩ = some (.string nm) := hc2
      go_region_with (first
        | (go_at_call 10; refine (HU2.out _ E2d.out).mono ?_; rintro e w3 ⟨rfl, hB3⟩)
        | fail)
      have B23 : Below wr.heap.size wr w3 := hB2.trans ((below_drews (Below.refl wr.heap.size w2) 1).trans (hB3.mono hB2.size))
      have E3d : Hid (EnvH w3.drew) := Lib.hid ((Er.out.new B23).below (below_drews (Below.refl _ w3) 1) (Er.out.new B23).size)
      have hc3 := HC.out w3 B23
      have hc3d : w3.drew.cell? ⟨w1.heap.size, k, none⟩ = some (.string nm) := hc3
      go_wp2
      go_region_with (first
        | (go_at_call 10; refine (HU3.out _ E3d.out).mono ?_; rintro e w4 ⟨rfl, hB4⟩)
        | fail)
      have B24 : Below wr.heap.size wr w4 := B23.trans ((below_drews (Below.refl wr.heap.size w3) 1).trans (hB4.mono B23.size))
      have E4 := Lib.hid (Er.out.new B24)
      go_wp2_with (first
        | (go_at_call 12; refine (HV.out _ E4.out).mono ?_; rintro e w5 ⟨rfl, hB5⟩; have B25 := B24.trans (hB5.mono B24.size))
        | (go_at_call 14; refine (HN.out _).mono ?_; rintro e w6 ⟨rfl, hB6⟩; have B26 := B25.trans (hB6.mono B25.size)))
      exact ⟨⟨k + 1, by go_num, by omega, hBr.trans (B26.mono hBr.size), (B26.block _ (Array.getElem?_eq_some_iff.1 HBL.out).1).trans HBL.out⟩, by simp [intOf]; omega⟩
    · obtain rfl : k = 3 := by omega
      go_wp2
      go_loopw [14] (fun i wx => ∃ j : Nat, i = .int .i64 j ∧ j ≤ s.size ∧ wx = wr ∧ Hid (∀ c ∈ s.data.toList.take j, c.toNat < 128)) (fun i _ => s.size - (intOf i).toNat)
      case atStart => exact ⟨0, rfl, Nat.zero_le _, rfl, fun c hc => by cases hc⟩
      case round =>
        obtain ⟨j, rfl, hj, rfl, hno⟩ := hrel
        by_cases hlt : j < s.size
        · have hg := Tx.get_of s j hlt
          obtain ⟨c, hc⟩ : ∃ c, s[j] = c := ⟨_, rfl⟩
          rw [hc] at hg
          by_cases hc8 : 128 ≤ c.toNat
          · have q8 : (128 : Int) ≤ (c.toNat : Int) := by omega
            clear hg hc8 hno
            go_wp2
            go_ret
            exact ⟨rfl, hBr⟩
          · have q8 : ¬ ((128 : Int) ≤ (c.toNat : Int)) := by omega
            have HN : Hid (∀ x ∈ s.data.toList.take (j + 1), x.toNat < 128) := Lib.hid fun x hx => by
              rw [List.take_add_one, hg] at hx
              rcases List.mem_append.1 hx with h | h
              · exact hno.out x h
              · simp at h; rw [h]; omega
            clear hg hc8 hno
            go_wp2
            go_roundw
            case rel => exact ⟨j + 1, by go_num, by omega, (by first | rfl | trivial), HN.out⟩
            case measure => simp [intOf]; omega
        · obtain rfl : j = s.size := by omega
          have hno2 := hno.out
          rw [List.take_of_length_le (by rw [← Lib.size_eq]; exact Nat.le_refl _)] at hno2
          have HA := Lib.hid (fun W h => one_to (s := s) setA (by omega) W h)
          have HW := Lib.hid (fun W h => one_to (s := s) setW2 (by omega) W h)
          rw [Ch.single_ascii _ asc_A _ hno2, Lib.mk_data] at HA
          rw [Ch.single_ascii _ asc_W _ hno2, Lib.mk_data] at HW
          have r1 : (s.toList == s.toList) = true := by simp
          have Er := Lib.hid (E0.out.below hBr E0.out.size)
          clear hno hno2
          go_wp2_with (first
            | (go_at_call 10; with_reducible refine (HA.out _ Er.out).mono ?_; rintro e w5 ⟨rfl, hB5⟩; have T5 := hBr.trans (hB5.mono hBr.size); have E5 := Lib.hid (Er.out.new hB5))
            | (go_at_call 10; with_reducible refine (HW.out _ E5.out).mono ?_; rintro e w6 ⟨rfl, hB6⟩; have T6 := T5.trans (hB6.mono T5.size)))
          go_ret
          exact ⟨rfl, T6⟩
end Go.Proofs.YtdkocjdhekomoaaGreatDoor
