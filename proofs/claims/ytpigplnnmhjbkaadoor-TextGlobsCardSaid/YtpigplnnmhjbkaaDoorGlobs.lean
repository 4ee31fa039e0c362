/-
  The law on patterns: its walk.
-/
import Derived.Test.YtpigplnnmhjbkaaDoorGlobsP
namespace Go.Proofs.YtpigplnnmhjbkaaDoor
open Go Go.RowKit Go.Shelf

theorem globG {P s : ByteArray} {g : Bool} (hg : Tx.glob P.data.toList s.data.toList = g) (hP : P.size ≤ 1000000) (hs : s.size ≤ 1000000) (W : World) :
    Calls Tryd.prog 31 #[.string P, .string s] W fun e w' => e = .returned (.bool g) ∧ ∃ n, w' = W.drewN n :=
  (glob_any P s W hP hs).mono fun _ _ ⟨h1, h2⟩ => ⟨by rw [h1, hg], h2⟩
theorem sameG {a b : ByteArray} {g : Bool} (hg : Tx.same a.data.toList b.data.toList = g) (ha : a.size ≤ 9223372036854775807) (W : World) :
    Calls Tryd.prog 16 #[.string a, .string b] W fun e w' => e = .returned (.bool g) ∧ ∃ n, w' = W.drewN n :=
  (same_any a b W ha).mono fun _ _ ⟨h1, h2⟩ => ⟨by rw [h1, hg], h2⟩

/-- A call that only draws, in a quiet region behind another one. -/
theorem quiet_mores {P : Program} {f : FuncId} {args : Array Value} {w : World} {a n : Nat} {v : Value} (h : ∀ W : World, Calls P f args W fun e w' => e = .returned v ∧ ∃ k, w' = W.drewN k) :
    Calls P f args (w.drewN (a + n)) fun e w' => e = .returned v ∧ ∃ m, w' = w.drewN (a + m) :=
  (h _).mono fun _ _ ⟨h1, k, h2⟩ => ⟨h1, n + k, by rw [h2, World.drewN_drewN, Nat.add_assoc]⟩
namespace Tx
/-- Whether the first k bytes of a pattern are plain. -/
def PlainTo (P : ByteArray) (k : Nat) (b : Bool) : Prop := (P.data.toList.take k).all plainB = b
theorem not_empty (P : ByteArray) (h : 0 < P.size) : P.toList.isEmpty = false := by
  rw [Lib.toList_data]
  cases e : P.data.toList with
  | nil => have := Lib.size_eq P; rw [e, List.length_nil] at this; omega
  | cons _ _ => rfl
theorem is_empty (P : ByteArray) (h : P.size = 0) : P.toList.isEmpty = true := by
  rw [Lib.toList_data]
  cases e : P.data.toList with
  | nil => rfl
  | cons _ _ => have := Lib.size_eq P; rw [e, List.length_cons] at this; omega
end Tx
theorem globWrap (P s : ByteArray) (hg : Tx.glob P.data.toList s.data.toList = true) (hP : P.size ≤ 60) (hs : s.size ≤ 60) (W : World) :
    Calls Tryd.prog 31 #[.string (⟨#[42]⟩ ++ P ++ ⟨#[42]⟩), .string (⟨#[120]⟩ ++ s ++ ⟨#[121]⟩)] W fun e w' => e = .returned (.bool true) ∧ ∃ n, w' = W.drewN n :=
  globG (by
    have := Tx.glob_wrap P.data.toList s.data.toList hg
    simpa using this) (by have e : (⟨#[42]⟩ : ByteArray).size = 1 := rfl; simp only [ByteArray.size_append, e]; omega) (by have e : (⟨#[120]⟩ : ByteArray).size = 1 := rfl; have e2 : (⟨#[121]⟩ : ByteArray).size = 1 := rfl; simp only [ByteArray.size_append, e, e2]; omega) W

set_option maxHeartbeats 4000000 in
set_option maxRecDepth 100000 in
theorem globs_1 (P s : ByteArray) (w : World) (hm : MaxAt w) (hP0 : 0 < P.size) (hP : P.size ≤ 60) (hs : s.size ≤ 60) (hc : P[0] = 42) (hr : Tx.glob (P.extract 1 P.size).data.toList s.data.toList = true) (hg : Tx.glob P.data.toList s.data.toList = true) :
    Calls Tryd.prog 8 #[.string P, .string s] w fun e w' => e = .returned (.bool true) ∧ Below w.heap.size w w' := by
  have hemp : P.toList.isEmpty = false := Tx.not_empty P hP0
  have hHG := Lib.hid (fun W => globG hg (by omega) (by omega) W)
  have HGG := Lib.hid hg
  have HWR := Lib.hid (fun W => globWrap P s hg (by omega) (by omega) W)
  have hc42 : (((P[0]'hP0).toNat : Int) == 42) = true := by rw [hc]; rfl
  clear hc
  have hHR := Lib.hid (fun W => globG hr (by simp; omega) (by omega) W)
  clear hr
  have HM := Lib.hid hm
  clear hg hm
  go_enter Tryd.func8, Tryd.ntmps8
  go_wp2_with fail
  refine (small_any _ HM.out).mono ?_
  rintro e w1 ⟨rfl, hB1⟩
  go_wp2_with fail
  refine (hHG.out _).mono ?_
  rintro e w2 ⟨rfl, n2, rfl⟩
  go_wp2_with fail
  refine (hHR.out _).mono ?_
  rintro e w3 ⟨rfl, n3, rfl⟩
  go_wp2_with fail
  go_loop [9, 10] (fun b i => ∃ (k : Nat) (b0 : Bool), k ≤ P.size ∧ i = .int .i64 k ∧ b = .bool b0 ∧ Tx.PlainTo P k b0) (fun _ i => P.size - (intOf i).toNat)
  case atStart => exact ⟨0, true, Nat.zero_le _, rfl, rfl, rfl⟩
  case round =>
    obtain ⟨k, b0, hk, rfl, rfl, HB0⟩ := hrel
    by_cases hlt : k < P.size
    · have HS := Lib.hid (Tx.take_snoc P k hlt)
      obtain ⟨c, hck⟩ : ∃ c, P[k] = c := ⟨_, rfl⟩
      rw [hck] at HS
      have hnext : Hid ((P.data.toList.take (k + 1)).all Tx.plainB = (b0 && Tx.plainB c)) := by show _ = _; rw [HS.out, List.all_append, show (P.data.toList.take k).all Tx.plainB = b0 from HB0]; simp
      cases b0
      · have HQ : Tx.PlainTo P (k + 1) false := by show (P.data.toList.take (k + 1)).all Tx.plainB = _; rw [hnext.out]; rfl
        go_wp2
        go_round
        case rel => first | exact ⟨k + 1, false, by omega, by go_num, rfl, HQ⟩ | exact ⟨k + 1, by omega, by go_num, HQ⟩
        case measure => simp [intOf]; omega
      · by_cases h42 : c = 42
        · have e1 : ((c.toNat : Int) != 42) = false := by rw [h42]; rfl
          have hpl : Hid (Tx.plainB c = false) := by show _ = _; rw [h42]; rfl
          have HQ : Tx.PlainTo P (k + 1) false := by show (P.data.toList.take (k + 1)).all Tx.plainB = _; rw [hnext.out, hpl.out]; rfl
          clear h42
          go_wp2
          go_round
          case rel => first | exact ⟨k + 1, false, by omega, by go_num, rfl, HQ⟩ | exact ⟨k + 1, by omega, by go_num, HQ⟩
          case measure => simp [intOf]; omega
        · have e1 : ((c.toNat : Int) != 42) = true := by rw [bne_iff_ne]; intro e; exact h42 (by rw [← UInt8.toNat_inj]; simp; omega)
          by_cases h63 : c = 63
          · have e2 : ((c.toNat : Int) != 63) = false := by rw [h63]; rfl
            have hpl : Hid (Tx.plainB c = false) := by show _ = _; rw [h63]; rfl
            have HQ : Tx.PlainTo P (k + 1) false := by show (P.data.toList.take (k + 1)).all Tx.plainB = _; rw [hnext.out, hpl.out]; rfl
            clear h42 h63
            go_wp2
            go_round
            case rel => first | exact ⟨k + 1, false, by omega, by go_num, rfl, HQ⟩ | exact ⟨k + 1, by omega, by go_num, HQ⟩
            case measure => simp [intOf]; omega
          · have e2 : ((c.toNat : Int) != 63) = true := by rw [bne_iff_ne]; intro e; exact h63 (by rw [← UInt8.toNat_inj]; simp; omega)
            have hpl : Hid (Tx.plainB c = true) := by show _ = _; simp [Tx.plainB, h42, h63]
            have HQ : Tx.PlainTo P (k + 1) true := by show (P.data.toList.take (k + 1)).all Tx.plainB = _; rw [hnext.out, hpl.out]; rfl
            clear h42 h63
            go_wp2
            go_round
            case rel => first | exact ⟨k + 1, true, by omega, by go_num, rfl, HQ⟩ | exact ⟨k + 1, by omega, by go_num, HQ⟩
            case measure => simp [intOf]; omega
    · have hall : P.data.toList.take k = P.data.toList := List.take_of_length_le (by rw [← Lib.size_eq]; omega)
      have HA : Hid (P.data.toList.all Tx.plainB = b0) := by have : (P.data.toList.take k).all Tx.plainB = b0 := HB0; rw [hall] at this; exact this
      clear hall
      have HST := Lib.hid (fun W => globG (P := ⟨#[42]⟩) (s := s) (Tx.glob_one s.data.toList) (by decide) (by omega) W)
      cases b0
      · go_wp2_with fail
        refine (HST.out _).mono ?_
        rintro e w4 ⟨rfl, n4, rfl⟩
        go_wp2_with fail
        refine (hHG.out _).mono ?_
        rintro e w5 ⟨rfl, n5, rfl⟩
        go_wp2_with fail
        refine (HWR.out _).mono ?_
        rintro e w7 ⟨rfl, n7, rfl⟩
        go_wp2
        go_ret
        exact ⟨rfl, below_drews hB1 _⟩
      · have hsame := Lib.hid (fun W => sameG (a := P) (b := s) ((Tx.glob_plain P.data.toList s.data.toList HA.out).symm.trans HGG.out) (by omega) W)
        go_wp2_with fail
        refine (hsame.out _).mono ?_
        rintro e w6 ⟨rfl, n6, rfl⟩
        go_wp2_with fail
        refine (HST.out _).mono ?_
        rintro e w4 ⟨rfl, n4, rfl⟩
        go_wp2_with fail
        refine (hHG.out _).mono ?_
        rintro e w5 ⟨rfl, n5, rfl⟩
        go_wp2_with fail
        refine (HWR.out _).mono ?_
        rintro e w7 ⟨rfl, n7, rfl⟩
        go_wp2
        go_ret
        exact ⟨rfl, below_drews hB1 _⟩
set_option maxHeartbeats 4000000 in
set_option maxRecDepth 100000 in
theorem globs_2t (P s : ByteArray) (w : World) (hm : MaxAt w) (hP0 : 0 < P.size) (hP : P.size ≤ 60) (hs : s.size ≤ 60) (hc : P[0] = 42) (hr : Tx.glob (P.extract 1 P.size).data.toList s.data.toList = false) (hs0 : 0 < s.size) (hg2 : Tx.glob P.data.toList (s.extract 1 s.size).data.toList = true) (hg : Tx.glob P.data.toList s.data.toList = true) :
    Calls Tryd.prog 8 #[.string P, .string s] w fun e w' => e = .returned (.bool true) ∧ Below w.heap.size w w' := by
  have hemp : P.toList.isEmpty = false := Tx.not_empty P hP0
  have hHG := Lib.hid (fun W => globG hg (by omega) (by omega) W)
  have HGG := Lib.hid hg
  have HWR := Lib.hid (fun W => globWrap P s hg (by omega) (by omega) W)
  have hc42 : (((P[0]'hP0).toNat : Int) == 42) = true := by rw [hc]; rfl
  clear hc
  have hHR := Lib.hid (fun W => globG hr (by simp; omega) (by omega) W)
  clear hr
  have hsne : s.toList.isEmpty = false := Tx.not_empty s hs0
  have hH2 := Lib.hid (fun W => globG hg2 (by omega) (by simp; omega) W)
  clear hg2
  have HM := Lib.hid hm
  clear hg hm
  go_enter Tryd.func8, Tryd.ntmps8
  go_wp2_with fail
  refine (small_any _ HM.out).mono ?_
  rintro e w1 ⟨rfl, hB1⟩
  go_wp2_with fail
  refine (hHG.out _).mono ?_
  rintro e w2 ⟨rfl, n2, rfl⟩
  go_wp2_with fail
  refine (hHR.out _).mono ?_
  rintro e w3 ⟨rfl, n3, rfl⟩
  go_wp2_with fail
  refine (hH2.out _).mono ?_
  rintro e w8 ⟨rfl, n8, rfl⟩
  go_wp2_with fail
  go_loop [9, 10] (fun b i => ∃ (k : Nat) (b0 : Bool), k ≤ P.size ∧ i = .int .i64 k ∧ b = .bool b0 ∧ Tx.PlainTo P k b0) (fun _ i => P.size - (intOf i).toNat)
  case atStart => exact ⟨0, true, Nat.zero_le _, rfl, rfl, rfl⟩
  case round =>
    obtain ⟨k, b0, hk, rfl, rfl, HB0⟩ := hrel
    by_cases hlt : k < P.size
    · have HS := Lib.hid (Tx.take_snoc P k hlt)
      obtain ⟨c, hck⟩ : ∃ c, P[k] = c := ⟨_, rfl⟩
      rw [hck] at HS
      have hnext : Hid ((P.data.toList.take (k + 1)).all Tx.plainB = (b0 && Tx.plainB c)) := by show _ = _; rw [HS.out, List.all_append, show (P.data.toList.take k).all Tx.plainB = b0 from HB0]; simp
      cases b0
      · have HQ : Tx.PlainTo P (k + 1) false := by show (P.data.toList.take (k + 1)).all Tx.plainB = _; rw [hnext.out]; rfl
        go_wp2
        go_round
        case rel => first | exact ⟨k + 1, false, by omega, by go_num, rfl, HQ⟩ | exact ⟨k + 1, by omega, by go_num, HQ⟩
        case measure => simp [intOf]; omega
      · by_cases h42 : c = 42
        · have e1 : ((c.toNat : Int) != 42) = false := by rw [h42]; rfl
          have hpl : Hid (Tx.plainB c = false) := by show _ = _; rw [h42]; rfl
          have HQ : Tx.PlainTo P (k + 1) false := by show (P.data.toList.take (k + 1)).all Tx.plainB = _; rw [hnext.out, hpl.out]; rfl
          clear h42
          go_wp2
          go_round
          case rel => first | exact ⟨k + 1, false, by omega, by go_num, rfl, HQ⟩ | exact ⟨k + 1, by omega, by go_num, HQ⟩
          case measure => simp [intOf]; omega
        · have e1 : ((c.toNat : Int) != 42) = true := by rw [bne_iff_ne]; intro e; exact h42 (by rw [← UInt8.toNat_inj]; simp; omega)
          by_cases h63 : c = 63
          · have e2 : ((c.toNat : Int) != 63) = false := by rw [h63]; rfl
            have hpl : Hid (Tx.plainB c = false) := by show _ = _; rw [h63]; rfl
            have HQ : Tx.PlainTo P (k + 1) false := by show (P.data.toList.take (k + 1)).all Tx.plainB = _; rw [hnext.out, hpl.out]; rfl
            clear h42 h63
            go_wp2
            go_round
            case rel => first | exact ⟨k + 1, false, by omega, by go_num, rfl, HQ⟩ | exact ⟨k + 1, by omega, by go_num, HQ⟩
            case measure => simp [intOf]; omega
          · have e2 : ((c.toNat : Int) != 63) = true := by rw [bne_iff_ne]; intro e; exact h63 (by rw [← UInt8.toNat_inj]; simp; omega)
            have hpl : Hid (Tx.plainB c = true) := by show _ = _; simp [Tx.plainB, h42, h63]
            have HQ : Tx.PlainTo P (k + 1) true := by show (P.data.toList.take (k + 1)).all Tx.plainB = _; rw [hnext.out, hpl.out]; rfl
            clear h42 h63
            go_wp2
            go_round
            case rel => first | exact ⟨k + 1, true, by omega, by go_num, rfl, HQ⟩ | exact ⟨k + 1, by omega, by go_num, HQ⟩
            case measure => simp [intOf]; omega
    · have hall : P.data.toList.take k = P.data.toList := List.take_of_length_le (by rw [← Lib.size_eq]; omega)
      have HA : Hid (P.data.toList.all Tx.plainB = b0) := by have : (P.data.toList.take k).all Tx.plainB = b0 := HB0; rw [hall] at this; exact this
      clear hall
      have HST := Lib.hid (fun W => globG (P := ⟨#[42]⟩) (s := s) (Tx.glob_one s.data.toList) (by decide) (by omega) W)
      cases b0
      · go_wp2_with fail
        refine (HST.out _).mono ?_
        rintro e w4 ⟨rfl, n4, rfl⟩
        go_wp2_with fail
        refine (hHG.out _).mono ?_
        rintro e w5 ⟨rfl, n5, rfl⟩
        go_wp2_with fail
        refine (HWR.out _).mono ?_
        rintro e w7 ⟨rfl, n7, rfl⟩
        go_wp2
        go_ret
        exact ⟨rfl, below_drews hB1 _⟩
      · have hsame := Lib.hid (fun W => sameG (a := P) (b := s) ((Tx.glob_plain P.data.toList s.data.toList HA.out).symm.trans HGG.out) (by omega) W)
        go_wp2_with fail
        refine (hsame.out _).mono ?_
        rintro e w6 ⟨rfl, n6, rfl⟩
        go_wp2_with fail
        refine (HST.out _).mono ?_
        rintro e w4 ⟨rfl, n4, rfl⟩
        go_wp2_with fail
        refine (hHG.out _).mono ?_
        rintro e w5 ⟨rfl, n5, rfl⟩
        go_wp2_with fail
        refine (HWR.out _).mono ?_
        rintro e w7 ⟨rfl, n7, rfl⟩
        go_wp2
        go_ret
        exact ⟨rfl, below_drews hB1 _⟩
set_option maxHeartbeats 4000000 in
set_option maxRecDepth 100000 in
theorem globs_2f (P s : ByteArray) (w : World) (hm : MaxAt w) (hP0 : 0 < P.size) (hP : P.size ≤ 60) (hs : s.size ≤ 60) (hc : P[0] = 42) (hr : Tx.glob (P.extract 1 P.size).data.toList s.data.toList = false) (hs0 : 0 < s.size) (hg2 : Tx.glob P.data.toList (s.extract 1 s.size).data.toList = false) (hg : Tx.glob P.data.toList s.data.toList = false) :
    Calls Tryd.prog 8 #[.string P, .string s] w fun e w' => e = .returned (.bool true) ∧ Below w.heap.size w w' := by
  have hemp : P.toList.isEmpty = false := Tx.not_empty P hP0
  have hHG := Lib.hid (fun W => globG hg (by omega) (by omega) W)
  have HGG := Lib.hid hg
  have hc42 : (((P[0]'hP0).toNat : Int) == 42) = true := by rw [hc]; rfl
  clear hc
  have hHR := Lib.hid (fun W => globG hr (by simp; omega) (by omega) W)
  clear hr
  have hsne : s.toList.isEmpty = false := Tx.not_empty s hs0
  have hH2 := Lib.hid (fun W => globG hg2 (by omega) (by simp; omega) W)
  clear hg2
  have HM := Lib.hid hm
  clear hg hm
  go_enter Tryd.func8, Tryd.ntmps8
  go_wp2_with fail
  refine (small_any _ HM.out).mono ?_
  rintro e w1 ⟨rfl, hB1⟩
  go_wp2_with fail
  refine (hHG.out _).mono ?_
  rintro e w2 ⟨rfl, n2, rfl⟩
  go_wp2_with fail
  refine (hHR.out _).mono ?_
  rintro e w3 ⟨rfl, n3, rfl⟩
  go_wp2_with fail
  refine (hH2.out _).mono ?_
  rintro e w8 ⟨rfl, n8, rfl⟩
  go_wp2_with fail
  go_loop [9, 10] (fun b i => ∃ (k : Nat) (b0 : Bool), k ≤ P.size ∧ i = .int .i64 k ∧ b = .bool b0 ∧ Tx.PlainTo P k b0) (fun _ i => P.size - (intOf i).toNat)
  case atStart => exact ⟨0, true, Nat.zero_le _, rfl, rfl, rfl⟩
  case round =>
    obtain ⟨k, b0, hk, rfl, rfl, HB0⟩ := hrel
    by_cases hlt : k < P.size
    · have HS := Lib.hid (Tx.take_snoc P k hlt)
      obtain ⟨c, hck⟩ : ∃ c, P[k] = c := ⟨_, rfl⟩
      rw [hck] at HS
      have hnext : Hid ((P.data.toList.take (k + 1)).all Tx.plainB = (b0 && Tx.plainB c)) := by show _ = _; rw [HS.out, List.all_append, show (P.data.toList.take k).all Tx.plainB = b0 from HB0]; simp
      cases b0
      · have HQ : Tx.PlainTo P (k + 1) false := by show (P.data.toList.take (k + 1)).all Tx.plainB = _; rw [hnext.out]; rfl
        go_wp2
        go_round
        case rel => first | exact ⟨k + 1, false, by omega, by go_num, rfl, HQ⟩ | exact ⟨k + 1, by omega, by go_num, HQ⟩
        case measure => simp [intOf]; omega
      · by_cases h42 : c = 42
        · have e1 : ((c.toNat : Int) != 42) = false := by rw [h42]; rfl
          have hpl : Hid (Tx.plainB c = false) := by show _ = _; rw [h42]; rfl
          have HQ : Tx.PlainTo P (k + 1) false := by show (P.data.toList.take (k + 1)).all Tx.plainB = _; rw [hnext.out, hpl.out]; rfl
          clear h42
          go_wp2
          go_round
          case rel => first | exact ⟨k + 1, false, by omega, by go_num, rfl, HQ⟩ | exact ⟨k + 1, by omega, by go_num, HQ⟩
          case measure => simp [intOf]; omega
        · have e1 : ((c.toNat : Int) != 42) = true := by rw [bne_iff_ne]; intro e; exact h42 (by rw [← UInt8.toNat_inj]; simp; omega)
          by_cases h63 : c = 63
          · have e2 : ((c.toNat : Int) != 63) = false := by rw [h63]; rfl
            have hpl : Hid (Tx.plainB c = false) := by show _ = _; rw [h63]; rfl
            have HQ : Tx.PlainTo P (k + 1) false := by show (P.data.toList.take (k + 1)).all Tx.plainB = _; rw [hnext.out, hpl.out]; rfl
            clear h42 h63
            go_wp2
            go_round
            case rel => first | exact ⟨k + 1, false, by omega, by go_num, rfl, HQ⟩ | exact ⟨k + 1, by omega, by go_num, HQ⟩
            case measure => simp [intOf]; omega
          · have e2 : ((c.toNat : Int) != 63) = true := by rw [bne_iff_ne]; intro e; exact h63 (by rw [← UInt8.toNat_inj]; simp; omega)
            have hpl : Hid (Tx.plainB c = true) := by show _ = _; simp [Tx.plainB, h42, h63]
            have HQ : Tx.PlainTo P (k + 1) true := by show (P.data.toList.take (k + 1)).all Tx.plainB = _; rw [hnext.out, hpl.out]; rfl
            clear h42 h63
            go_wp2
            go_round
            case rel => first | exact ⟨k + 1, true, by omega, by go_num, rfl, HQ⟩ | exact ⟨k + 1, by omega, by go_num, HQ⟩
            case measure => simp [intOf]; omega
    · have hall : P.data.toList.take k = P.data.toList := List.take_of_length_le (by rw [← Lib.size_eq]; omega)
      have HA : Hid (P.data.toList.all Tx.plainB = b0) := by have : (P.data.toList.take k).all Tx.plainB = b0 := HB0; rw [hall] at this; exact this
      clear hall
      have HST := Lib.hid (fun W => globG (P := ⟨#[42]⟩) (s := s) (Tx.glob_one s.data.toList) (by decide) (by omega) W)
      cases b0
      · go_wp2_with fail
        refine (HST.out _).mono ?_
        rintro e w4 ⟨rfl, n4, rfl⟩
        go_wp2_with fail
        refine (hHG.out _).mono ?_
        rintro e w5 ⟨rfl, n5, rfl⟩
        go_wp2
        go_ret
        exact ⟨rfl, below_drews hB1 _⟩
      · have hsame := Lib.hid (fun W => sameG (a := P) (b := s) ((Tx.glob_plain P.data.toList s.data.toList HA.out).symm.trans HGG.out) (by omega) W)
        go_wp2_with fail
        refine (hsame.out _).mono ?_
        rintro e w6 ⟨rfl, n6, rfl⟩
        go_wp2_with fail
        refine (HST.out _).mono ?_
        rintro e w4 ⟨rfl, n4, rfl⟩
        go_wp2_with fail
        refine (hHG.out _).mono ?_
        rintro e w5 ⟨rfl, n5, rfl⟩
        go_wp2
        go_ret
        exact ⟨rfl, below_drews hB1 _⟩
set_option maxHeartbeats 4000000 in
set_option maxRecDepth 100000 in
theorem globs_3 (P s : ByteArray) (w : World) (hm : MaxAt w) (hP0 : 0 < P.size) (hP : P.size ≤ 60) (_hs : s.size ≤ 60) (hc : P[0] = 42) (hr : Tx.glob (P.extract 1 P.size).data.toList s.data.toList = false) (hs0 : s.size = 0) (hg : Tx.glob P.data.toList s.data.toList = false) :
    Calls Tryd.prog 8 #[.string P, .string s] w fun e w' => e = .returned (.bool true) ∧ Below w.heap.size w w' := by
  have hemp : P.toList.isEmpty = false := Tx.not_empty P hP0
  have hHG := Lib.hid (fun W => globG hg (by omega) (by omega) W)
  have HGG := Lib.hid hg
  have hc42 : (((P[0]'hP0).toNat : Int) == 42) = true := by rw [hc]; rfl
  clear hc
  have hHR := Lib.hid (fun W => globG hr (by simp; omega) (by omega) W)
  clear hr
  have hse : s.toList.isEmpty = true := Tx.is_empty s hs0
  have HM := Lib.hid hm
  clear hg hm
  go_enter Tryd.func8, Tryd.ntmps8
  go_wp2_with fail
  refine (small_any _ HM.out).mono ?_
  rintro e w1 ⟨rfl, hB1⟩
  go_wp2_with fail
  refine (hHG.out _).mono ?_
  rintro e w2 ⟨rfl, n2, rfl⟩
  go_wp2_with fail
  refine (hHR.out _).mono ?_
  rintro e w3 ⟨rfl, n3, rfl⟩
  go_wp2_with fail
  go_loop [9, 10] (fun b i => ∃ (k : Nat) (b0 : Bool), k ≤ P.size ∧ i = .int .i64 k ∧ b = .bool b0 ∧ Tx.PlainTo P k b0) (fun _ i => P.size - (intOf i).toNat)
  case atStart => exact ⟨0, true, Nat.zero_le _, rfl, rfl, rfl⟩
  case round =>
    obtain ⟨k, b0, hk, rfl, rfl, HB0⟩ := hrel
    by_cases hlt : k < P.size
    · have HS := Lib.hid (Tx.take_snoc P k hlt)
      obtain ⟨c, hck⟩ : ∃ c, P[k] = c := ⟨_, rfl⟩
      rw [hck] at HS
      have hnext : Hid ((P.data.toList.take (k + 1)).all Tx.plainB = (b0 && Tx.plainB c)) := by show _ = _; rw [HS.out, List.all_append, show (P.data.toList.take k).all Tx.plainB = b0 from HB0]; simp
      cases b0
      · have HQ : Tx.PlainTo P (k + 1) false := by show (P.data.toList.take (k + 1)).all Tx.plainB = _; rw [hnext.out]; rfl
        go_wp2
        go_round
        case rel => first | exact ⟨k + 1, false, by omega, by go_num, rfl, HQ⟩ | exact ⟨k + 1, by omega, by go_num, HQ⟩
        case measure => simp [intOf]; omega
      · by_cases h42 : c = 42
        · have e1 : ((c.toNat : Int) != 42) = false := by rw [h42]; rfl
          have hpl : Hid (Tx.plainB c = false) := by show _ = _; rw [h42]; rfl
          have HQ : Tx.PlainTo P (k + 1) false := by show (P.data.toList.take (k + 1)).all Tx.plainB = _; rw [hnext.out, hpl.out]; rfl
          clear h42
          go_wp2
          go_round
          case rel => first | exact ⟨k + 1, false, by omega, by go_num, rfl, HQ⟩ | exact ⟨k + 1, by omega, by go_num, HQ⟩
          case measure => simp [intOf]; omega
        · have e1 : ((c.toNat : Int) != 42) = true := by rw [bne_iff_ne]; intro e; exact h42 (by rw [← UInt8.toNat_inj]; simp; omega)
          by_cases h63 : c = 63
          · have e2 : ((c.toNat : Int) != 63) = false := by rw [h63]; rfl
            have hpl : Hid (Tx.plainB c = false) := by show _ = _; rw [h63]; rfl
            have HQ : Tx.PlainTo P (k + 1) false := by show (P.data.toList.take (k + 1)).all Tx.plainB = _; rw [hnext.out, hpl.out]; rfl
            clear h42 h63
            go_wp2
            go_round
            case rel => first | exact ⟨k + 1, false, by omega, by go_num, rfl, HQ⟩ | exact ⟨k + 1, by omega, by go_num, HQ⟩
            case measure => simp [intOf]; omega
          · have e2 : ((c.toNat : Int) != 63) = true := by rw [bne_iff_ne]; intro e; exact h63 (by rw [← UInt8.toNat_inj]; simp; omega)
            have hpl : Hid (Tx.plainB c = true) := by show _ = _; simp [Tx.plainB, h42, h63]
            have HQ : Tx.PlainTo P (k + 1) true := by show (P.data.toList.take (k + 1)).all Tx.plainB = _; rw [hnext.out, hpl.out]; rfl
            clear h42 h63
            go_wp2
            go_round
            case rel => first | exact ⟨k + 1, true, by omega, by go_num, rfl, HQ⟩ | exact ⟨k + 1, by omega, by go_num, HQ⟩
            case measure => simp [intOf]; omega
    · have hall : P.data.toList.take k = P.data.toList := List.take_of_length_le (by rw [← Lib.size_eq]; omega)
      have HA : Hid (P.data.toList.all Tx.plainB = b0) := by have : (P.data.toList.take k).all Tx.plainB = b0 := HB0; rw [hall] at this; exact this
      clear hall
      have HST := Lib.hid (fun W => globG (P := ⟨#[42]⟩) (s := s) (Tx.glob_one s.data.toList) (by decide) (by omega) W)
      cases b0
      · go_wp2_with fail
        refine (HST.out _).mono ?_
        rintro e w4 ⟨rfl, n4, rfl⟩
        go_wp2_with fail
        refine (hHG.out _).mono ?_
        rintro e w5 ⟨rfl, n5, rfl⟩
        go_wp2
        go_ret
        exact ⟨rfl, below_drews hB1 _⟩
      · have hsame := Lib.hid (fun W => sameG (a := P) (b := s) ((Tx.glob_plain P.data.toList s.data.toList HA.out).symm.trans HGG.out) (by omega) W)
        go_wp2_with fail
        refine (hsame.out _).mono ?_
        rintro e w6 ⟨rfl, n6, rfl⟩
        go_wp2_with fail
        refine (HST.out _).mono ?_
        rintro e w4 ⟨rfl, n4, rfl⟩
        go_wp2_with fail
        refine (hHG.out _).mono ?_
        rintro e w5 ⟨rfl, n5, rfl⟩
        go_wp2
        go_ret
        exact ⟨rfl, below_drews hB1 _⟩
set_option maxHeartbeats 4000000 in
set_option maxRecDepth 100000 in
theorem globs_4 (P s : ByteArray) (w : World) (hm : MaxAt w) (hP0 : 0 < P.size) (hP : P.size ≤ 60) (_hs : s.size ≤ 60) (hc : P[0] ≠ 42) (hs0 : s.size = 0) (hg : Tx.glob P.data.toList s.data.toList = false) :
    Calls Tryd.prog 8 #[.string P, .string s] w fun e w' => e = .returned (.bool true) ∧ Below w.heap.size w w' := by
  have hemp : P.toList.isEmpty = false := Tx.not_empty P hP0
  have hHG := Lib.hid (fun W => globG hg (by omega) (by omega) W)
  have HGG := Lib.hid hg
  have hc42 : (((P[0]'hP0).toNat : Int) == 42) = false := by rw [beq_eq_false_iff_ne]; intro e; exact hc (by rw [← UInt8.toNat_inj]; simp; omega)
  clear hc
  have hse : s.toList.isEmpty = true := Tx.is_empty s hs0
  have HM := Lib.hid hm
  clear hg hm
  go_enter Tryd.func8, Tryd.ntmps8
  go_wp2_with fail
  refine (small_any _ HM.out).mono ?_
  rintro e w1 ⟨rfl, hB1⟩
  go_wp2_with fail
  refine (hHG.out _).mono ?_
  rintro e w2 ⟨rfl, n2, rfl⟩
  go_wp2_with fail
  go_quiet (fail)
  go_wp2_with fail
  go_loop [9, 10] (fun b i => ∃ (k : Nat) (b0 : Bool), k ≤ P.size ∧ i = .int .i64 k ∧ b = .bool b0 ∧ Tx.PlainTo P k b0) (fun _ i => P.size - (intOf i).toNat)
  case atStart => exact ⟨0, true, Nat.zero_le _, rfl, rfl, rfl⟩
  case round =>
    obtain ⟨k, b0, hk, rfl, rfl, HB0⟩ := hrel
    by_cases hlt : k < P.size
    · have HS := Lib.hid (Tx.take_snoc P k hlt)
      obtain ⟨c, hck⟩ : ∃ c, P[k] = c := ⟨_, rfl⟩
      rw [hck] at HS
      have hnext : Hid ((P.data.toList.take (k + 1)).all Tx.plainB = (b0 && Tx.plainB c)) := by show _ = _; rw [HS.out, List.all_append, show (P.data.toList.take k).all Tx.plainB = b0 from HB0]; simp
      cases b0
      · have HQ : Tx.PlainTo P (k + 1) false := by show (P.data.toList.take (k + 1)).all Tx.plainB = _; rw [hnext.out]; rfl
        go_wp2
        go_round
        case rel => first | exact ⟨k + 1, false, by omega, by go_num, rfl, HQ⟩ | exact ⟨k + 1, by omega, by go_num, HQ⟩
        case measure => simp [intOf]; omega
      · by_cases h42 : c = 42
        · have e1 : ((c.toNat : Int) != 42) = false := by rw [h42]; rfl
          have hpl : Hid (Tx.plainB c = false) := by show _ = _; rw [h42]; rfl
          have HQ : Tx.PlainTo P (k + 1) false := by show (P.data.toList.take (k + 1)).all Tx.plainB = _; rw [hnext.out, hpl.out]; rfl
          clear h42
          go_wp2
          go_round
          case rel => first | exact ⟨k + 1, false, by omega, by go_num, rfl, HQ⟩ | exact ⟨k + 1, by omega, by go_num, HQ⟩
          case measure => simp [intOf]; omega
        · have e1 : ((c.toNat : Int) != 42) = true := by rw [bne_iff_ne]; intro e; exact h42 (by rw [← UInt8.toNat_inj]; simp; omega)
          by_cases h63 : c = 63
          · have e2 : ((c.toNat : Int) != 63) = false := by rw [h63]; rfl
            have hpl : Hid (Tx.plainB c = false) := by show _ = _; rw [h63]; rfl
            have HQ : Tx.PlainTo P (k + 1) false := by show (P.data.toList.take (k + 1)).all Tx.plainB = _; rw [hnext.out, hpl.out]; rfl
            clear h42 h63
            go_wp2
            go_round
            case rel => first | exact ⟨k + 1, false, by omega, by go_num, rfl, HQ⟩ | exact ⟨k + 1, by omega, by go_num, HQ⟩
            case measure => simp [intOf]; omega
          · have e2 : ((c.toNat : Int) != 63) = true := by rw [bne_iff_ne]; intro e; exact h63 (by rw [← UInt8.toNat_inj]; simp; omega)
            have hpl : Hid (Tx.plainB c = true) := by show _ = _; simp [Tx.plainB, h42, h63]
            have HQ : Tx.PlainTo P (k + 1) true := by show (P.data.toList.take (k + 1)).all Tx.plainB = _; rw [hnext.out, hpl.out]; rfl
            clear h42 h63
            go_wp2
            go_round
            case rel => first | exact ⟨k + 1, true, by omega, by go_num, rfl, HQ⟩ | exact ⟨k + 1, by omega, by go_num, HQ⟩
            case measure => simp [intOf]; omega
    · have hall : P.data.toList.take k = P.data.toList := List.take_of_length_le (by rw [← Lib.size_eq]; omega)
      have HA : Hid (P.data.toList.all Tx.plainB = b0) := by have : (P.data.toList.take k).all Tx.plainB = b0 := HB0; rw [hall] at this; exact this
      clear hall
      have HST := Lib.hid (fun W => globG (P := ⟨#[42]⟩) (s := s) (Tx.glob_one s.data.toList) (by decide) (by omega) W)
      cases b0
      · go_wp2_with fail
        refine (HST.out _).mono ?_
        rintro e w4 ⟨rfl, n4, rfl⟩
        go_wp2_with fail
        refine (hHG.out _).mono ?_
        rintro e w5 ⟨rfl, n5, rfl⟩
        go_wp2
        go_ret
        exact ⟨rfl, below_drews hB1 _⟩
      · have hsame := Lib.hid (fun W => sameG (a := P) (b := s) ((Tx.glob_plain P.data.toList s.data.toList HA.out).symm.trans HGG.out) (by omega) W)
        go_wp2_with fail
        refine (hsame.out _).mono ?_
        rintro e w6 ⟨rfl, n6, rfl⟩
        go_wp2_with fail
        refine (HST.out _).mono ?_
        rintro e w4 ⟨rfl, n4, rfl⟩
        go_wp2_with fail
        refine (hHG.out _).mono ?_
        rintro e w5 ⟨rfl, n5, rfl⟩
        go_wp2
        go_ret
        exact ⟨rfl, below_drews hB1 _⟩
set_option maxHeartbeats 4000000 in
set_option maxRecDepth 100000 in
theorem globs_5t (P s : ByteArray) (w : World) (hm : MaxAt w) (hP0 : 0 < P.size) (hP : P.size ≤ 60) (hs : s.size ≤ 60) (hc : P[0] ≠ 42) (hc3 : P[0] = 63) (hs0 : 0 < s.size) (hg3 : Tx.glob (P.extract 1 P.size).data.toList (s.extract 1 s.size).data.toList = true) (hg : Tx.glob P.data.toList s.data.toList = true) :
    Calls Tryd.prog 8 #[.string P, .string s] w fun e w' => e = .returned (.bool true) ∧ Below w.heap.size w w' := by
  have hemp : P.toList.isEmpty = false := Tx.not_empty P hP0
  have hHG := Lib.hid (fun W => globG hg (by omega) (by omega) W)
  have HGG := Lib.hid hg
  have HWR := Lib.hid (fun W => globWrap P s hg (by omega) (by omega) W)
  have hc42 : (((P[0]'hP0).toNat : Int) == 42) = false := by rw [beq_eq_false_iff_ne]; intro e; exact hc (by rw [← UInt8.toNat_inj]; simp; omega)
  clear hc
  have hc63 : (((P[0]'hP0).toNat : Int) == 63) = true := by rw [hc3]; rfl
  clear hc3
  have hsne : s.toList.isEmpty = false := Tx.not_empty s hs0
  have hH3 := Lib.hid (fun W => globG hg3 (by simp; omega) (by simp; omega) W)
  clear hg3
  have HM := Lib.hid hm
  clear hg hm
  go_enter Tryd.func8, Tryd.ntmps8
  go_wp2_with fail
  refine (small_any _ HM.out).mono ?_
  rintro e w1 ⟨rfl, hB1⟩
  go_wp2_with fail
  refine (hHG.out _).mono ?_
  rintro e w2 ⟨rfl, n2, rfl⟩
  go_wp2_with fail
  go_quiet (fail)
  go_wp2_with fail
  refine (hH3.out _).mono ?_
  rintro e w3 ⟨rfl, n3, rfl⟩
  go_wp2_with fail
  go_loop [9, 10] (fun b i => ∃ (k : Nat) (b0 : Bool), k ≤ P.size ∧ i = .int .i64 k ∧ b = .bool b0 ∧ Tx.PlainTo P k b0) (fun _ i => P.size - (intOf i).toNat)
  case atStart => exact ⟨0, true, Nat.zero_le _, rfl, rfl, rfl⟩
  case round =>
    obtain ⟨k, b0, hk, rfl, rfl, HB0⟩ := hrel
    by_cases hlt : k < P.size
    · have HS := Lib.hid (Tx.take_snoc P k hlt)
      obtain ⟨c, hck⟩ : ∃ c, P[k] = c := ⟨_, rfl⟩
      rw [hck] at HS
      have hnext : Hid ((P.data.toList.take (k + 1)).all Tx.plainB = (b0 && Tx.plainB c)) := by show _ = _; rw [HS.out, List.all_append, show (P.data.toList.take k).all Tx.plainB = b0 from HB0]; simp
      cases b0
      · have HQ : Tx.PlainTo P (k + 1) false := by show (P.data.toList.take (k + 1)).all Tx.plainB = _; rw [hnext.out]; rfl
        go_wp2
        go_round
        case rel => first | exact ⟨k + 1, false, by omega, by go_num, rfl, HQ⟩ | exact ⟨k + 1, by omega, by go_num, HQ⟩
        case measure => simp [intOf]; omega
      · by_cases h42 : c = 42
        · have e1 : ((c.toNat : Int) != 42) = false := by rw [h42]; rfl
          have hpl : Hid (Tx.plainB c = false) := by show _ = _; rw [h42]; rfl
          have HQ : Tx.PlainTo P (k + 1) false := by show (P.data.toList.take (k + 1)).all Tx.plainB = _; rw [hnext.out, hpl.out]; rfl
          clear h42
          go_wp2
          go_round
          case rel => first | exact ⟨k + 1, false, by omega, by go_num, rfl, HQ⟩ | exact ⟨k + 1, by omega, by go_num, HQ⟩
          case measure => simp [intOf]; omega
        · have e1 : ((c.toNat : Int) != 42) = true := by rw [bne_iff_ne]; intro e; exact h42 (by rw [← UInt8.toNat_inj]; simp; omega)
          by_cases h63 : c = 63
          · have e2 : ((c.toNat : Int) != 63) = false := by rw [h63]; rfl
            have hpl : Hid (Tx.plainB c = false) := by show _ = _; rw [h63]; rfl
            have HQ : Tx.PlainTo P (k + 1) false := by show (P.data.toList.take (k + 1)).all Tx.plainB = _; rw [hnext.out, hpl.out]; rfl
            clear h42 h63
            go_wp2
            go_round
            case rel => first | exact ⟨k + 1, false, by omega, by go_num, rfl, HQ⟩ | exact ⟨k + 1, by omega, by go_num, HQ⟩
            case measure => simp [intOf]; omega
          · have e2 : ((c.toNat : Int) != 63) = true := by rw [bne_iff_ne]; intro e; exact h63 (by rw [← UInt8.toNat_inj]; simp; omega)
            have hpl : Hid (Tx.plainB c = true) := by show _ = _; simp [Tx.plainB, h42, h63]
            have HQ : Tx.PlainTo P (k + 1) true := by show (P.data.toList.take (k + 1)).all Tx.plainB = _; rw [hnext.out, hpl.out]; rfl
            clear h42 h63
            go_wp2
            go_round
            case rel => first | exact ⟨k + 1, true, by omega, by go_num, rfl, HQ⟩ | exact ⟨k + 1, by omega, by go_num, HQ⟩
            case measure => simp [intOf]; omega
    · have hall : P.data.toList.take k = P.data.toList := List.take_of_length_le (by rw [← Lib.size_eq]; omega)
      have HA : Hid (P.data.toList.all Tx.plainB = b0) := by have : (P.data.toList.take k).all Tx.plainB = b0 := HB0; rw [hall] at this; exact this
      clear hall
      have HST := Lib.hid (fun W => globG (P := ⟨#[42]⟩) (s := s) (Tx.glob_one s.data.toList) (by decide) (by omega) W)
      cases b0
      · go_wp2_with fail
        refine (HST.out _).mono ?_
        rintro e w4 ⟨rfl, n4, rfl⟩
        go_wp2_with fail
        refine (hHG.out _).mono ?_
        rintro e w5 ⟨rfl, n5, rfl⟩
        go_wp2_with fail
        refine (HWR.out _).mono ?_
        rintro e w7 ⟨rfl, n7, rfl⟩
        go_wp2
        go_ret
        exact ⟨rfl, below_drews hB1 _⟩
      · have hsame := Lib.hid (fun W => sameG (a := P) (b := s) ((Tx.glob_plain P.data.toList s.data.toList HA.out).symm.trans HGG.out) (by omega) W)
        go_wp2_with fail
        refine (hsame.out _).mono ?_
        rintro e w6 ⟨rfl, n6, rfl⟩
        go_wp2_with fail
        refine (HST.out _).mono ?_
        rintro e w4 ⟨rfl, n4, rfl⟩
        go_wp2_with fail
        refine (hHG.out _).mono ?_
        rintro e w5 ⟨rfl, n5, rfl⟩
        go_wp2_with fail
        refine (HWR.out _).mono ?_
        rintro e w7 ⟨rfl, n7, rfl⟩
        go_wp2
        go_ret
        exact ⟨rfl, below_drews hB1 _⟩
set_option maxHeartbeats 4000000 in
set_option maxRecDepth 100000 in
theorem globs_6t (P s : ByteArray) (w : World) (hm : MaxAt w) (hP0 : 0 < P.size) (hP : P.size ≤ 60) (hs : s.size ≤ 60) (hc : P[0] ≠ 42) (hc3 : P[0] ≠ 63) (hs0 : 0 < s.size) (hsm : Tx.same (P.extract 0 1).data.toList (s.extract 0 1).data.toList = true) (hg3 : Tx.glob (P.extract 1 P.size).data.toList (s.extract 1 s.size).data.toList = true) (hg : Tx.glob P.data.toList s.data.toList = true) :
    Calls Tryd.prog 8 #[.string P, .string s] w fun e w' => e = .returned (.bool true) ∧ Below w.heap.size w w' := by
  have hemp : P.toList.isEmpty = false := Tx.not_empty P hP0
  have hHG := Lib.hid (fun W => globG hg (by omega) (by omega) W)
  have HGG := Lib.hid hg
  have HWR := Lib.hid (fun W => globWrap P s hg (by omega) (by omega) W)
  have hc42 : (((P[0]'hP0).toNat : Int) == 42) = false := by rw [beq_eq_false_iff_ne]; intro e; exact hc (by rw [← UInt8.toNat_inj]; simp; omega)
  clear hc
  have hc63 : (((P[0]'hP0).toNat : Int) == 63) = false := by rw [beq_eq_false_iff_ne]; intro e; exact hc3 (by rw [← UInt8.toNat_inj]; simp; omega)
  clear hc3
  have hsne : s.toList.isEmpty = false := Tx.not_empty s hs0
  have hSM := Lib.hid (fun W => sameG hsm (by simp; omega) W)
  clear hsm
  have hH3 := Lib.hid (fun W => globG hg3 (by simp; omega) (by simp; omega) W)
  clear hg3
  have HM := Lib.hid hm
  clear hg hm
  go_enter Tryd.func8, Tryd.ntmps8
  go_wp2_with fail
  refine (small_any _ HM.out).mono ?_
  rintro e w1 ⟨rfl, hB1⟩
  go_wp2_with fail
  refine (hHG.out _).mono ?_
  rintro e w2 ⟨rfl, n2, rfl⟩
  go_wp2_with fail
  go_quiet ((go_at_call 16; exact quiet_mores hSM.out))
  go_wp2_with fail
  refine (hH3.out _).mono ?_
  rintro e w3 ⟨rfl, n3, rfl⟩
  go_wp2_with fail
  go_loop [9, 10] (fun b i => ∃ (k : Nat) (b0 : Bool), k ≤ P.size ∧ i = .int .i64 k ∧ b = .bool b0 ∧ Tx.PlainTo P k b0) (fun _ i => P.size - (intOf i).toNat)
  case atStart => exact ⟨0, true, Nat.zero_le _, rfl, rfl, rfl⟩
  case round =>
    obtain ⟨k, b0, hk, rfl, rfl, HB0⟩ := hrel
    by_cases hlt : k < P.size
    · have HS := Lib.hid (Tx.take_snoc P k hlt)
      obtain ⟨c, hck⟩ : ∃ c, P[k] = c := ⟨_, rfl⟩
      rw [hck] at HS
      have hnext : Hid ((P.data.toList.take (k + 1)).all Tx.plainB = (b0 && Tx.plainB c)) := by show _ = _; rw [HS.out, List.all_append, show (P.data.toList.take k).all Tx.plainB = b0 from HB0]; simp
      cases b0
      · have HQ : Tx.PlainTo P (k + 1) false := by show (P.data.toList.take (k + 1)).all Tx.plainB = _; rw [hnext.out]; rfl
        go_wp2
        go_round
        case rel => first | exact ⟨k + 1, false, by omega, by go_num, rfl, HQ⟩ | exact ⟨k + 1, by omega, by go_num, HQ⟩
        case measure => simp [intOf]; omega
      · by_cases h42 : c = 42
        · have e1 : ((c.toNat : Int) != 42) = false := by rw [h42]; rfl
          have hpl : Hid (Tx.plainB c = false) := by show _ = _; rw [h42]; rfl
          have HQ : Tx.PlainTo P (k + 1) false := by show (P.data.toList.take (k + 1)).all Tx.plainB = _; rw [hnext.out, hpl.out]; rfl
          clear h42
          go_wp2
          go_round
          case rel => first | exact ⟨k + 1, false, by omega, by go_num, rfl, HQ⟩ | exact ⟨k + 1, by omega, by go_num, HQ⟩
          case measure => simp [intOf]; omega
        · have e1 : ((c.toNat : Int) != 42) = true := by rw [bne_iff_ne]; intro e; exact h42 (by rw [← UInt8.toNat_inj]; simp; omega)
          by_cases h63 : c = 63
          · have e2 : ((c.toNat : Int) != 63) = false := by rw [h63]; rfl
            have hpl : Hid (Tx.plainB c = false) := by show _ = _; rw [h63]; rfl
            have HQ : Tx.PlainTo P (k + 1) false := by show (P.data.toList.take (k + 1)).all Tx.plainB = _; rw [hnext.out, hpl.out]; rfl
            clear h42 h63
            go_wp2
            go_round
            case rel => first | exact ⟨k + 1, false, by omega, by go_num, rfl, HQ⟩ | exact ⟨k + 1, by omega, by go_num, HQ⟩
            case measure => simp [intOf]; omega
          · have e2 : ((c.toNat : Int) != 63) = true := by rw [bne_iff_ne]; intro e; exact h63 (by rw [← UInt8.toNat_inj]; simp; omega)
            have hpl : Hid (Tx.plainB c = true) := by show _ = _; simp [Tx.plainB, h42, h63]
            have HQ : Tx.PlainTo P (k + 1) true := by show (P.data.toList.take (k + 1)).all Tx.plainB = _; rw [hnext.out, hpl.out]; rfl
            clear h42 h63
            go_wp2
            go_round
            case rel => first | exact ⟨k + 1, true, by omega, by go_num, rfl, HQ⟩ | exact ⟨k + 1, by omega, by go_num, HQ⟩
            case measure => simp [intOf]; omega
    · have hall : P.data.toList.take k = P.data.toList := List.take_of_length_le (by rw [← Lib.size_eq]; omega)
      have HA : Hid (P.data.toList.all Tx.plainB = b0) := by have : (P.data.toList.take k).all Tx.plainB = b0 := HB0; rw [hall] at this; exact this
      clear hall
      have HST := Lib.hid (fun W => globG (P := ⟨#[42]⟩) (s := s) (Tx.glob_one s.data.toList) (by decide) (by omega) W)
      cases b0
      · go_wp2_with fail
        refine (HST.out _).mono ?_
        rintro e w4 ⟨rfl, n4, rfl⟩
        go_wp2_with fail
        refine (hHG.out _).mono ?_
        rintro e w5 ⟨rfl, n5, rfl⟩
        go_wp2_with fail
        refine (HWR.out _).mono ?_
        rintro e w7 ⟨rfl, n7, rfl⟩
        go_wp2
        go_ret
        exact ⟨rfl, below_drews hB1 _⟩
      · have hsame := Lib.hid (fun W => sameG (a := P) (b := s) ((Tx.glob_plain P.data.toList s.data.toList HA.out).symm.trans HGG.out) (by omega) W)
        go_wp2_with fail
        refine (hsame.out _).mono ?_
        rintro e w6 ⟨rfl, n6, rfl⟩
        go_wp2_with fail
        refine (HST.out _).mono ?_
        rintro e w4 ⟨rfl, n4, rfl⟩
        go_wp2_with fail
        refine (hHG.out _).mono ?_
        rintro e w5 ⟨rfl, n5, rfl⟩
        go_wp2_with fail
        refine (HWR.out _).mono ?_
        rintro e w7 ⟨rfl, n7, rfl⟩
        go_wp2
        go_ret
        exact ⟨rfl, below_drews hB1 _⟩
set_option maxHeartbeats 4000000 in
set_option maxRecDepth 100000 in
theorem globs_5f (P s : ByteArray) (w : World) (hm : MaxAt w) (hP0 : 0 < P.size) (hP : P.size ≤ 60) (hs : s.size ≤ 60) (hc : P[0] ≠ 42) (hc3 : P[0] = 63) (hs0 : 0 < s.size) (hg3 : Tx.glob (P.extract 1 P.size).data.toList (s.extract 1 s.size).data.toList = false) (hg : Tx.glob P.data.toList s.data.toList = false) :
    Calls Tryd.prog 8 #[.string P, .string s] w fun e w' => e = .returned (.bool true) ∧ Below w.heap.size w w' := by
  have hemp : P.toList.isEmpty = false := Tx.not_empty P hP0
  have hHG := Lib.hid (fun W => globG hg (by omega) (by omega) W)
  have HGG := Lib.hid hg
  have hc42 : (((P[0]'hP0).toNat : Int) == 42) = false := by rw [beq_eq_false_iff_ne]; intro e; exact hc (by rw [← UInt8.toNat_inj]; simp; omega)
  clear hc
  have hc63 : (((P[0]'hP0).toNat : Int) == 63) = true := by rw [hc3]; rfl
  clear hc3
  have hsne : s.toList.isEmpty = false := Tx.not_empty s hs0
  have hH3 := Lib.hid (fun W => globG hg3 (by simp; omega) (by simp; omega) W)
  clear hg3
  have HM := Lib.hid hm
  clear hg hm
  go_enter Tryd.func8, Tryd.ntmps8
  go_wp2_with fail
  refine (small_any _ HM.out).mono ?_
  rintro e w1 ⟨rfl, hB1⟩
  go_wp2_with fail
  refine (hHG.out _).mono ?_
  rintro e w2 ⟨rfl, n2, rfl⟩
  go_wp2_with fail
  go_quiet (fail)
  go_wp2_with fail
  refine (hH3.out _).mono ?_
  rintro e w3 ⟨rfl, n3, rfl⟩
  go_wp2_with fail
  go_loop [9, 10] (fun b i => ∃ (k : Nat) (b0 : Bool), k ≤ P.size ∧ i = .int .i64 k ∧ b = .bool b0 ∧ Tx.PlainTo P k b0) (fun _ i => P.size - (intOf i).toNat)
  case atStart => exact ⟨0, true, Nat.zero_le _, rfl, rfl, rfl⟩
  case round =>
    obtain ⟨k, b0, hk, rfl, rfl, HB0⟩ := hrel
    by_cases hlt : k < P.size
    · have HS := Lib.hid (Tx.take_snoc P k hlt)
      obtain ⟨c, hck⟩ : ∃ c, P[k] = c := ⟨_, rfl⟩
      rw [hck] at HS
      have hnext : Hid ((P.data.toList.take (k + 1)).all Tx.plainB = (b0 && Tx.plainB c)) := by show _ = _; rw [HS.out, List.all_append, show (P.data.toList.take k).all Tx.plainB = b0 from HB0]; simp
      cases b0
      · have HQ : Tx.PlainTo P (k + 1) false := by show (P.data.toList.take (k + 1)).all Tx.plainB = _; rw [hnext.out]; rfl
        go_wp2
        go_round
        case rel => first | exact ⟨k + 1, false, by omega, by go_num, rfl, HQ⟩ | exact ⟨k + 1, by omega, by go_num, HQ⟩
        case measure => simp [intOf]; omega
      · by_cases h42 : c = 42
        · have e1 : ((c.toNat : Int) != 42) = false := by rw [h42]; rfl
          have hpl : Hid (Tx.plainB c = false) := by show _ = _; rw [h42]; rfl
          have HQ : Tx.PlainTo P (k + 1) false := by show (P.data.toList.take (k + 1)).all Tx.plainB = _; rw [hnext.out, hpl.out]; rfl
          clear h42
          go_wp2
          go_round
          case rel => first | exact ⟨k + 1, false, by omega, by go_num, rfl, HQ⟩ | exact ⟨k + 1, by omega, by go_num, HQ⟩
          case measure => simp [intOf]; omega
        · have e1 : ((c.toNat : Int) != 42) = true := by rw [bne_iff_ne]; intro e; exact h42 (by rw [← UInt8.toNat_inj]; simp; omega)
          by_cases h63 : c = 63
          · have e2 : ((c.toNat : Int) != 63) = false := by rw [h63]; rfl
            have hpl : Hid (Tx.plainB c = false) := by show _ = _; rw [h63]; rfl
            have HQ : Tx.PlainTo P (k + 1) false := by show (P.data.toList.take (k + 1)).all Tx.plainB = _; rw [hnext.out, hpl.out]; rfl
            clear h42 h63
            go_wp2
            go_round
            case rel => first | exact ⟨k + 1, false, by omega, by go_num, rfl, HQ⟩ | exact ⟨k + 1, by omega, by go_num, HQ⟩
            case measure => simp [intOf]; omega
          · have e2 : ((c.toNat : Int) != 63) = true := by rw [bne_iff_ne]; intro e; exact h63 (by rw [← UInt8.toNat_inj]; simp; omega)
            have hpl : Hid (Tx.plainB c = true) := by show _ = _; simp [Tx.plainB, h42, h63]
            have HQ : Tx.PlainTo P (k + 1) true := by show (P.data.toList.take (k + 1)).all Tx.plainB = _; rw [hnext.out, hpl.out]; rfl
            clear h42 h63
            go_wp2
            go_round
            case rel => first | exact ⟨k + 1, true, by omega, by go_num, rfl, HQ⟩ | exact ⟨k + 1, by omega, by go_num, HQ⟩
            case measure => simp [intOf]; omega
    · have hall : P.data.toList.take k = P.data.toList := List.take_of_length_le (by rw [← Lib.size_eq]; omega)
      have HA : Hid (P.data.toList.all Tx.plainB = b0) := by have : (P.data.toList.take k).all Tx.plainB = b0 := HB0; rw [hall] at this; exact this
      clear hall
      have HST := Lib.hid (fun W => globG (P := ⟨#[42]⟩) (s := s) (Tx.glob_one s.data.toList) (by decide) (by omega) W)
      cases b0
      · go_wp2_with fail
        refine (HST.out _).mono ?_
        rintro e w4 ⟨rfl, n4, rfl⟩
        go_wp2_with fail
        refine (hHG.out _).mono ?_
        rintro e w5 ⟨rfl, n5, rfl⟩
        go_wp2
        go_ret
        exact ⟨rfl, below_drews hB1 _⟩
      · have hsame := Lib.hid (fun W => sameG (a := P) (b := s) ((Tx.glob_plain P.data.toList s.data.toList HA.out).symm.trans HGG.out) (by omega) W)
        go_wp2_with fail
        refine (hsame.out _).mono ?_
        rintro e w6 ⟨rfl, n6, rfl⟩
        go_wp2_with fail
        refine (HST.out _).mono ?_
        rintro e w4 ⟨rfl, n4, rfl⟩
        go_wp2_with fail
        refine (hHG.out _).mono ?_
        rintro e w5 ⟨rfl, n5, rfl⟩
        go_wp2
        go_ret
        exact ⟨rfl, below_drews hB1 _⟩
set_option maxHeartbeats 4000000 in
set_option maxRecDepth 100000 in
theorem globs_6f (P s : ByteArray) (w : World) (hm : MaxAt w) (hP0 : 0 < P.size) (hP : P.size ≤ 60) (hs : s.size ≤ 60) (hc : P[0] ≠ 42) (hc3 : P[0] ≠ 63) (hs0 : 0 < s.size) (hsm : Tx.same (P.extract 0 1).data.toList (s.extract 0 1).data.toList = true) (hg3 : Tx.glob (P.extract 1 P.size).data.toList (s.extract 1 s.size).data.toList = false) (hg : Tx.glob P.data.toList s.data.toList = false) :
    Calls Tryd.prog 8 #[.string P, .string s] w fun e w' => e = .returned (.bool true) ∧ Below w.heap.size w w' := by
  have hemp : P.toList.isEmpty = false := Tx.not_empty P hP0
  have hHG := Lib.hid (fun W => globG hg (by omega) (by omega) W)
  have HGG := Lib.hid hg
  have hc42 : (((P[0]'hP0).toNat : Int) == 42) = false := by rw [beq_eq_false_iff_ne]; intro e; exact hc (by rw [← UInt8.toNat_inj]; simp; omega)
  clear hc
  have hc63 : (((P[0]'hP0).toNat : Int) == 63) = false := by rw [beq_eq_false_iff_ne]; intro e; exact hc3 (by rw [← UInt8.toNat_inj]; simp; omega)
  clear hc3
  have hsne : s.toList.isEmpty = false := Tx.not_empty s hs0
  have hSM := Lib.hid (fun W => sameG hsm (by simp; omega) W)
  clear hsm
  have hH3 := Lib.hid (fun W => globG hg3 (by simp; omega) (by simp; omega) W)
  clear hg3
  have HM := Lib.hid hm
  clear hg hm
  go_enter Tryd.func8, Tryd.ntmps8
  go_wp2_with fail
  refine (small_any _ HM.out).mono ?_
  rintro e w1 ⟨rfl, hB1⟩
  go_wp2_with fail
  refine (hHG.out _).mono ?_
  rintro e w2 ⟨rfl, n2, rfl⟩
  go_wp2_with fail
  go_quiet ((go_at_call 16; exact quiet_mores hSM.out))
  go_wp2_with fail
  refine (hH3.out _).mono ?_
  rintro e w3 ⟨rfl, n3, rfl⟩
  go_wp2_with fail
  go_loop [9, 10] (fun b i => ∃ (k : Nat) (b0 : Bool), k ≤ P.size ∧ i = .int .i64 k ∧ b = .bool b0 ∧ Tx.PlainTo P k b0) (fun _ i => P.size - (intOf i).toNat)
  case atStart => exact ⟨0, true, Nat.zero_le _, rfl, rfl, rfl⟩
  case round =>
    obtain ⟨k, b0, hk, rfl, rfl, HB0⟩ := hrel
    by_cases hlt : k < P.size
    · have HS := Lib.hid (Tx.take_snoc P k hlt)
      obtain ⟨c, hck⟩ : ∃ c, P[k] = c := ⟨_, rfl⟩
      rw [hck] at HS
      have hnext : Hid ((P.data.toList.take (k + 1)).all Tx.plainB = (b0 && Tx.plainB c)) := by show _ = _; rw [HS.out, List.all_append, show (P.data.toList.take k).all Tx.plainB = b0 from HB0]; simp
      cases b0
      · have HQ : Tx.PlainTo P (k + 1) false := by show (P.data.toList.take (k + 1)).all Tx.plainB = _; rw [hnext.out]; rfl
        go_wp2
        go_round
        case rel => first | exact ⟨k + 1, false, by omega, by go_num, rfl, HQ⟩ | exact ⟨k + 1, by omega, by go_num, HQ⟩
        case measure => simp [intOf]; omega
      · by_cases h42 : c = 42
        · have e1 : ((c.toNat : Int) != 42) = false := by rw [h42]; rfl
          have hpl : Hid (Tx.plainB c = false) := by show _ = _; rw [h42]; rfl
          have HQ : Tx.PlainTo P (k + 1) false := by show (P.data.toList.take (k + 1)).all Tx.plainB = _; rw [hnext.out, hpl.out]; rfl
          clear h42
          go_wp2
          go_round
          case rel => first | exact ⟨k + 1, false, by omega, by go_num, rfl, HQ⟩ | exact ⟨k + 1, by omega, by go_num, HQ⟩
          case measure => simp [intOf]; omega
        · have e1 : ((c.toNat : Int) != 42) = true := by rw [bne_iff_ne]; intro e; exact h42 (by rw [← UInt8.toNat_inj]; simp; omega)
          by_cases h63 : c = 63
          · have e2 : ((c.toNat : Int) != 63) = false := by rw [h63]; rfl
            have hpl : Hid (Tx.plainB c = false) := by show _ = _; rw [h63]; rfl
            have HQ : Tx.PlainTo P (k + 1) false := by show (P.data.toList.take (k + 1)).all Tx.plainB = _; rw [hnext.out, hpl.out]; rfl
            clear h42 h63
            go_wp2
            go_round
            case rel => first | exact ⟨k + 1, false, by omega, by go_num, rfl, HQ⟩ | exact ⟨k + 1, by omega, by go_num, HQ⟩
            case measure => simp [intOf]; omega
          · have e2 : ((c.toNat : Int) != 63) = true := by rw [bne_iff_ne]; intro e; exact h63 (by rw [← UInt8.toNat_inj]; simp; omega)
            have hpl : Hid (Tx.plainB c = true) := by show _ = _; simp [Tx.plainB, h42, h63]
            have HQ : Tx.PlainTo P (k + 1) true := by show (P.data.toList.take (k + 1)).all Tx.plainB = _; rw [hnext.out, hpl.out]; rfl
            clear h42 h63
            go_wp2
            go_round
            case rel => first | exact ⟨k + 1, true, by omega, by go_num, rfl, HQ⟩ | exact ⟨k + 1, by omega, by go_num, HQ⟩
            case measure => simp [intOf]; omega
    · have hall : P.data.toList.take k = P.data.toList := List.take_of_length_le (by rw [← Lib.size_eq]; omega)
      have HA : Hid (P.data.toList.all Tx.plainB = b0) := by have : (P.data.toList.take k).all Tx.plainB = b0 := HB0; rw [hall] at this; exact this
      clear hall
      have HST := Lib.hid (fun W => globG (P := ⟨#[42]⟩) (s := s) (Tx.glob_one s.data.toList) (by decide) (by omega) W)
      cases b0
      · go_wp2_with fail
        refine (HST.out _).mono ?_
        rintro e w4 ⟨rfl, n4, rfl⟩
        go_wp2_with fail
        refine (hHG.out _).mono ?_
        rintro e w5 ⟨rfl, n5, rfl⟩
        go_wp2
        go_ret
        exact ⟨rfl, below_drews hB1 _⟩
      · have hsame := Lib.hid (fun W => sameG (a := P) (b := s) ((Tx.glob_plain P.data.toList s.data.toList HA.out).symm.trans HGG.out) (by omega) W)
        go_wp2_with fail
        refine (hsame.out _).mono ?_
        rintro e w6 ⟨rfl, n6, rfl⟩
        go_wp2_with fail
        refine (HST.out _).mono ?_
        rintro e w4 ⟨rfl, n4, rfl⟩
        go_wp2_with fail
        refine (hHG.out _).mono ?_
        rintro e w5 ⟨rfl, n5, rfl⟩
        go_wp2
        go_ret
        exact ⟨rfl, below_drews hB1 _⟩
set_option maxHeartbeats 4000000 in
set_option maxRecDepth 100000 in
theorem globs_7 (P s : ByteArray) (w : World) (hm : MaxAt w) (hP0 : 0 < P.size) (hP : P.size ≤ 60) (hs : s.size ≤ 60) (hc : P[0] ≠ 42) (hc3 : P[0] ≠ 63) (hs0 : 0 < s.size) (hsm : Tx.same (P.extract 0 1).data.toList (s.extract 0 1).data.toList = false) (hg : Tx.glob P.data.toList s.data.toList = false) :
    Calls Tryd.prog 8 #[.string P, .string s] w fun e w' => e = .returned (.bool true) ∧ Below w.heap.size w w' := by
  have hemp : P.toList.isEmpty = false := Tx.not_empty P hP0
  have hHG := Lib.hid (fun W => globG hg (by omega) (by omega) W)
  have HGG := Lib.hid hg
  have hc42 : (((P[0]'hP0).toNat : Int) == 42) = false := by rw [beq_eq_false_iff_ne]; intro e; exact hc (by rw [← UInt8.toNat_inj]; simp; omega)
  clear hc
  have hc63 : (((P[0]'hP0).toNat : Int) == 63) = false := by rw [beq_eq_false_iff_ne]; intro e; exact hc3 (by rw [← UInt8.toNat_inj]; simp; omega)
  clear hc3
  have hsne : s.toList.isEmpty = false := Tx.not_empty s hs0
  have hSM := Lib.hid (fun W => sameG hsm (by simp; omega) W)
  clear hsm
  have HM := Lib.hid hm
  clear hg hm
  go_enter Tryd.func8, Tryd.ntmps8
  go_wp2_with fail
  refine (small_any _ HM.out).mono ?_
  rintro e w1 ⟨rfl, hB1⟩
  go_wp2_with fail
  refine (hHG.out _).mono ?_
  rintro e w2 ⟨rfl, n2, rfl⟩
  go_wp2_with fail
  go_quiet ((go_at_call 16; exact quiet_mores hSM.out))
  go_wp2_with fail
  go_loop [9, 10] (fun b i => ∃ (k : Nat) (b0 : Bool), k ≤ P.size ∧ i = .int .i64 k ∧ b = .bool b0 ∧ Tx.PlainTo P k b0) (fun _ i => P.size - (intOf i).toNat)
  case atStart => exact ⟨0, true, Nat.zero_le _, rfl, rfl, rfl⟩
  case round =>
    obtain ⟨k, b0, hk, rfl, rfl, HB0⟩ := hrel
    by_cases hlt : k < P.size
    · have HS := Lib.hid (Tx.take_snoc P k hlt)
      obtain ⟨c, hck⟩ : ∃ c, P[k] = c := ⟨_, rfl⟩
      rw [hck] at HS
      have hnext : Hid ((P.data.toList.take (k + 1)).all Tx.plainB = (b0 && Tx.plainB c)) := by show _ = _; rw [HS.out, List.all_append, show (P.data.toList.take k).all Tx.plainB = b0 from HB0]; simp
      cases b0
      · have HQ : Tx.PlainTo P (k + 1) false := by show (P.data.toList.take (k + 1)).all Tx.plainB = _; rw [hnext.out]; rfl
        go_wp2
        go_round
        case rel => first | exact ⟨k + 1, false, by omega, by go_num, rfl, HQ⟩ | exact ⟨k + 1, by omega, by go_num, HQ⟩
        case measure => simp [intOf]; omega
      · by_cases h42 : c = 42
        · have e1 : ((c.toNat : Int) != 42) = false := by rw [h42]; rfl
          have hpl : Hid (Tx.plainB c = false) := by show _ = _; rw [h42]; rfl
          have HQ : Tx.PlainTo P (k + 1) false := by show (P.data.toList.take (k + 1)).all Tx.plainB = _; rw [hnext.out, hpl.out]; rfl
          clear h42
          go_wp2
          go_round
          case rel => first | exact ⟨k + 1, false, by omega, by go_num, rfl, HQ⟩ | exact ⟨k + 1, by omega, by go_num, HQ⟩
          case measure => simp [intOf]; omega
        · have e1 : ((c.toNat : Int) != 42) = true := by rw [bne_iff_ne]; intro e; exact h42 (by rw [← UInt8.toNat_inj]; simp; omega)
          by_cases h63 : c = 63
          · have e2 : ((c.toNat : Int) != 63) = false := by rw [h63]; rfl
            have hpl : Hid (Tx.plainB c = false) := by show _ = _; rw [h63]; rfl
            have HQ : Tx.PlainTo P (k + 1) false := by show (P.data.toList.take (k + 1)).all Tx.plainB = _; rw [hnext.out, hpl.out]; rfl
            clear h42 h63
            go_wp2
            go_round
            case rel => first | exact ⟨k + 1, false, by omega, by go_num, rfl, HQ⟩ | exact ⟨k + 1, by omega, by go_num, HQ⟩
            case measure => simp [intOf]; omega
          · have e2 : ((c.toNat : Int) != 63) = true := by rw [bne_iff_ne]; intro e; exact h63 (by rw [← UInt8.toNat_inj]; simp; omega)
            have hpl : Hid (Tx.plainB c = true) := by show _ = _; simp [Tx.plainB, h42, h63]
            have HQ : Tx.PlainTo P (k + 1) true := by show (P.data.toList.take (k + 1)).all Tx.plainB = _; rw [hnext.out, hpl.out]; rfl
            clear h42 h63
            go_wp2
            go_round
            case rel => first | exact ⟨k + 1, true, by omega, by go_num, rfl, HQ⟩ | exact ⟨k + 1, by omega, by go_num, HQ⟩
            case measure => simp [intOf]; omega
    · have hall : P.data.toList.take k = P.data.toList := List.take_of_length_le (by rw [← Lib.size_eq]; omega)
      have HA : Hid (P.data.toList.all Tx.plainB = b0) := by have : (P.data.toList.take k).all Tx.plainB = b0 := HB0; rw [hall] at this; exact this
      clear hall
      have HST := Lib.hid (fun W => globG (P := ⟨#[42]⟩) (s := s) (Tx.glob_one s.data.toList) (by decide) (by omega) W)
      cases b0
      · go_wp2_with fail
        refine (HST.out _).mono ?_
        rintro e w4 ⟨rfl, n4, rfl⟩
        go_wp2_with fail
        refine (hHG.out _).mono ?_
        rintro e w5 ⟨rfl, n5, rfl⟩
        go_wp2
        go_ret
        exact ⟨rfl, below_drews hB1 _⟩
      · have hsame := Lib.hid (fun W => sameG (a := P) (b := s) ((Tx.glob_plain P.data.toList s.data.toList HA.out).symm.trans HGG.out) (by omega) W)
        go_wp2_with fail
        refine (hsame.out _).mono ?_
        rintro e w6 ⟨rfl, n6, rfl⟩
        go_wp2_with fail
        refine (HST.out _).mono ?_
        rintro e w4 ⟨rfl, n4, rfl⟩
        go_wp2_with fail
        refine (hHG.out _).mono ?_
        rintro e w5 ⟨rfl, n5, rfl⟩
        go_wp2
        go_ret
        exact ⟨rfl, below_drews hB1 _⟩
end Go.Proofs.YtpigplnnmhjbkaaDoor
