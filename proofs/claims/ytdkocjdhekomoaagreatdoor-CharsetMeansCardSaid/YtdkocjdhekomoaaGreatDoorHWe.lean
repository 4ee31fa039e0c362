/-
  charset.decode, soundWord.
-/
import Derived.Test.YtdkocjdhekomoaaGreatDoorHWd
namespace Go.Proofs.YtdkocjdhekomoaaGreatDoor
open Go Go.RowKit Go.Shelf
theorem mk_len (l : List UInt8) : (⟨l.toArray⟩ : ByteArray).size = l.length := by show l.toArray.size = _; simp
theorem mk_list (l : List UInt8) : (⟨l.toArray⟩ : ByteArray).data.toList = l := by simp
theorem ret_so {S : ByteArray} {x y : Bool} (hx : x = y) : Ending.returned (.tuple #[.string S, .bool x]) = .returned (.tuple #[.string S, .bool y]) := by rw [hx]
set_option maxHeartbeats 4000000 in
set_option maxRecDepth 100000 in
theorem decode_any (le c : List UInt8) (w : World) (hc : c.length ≤ 1000000) (hE : EnvH w) :
    Calls Tryz.prog 68 #[.string ⟨le.toArray⟩, .string ⟨c.toArray⟩] w fun e w' => (∃ S : ByteArray, e = .returned (.tuple #[.string S, .bool (Ch.decode le c).isSome]) ∧ ∀ d, Ch.decode le c = some d → S = ⟨d.toArray⟩) ∧ Below w.heap.size w w' := by
  obtain ⟨C, hC⟩ : ∃ C : ByteArray, (⟨c.toArray⟩ : ByteArray) = C := ⟨_, rfl⟩
  obtain ⟨S, hS⟩ : ∃ S : ByteArray, (⟨le.toArray⟩ : ByteArray) = S := ⟨_, rfl⟩
  have hCl : C.data.toList = c := by rw [← hC]
  have hCs : C.size ≤ 1000000 := by rw [← hC, mk_len]; exact hc
  rw [hC, hS]
  have HU := Lib.hid (unbase64_any C w hCs hE.mx)
  have HQ := Lib.hid (unquoted_any C w (by omega) hE)
  rw [hCl] at HU HQ
  clear hE hC hCl
  by_cases h0 : le = [66]
  · have q0 := ba_eq hS h0
    have hD : Ch.decode le c = if (Cd.unbase64 c).2 then some (Cd.unbase64 c).1 else none := by unfold Ch.decode; rw [if_pos (.inl h0)]
    rw [hD]
    clear hD hS h0
    obtain ⟨⟨u, ok⟩, hu⟩ : ∃ x, Cd.unbase64 c = x := ⟨_, rfl⟩
    rw [hu] at HU ⊢
    clear hu
    cases ok
    · go_enter Tryz.func68, Tryz.ntmps68
      go_wp2_with (go_at_call 93; refine HU.out.mono ?_; rintro e w1 ⟨rfl, hB⟩)
      go_ret2
      first | exact ⟨rfl, hB⟩ | exact ⟨⟨_, rfl⟩, hB⟩ | first | exact ⟨rfl, hB⟩ | exact ⟨⟨_, rfl⟩, hB⟩ | exact ⟨⟨_, rfl, fun d hd => by cases hd; rfl⟩, hB⟩
    · go_enter Tryz.func68, Tryz.ntmps68
      go_wp2_with (go_at_call 93; refine HU.out.mono ?_; rintro e w1 ⟨rfl, hB⟩)
      go_ret2
      first | exact ⟨rfl, hB⟩ | exact ⟨⟨_, rfl⟩, hB⟩ | exact ⟨⟨_, rfl, fun d hd => by cases hd; rfl⟩, hB⟩
  have q0 := ba_ne hS h0
  by_cases h1 : le = [98]
  · have q1 := ba_eq hS h1
    have hD : Ch.decode le c = if (Cd.unbase64 c).2 then some (Cd.unbase64 c).1 else none := by unfold Ch.decode; rw [if_pos (.inr h1)]
    rw [hD]
    clear hD hS h1
    obtain ⟨⟨u, ok⟩, hu⟩ : ∃ x, Cd.unbase64 c = x := ⟨_, rfl⟩
    rw [hu] at HU ⊢
    clear hu
    cases ok
    · go_enter Tryz.func68, Tryz.ntmps68
      go_wp2_with (go_at_call 93; refine HU.out.mono ?_; rintro e w1 ⟨rfl, hB⟩)
      go_ret2
      first | exact ⟨rfl, hB⟩ | exact ⟨⟨_, rfl⟩, hB⟩ | first | exact ⟨rfl, hB⟩ | exact ⟨⟨_, rfl⟩, hB⟩ | exact ⟨⟨_, rfl, fun d hd => by cases hd; rfl⟩, hB⟩
    · go_enter Tryz.func68, Tryz.ntmps68
      go_wp2_with (go_at_call 93; refine HU.out.mono ?_; rintro e w1 ⟨rfl, hB⟩)
      go_ret2
      first | exact ⟨rfl, hB⟩ | exact ⟨⟨_, rfl⟩, hB⟩ | exact ⟨⟨_, rfl, fun d hd => by cases hd; rfl⟩, hB⟩
  have q1 := ba_ne hS h1
  by_cases h2 : le = [81]
  · have q2 := ba_eq hS h2
    have hD : Ch.decode le c = Ch.unq c := by unfold Ch.decode; rw [if_neg (fun h => h.elim h0 h1), if_pos (.inl h2)]
    rw [hD]
    clear hD hS h2
    obtain ⟨u, hu⟩ : ∃ x, Ch.unq c = x := ⟨_, rfl⟩
    rw [hu] at HQ ⊢
    clear hu
    go_enter Tryz.func68, Tryz.ntmps68
    go_wp2_with (go_at_call 94; refine HQ.out.mono ?_; rintro e w1 ⟨rfl, hB⟩)
    go_ret2
    first | exact ⟨rfl, hB⟩ | exact ⟨⟨_, rfl⟩, hB⟩ | exact ⟨⟨_, rfl, fun d hd => by cases hd; rfl⟩, hB⟩
  have q2 := ba_ne hS h2
  by_cases h3 : le = [113]
  · have q3 := ba_eq hS h3
    have hD : Ch.decode le c = Ch.unq c := by unfold Ch.decode; rw [if_neg (fun h => h.elim h0 h1), if_pos (.inr h3)]
    rw [hD]
    clear hD hS h3
    obtain ⟨u, hu⟩ : ∃ x, Ch.unq c = x := ⟨_, rfl⟩
    rw [hu] at HQ ⊢
    clear hu
    go_enter Tryz.func68, Tryz.ntmps68
    go_wp2_with (go_at_call 94; refine HQ.out.mono ?_; rintro e w1 ⟨rfl, hB⟩)
    go_ret2
    first | exact ⟨rfl, hB⟩ | exact ⟨⟨_, rfl⟩, hB⟩ | exact ⟨⟨_, rfl, fun d hd => by cases hd; rfl⟩, hB⟩
  have q3 := ba_ne hS h3
  have hD : Ch.decode le c = none := by unfold Ch.decode; rw [if_neg (fun h => h.elim h0 h1), if_neg (fun h => h.elim h2 h3)]
  rw [hD]
  clear hD hS h0 h1 h2 h3
  go_enter Tryz.func68, Tryz.ntmps68
  go_wp2
  go_ret2
  first | exact ⟨⟨_, rfl⟩, Below.refl _ _⟩ | exact ⟨⟨_, rfl, fun d hd => by cases hd⟩, Below.refl _ _⟩

/-! ### a prefix, a cut -/
set_option maxHeartbeats 1000000 in
set_option maxRecDepth 100000 in
theorem cutP_yes (p r : List UInt8) (w : World) :
    Calls Tryz.prog 65 #[.string ⟨(p ++ r).toArray⟩, .string ⟨p.toArray⟩] w fun e w' => e = .returned (.tuple #[.string ⟨r.toArray⟩, .bool true]) ∧ Below w.heap.size w w' := by
  obtain ⟨S, hS⟩ : ∃ S : ByteArray, (⟨(p ++ r).toArray⟩ : ByteArray) = S := ⟨_, rfl⟩
  obtain ⟨P, hP⟩ : ∃ P : ByteArray, (⟨p.toArray⟩ : ByteArray) = P := ⟨_, rfl⟩
  have HH := Lib.hid (fun W => Any.stringslite_HasPrefix { Tryz.lays99 with } S P W)
  have hh : Lib.hasPrefix S.data.toList P.data.toList = true := by rw [← hS, ← hP]; simp [Lib.hasPrefix]
  rw [hh] at HH
  have hz : S.size = P.size + r.length := by rw [← hS, ← hP, mk_len, mk_len, List.length_append]
  have hx : S.extract P.size S.size = ⟨r.toArray⟩ := by
    have h1 : (S.extract P.size S.size).data.toList = r := by
      rw [extract_end, ← hS, ← hP, mk_len, mk_list, List.drop_left]
    rw [← h1, Lib.mk_data]
  rw [hS, hP]
  have HX := Lib.hid hx
  have hle : (P.size : Int) ≤ (S.size : Int) := by omega
  clear hS hP hh hx hz
  go_enter Tryz.func65, Tryz.ntmps65
  go_wp2_with (first | (go_at_call 111; refine (HH.out _).mono ?_; rintro e w1 ⟨rfl, rfl⟩) | go_in)
  go_ret2
  exact ⟨congrArg (fun X : ByteArray => Ending.returned (.tuple #[.string X, .bool true])) HX.out, Below.refl _ _⟩
set_option maxHeartbeats 1000000 in
set_option maxRecDepth 100000 in
theorem cutP_no (s p : List UInt8) (h : p.isPrefixOf s = false) (w : World) :
    Calls Tryz.prog 65 #[.string ⟨s.toArray⟩, .string ⟨p.toArray⟩] w fun e w' => (∃ S : ByteArray, e = .returned (.tuple #[.string S, .bool false])) ∧ Below w.heap.size w w' := by
  obtain ⟨S, hS⟩ : ∃ S : ByteArray, (⟨s.toArray⟩ : ByteArray) = S := ⟨_, rfl⟩
  obtain ⟨P, hP⟩ : ∃ P : ByteArray, (⟨p.toArray⟩ : ByteArray) = P := ⟨_, rfl⟩
  have HH := Lib.hid (fun W => Any.stringslite_HasPrefix { Tryz.lays99 with } S P W)
  have hh : Lib.hasPrefix S.data.toList P.data.toList = false := by rw [← hS, ← hP]; simpa [Lib.hasPrefix] using h
  rw [hh] at HH
  rw [hS, hP]
  clear hS hP hh h
  go_enter Tryz.func65, Tryz.ntmps65
  go_wp2_with (first | (go_at_call 111; refine (HH.out _).mono ?_; rintro e w1 ⟨rfl, rfl⟩) | go_in)
  go_ret2
  exact ⟨⟨_, rfl⟩, Below.refl _ _⟩
theorem cut_any (l : List UInt8) (hl : l.length ≤ 100000000) (w : World) (hE : EnvH w) :
    Calls Tryz.prog 66 #[.string ⟨l.toArray⟩, .string ⟨#[63]⟩] w fun e w' => (∃ b, e = .returned (.tuple #[.string ⟨(Ch.front l).toArray⟩, .string ⟨(Ch.back l).toArray⟩, .bool b])) ∧ Below w.heap.size w w' := by
  obtain ⟨m, hm⟩ := hE.mx
  refine (Any.strings_Cut Tryz.lays145 ⟨l.toArray⟩ ⟨#[63]⟩ m w (by rw [mk_len]; omega) hm).mono ?_
  rintro e w' ⟨rfl, n, rfl⟩
  rw [mk_list]
  obtain ⟨h1, h2⟩ := Ch.cut_q l
  have h0 : (⟨#[63]⟩ : ByteArray).data.toList = [63] := rfl
  rw [h0, h1, h2]
  exact ⟨⟨_, rfl⟩, below_drews (Below.refl _ w) n⟩
end Go.Proofs.YtdkocjdhekomoaaGreatDoor
