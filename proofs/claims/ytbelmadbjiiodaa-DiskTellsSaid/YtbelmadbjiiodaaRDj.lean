/-
  The reference's Write.
-/
import Derived.Test.YtbelmadbjiiodaaRDi
namespace Go.Proofs.Ytbelmadbjiiodaa
open Go Go.RowKit
namespace Dk
theorem comes_len (D : Disk) (x : Option (Int × Int × B)) : (comes D x).queue.length ≤ D.queue.length := by
  unfold comes
  by_cases h : D.down = true ∨ D.armed = 0
  · rw [if_pos h]; exact Nat.le_refl _
  · rw [if_neg h]
    have hd : D.down = false := by cases hd : D.down <;> simp_all
    have key : ∀ (E : Disk) (ks : List Int), E.down = false → (crash E ks).queue.length ≤ D.queue.length := fun E ks he => by
      unfold crash
      rw [he]
      exact Nat.zero_le _
    by_cases h2 : 1 < D.armed
    · rw [if_pos h2]; exact Nat.le_refl _
    · rw [if_neg h2]
      cases x with
      | none => exact key _ _ hd
      | some x =>
        obtain ⟨f, at_, s⟩ := x
        refine key _ _ ?_
        split
        · exact hd
        · exact hd
theorem may_file_of {D : Disk} {f : Int} (h : may D f = .ok) : 0 ≤ f ∧ f ≤ 11 := by
  by_cases hd : D.down = true
  · rw [may_down hd] at h; cases h
  · by_cases hf : f < 0 ∨ 11 < f
    · rw [may_arg (by simpa using hd) hf] at h; cases h
    · omega
theorem ec_ne {e : E} (h : e ≠ .ok) : (ec e == 0) = false ∧ (ec e != 0) = true := by cases e <;> simp_all [ec]
end Dk
set_option maxHeartbeats 8000000 in
set_option maxRecDepth 100000 in
theorem rwrite_any {w : World} {g : Nat} {D : Dk.Disk} (h : RAt w g D) (f at_ : Int) (s : ByteArray) (h0 : -9223372036854775808 ≤ at_) (h1 : at_ ≤ 9223372036854775807) (hs : s.size ≤ 100000000) (hq : D.queue.length + s.size ≤ 1000000) : Calls Try.prog 34 #[.pointer (some ⟨g, 0, none⟩), .int .i64 f, .int .i64 at_, .string s] w fun e w' => e = .returned (.int .i64 (Dk.ec (Dk.write D f at_ s.data.toList).1)) ∧ RAt w' g (Dk.write D f at_ s.data.toList).2 ∧ RMv g w w' := by
  have CC := Lib.hid (rcomes_any h f at_ s h0 h1 hs hq)
  have hql := Dk.comes_len D (some (f, at_, s.data.toList))
  obtain ⟨R, hR⟩ : ∃ R, Dk.write D f at_ s.data.toList = R := ⟨_, rfl⟩
  rw [hR]
  unfold Dk.write at hR
  obtain ⟨D1, hD1⟩ : ∃ x, Dk.comes D (some (f, at_, s.data.toList)) = x := ⟨_, rfl⟩
  rw [hD1] at hR hql CC
  have CM := Lib.hid (fun (w1 : World) (hA : RAt w1 g D1) => rmay_any hA f)
  have CF := Lib.hid (rfits_any at_ h0 h1 s hs)
  clear hD1 h
  unfold Dk.writeB at hR
  by_cases hm : Dk.may D1 f = .ok
  · rw [if_pos hm] at hR
    rw [hm] at CM
    obtain ⟨hfl0, hfl1⟩ := Dk.may_file_of hm
    obtain ⟨fn, rfl⟩ : ∃ n : Nat, f = (n : Int) := ⟨f.toNat, by omega⟩
    by_cases ha : at_ < 0
    · rw [if_pos ha] at hR
      subst hR
      clear hm
      go_enter Try.func34, Try.ntmps34
      go_wp2_with (first | (go_at_call 51; with_reducible refine CC.out.mono ?_; rintro _ w1 ⟨⟨v1, rfl⟩, hA1, hM1⟩) | (go_at_call 44; with_reducible refine (CM.out _ hA1).mono ?_; rintro _ w2 ⟨rfl, rfl⟩))
      go_ret
      exact ⟨rfl, hA1, hM1⟩
    · rw [if_neg ha] at hR
      have ha' : ¬ at_ < 0 := ha
      cases hfit : Dk.fits at_ s.data.toList with
      | false =>
        rw [hfit, if_neg (by decide)] at hR
        rw [hfit] at CF
        subst hR
        clear hm hfit
        go_enter Try.func34, Try.ntmps34
        go_wp2_with (first | (go_at_call 51; with_reducible refine CC.out.mono ?_; rintro _ w1 ⟨⟨v1, rfl⟩, hA1, hM1⟩) | (go_at_call 44; with_reducible refine (CM.out _ hA1).mono ?_; rintro _ w2 ⟨rfl, rfl⟩) | (go_at_call 52; with_reducible refine (CF.out _).mono ?_; rintro _ w3 ⟨rfl, rfl⟩))
        go_ret
        exact ⟨rfl, hA1, hM1⟩
      | true =>
        have hb : 0 ≤ at_ ∧ at_ + (s.data.toList.length : Int) ≤ 16777216 := by simpa [Dk.fits] using hfit
        obtain ⟨an, rfl⟩ : ∃ n : Nat, at_ = (n : Int) := ⟨at_.toNat, by omega⟩
        rw [hfit, if_pos rfl, Int.toNat_natCast, Int.toNat_natCast] at hR
        rw [hfit] at CF
        subst hR
        have CAD := Lib.hid (fun (w1 : World) (hA : RAt w1 g D1) => radd_any hA fn an (by omega) s (by rw [Lib.size_eq]; omega) (by omega))
        clear hm hfit hb
        go_enter Try.func34, Try.ntmps34
        go_wp2_with (first | (go_at_call 51; with_reducible refine CC.out.mono ?_; rintro _ w1 ⟨⟨v1, rfl⟩, hA1, hM1⟩) | (go_at_call 44; with_reducible refine (CM.out _ hA1).mono ?_; rintro _ w2 ⟨rfl, rfl⟩) | (go_at_call 52; with_reducible refine (CF.out _).mono ?_; rintro _ w3 ⟨rfl, rfl⟩) | (go_at_call 53; with_reducible refine (CAD.out _ hA1).mono ?_; rintro _ w4 ⟨⟨v4, rfl⟩, hA4, hM4⟩))
        go_ret
        exact ⟨rfl, hA4, hM1.trans hM4⟩
  · rw [if_neg hm] at hR
    obtain ⟨x, hx⟩ : ∃ x, Dk.ec (Dk.may D1 f) = x := ⟨_, rfl⟩
    have hne := Dk.ec_ne hm
    rw [hx] at CM hne
    obtain ⟨e1, e2⟩ := hne
    have HX : RowKit.Hid (x = Dk.ec R.1) := Lib.hid (by rw [← hx, ← hR])
    have HRR : RowKit.Hid (D1 = R.2) := Lib.hid (by rw [← hR])
    clear hm hx hR
    go_enter Try.func34, Try.ntmps34
    go_wp2_with (first | (go_at_call 51; with_reducible refine CC.out.mono ?_; rintro _ w1 ⟨⟨v1, rfl⟩, hA1, hM1⟩) | (go_at_call 44; with_reducible refine (CM.out _ hA1).mono ?_; rintro _ w2 ⟨rfl, rfl⟩))
    go_ret
    exact ⟨ret_int HX.out, by rw [← HRR.out]; exact hA1, hM1⟩
end Go.Proofs.Ytbelmadbjiiodaa
