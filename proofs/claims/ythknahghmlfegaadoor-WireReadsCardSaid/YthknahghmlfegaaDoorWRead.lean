/-
  Reading numbers, bytes and strings.
-/
import Derived.Test.YthknahghmlfegaaDoorWInt
namespace Go.Proofs.YthknahghmlfegaaDoor
open Go Go.RowKit Go.Shelf

namespace Wr
theorem takeInt_len {e : UInt8} {l r : List UInt8} {n : Int} (h : takeInt e l = some (n, r)) : r.length ≤ l.length := by
  rw [(takeInt_some h).1]; simp; omega
theorem takeNum_len {e : UInt8} {l r : List UInt8} {n : Int} (h : takeNum e l = some (n, r)) : r.length ≤ l.length := by
  rw [(takeNum_some h).1]; simp; omega
theorem rOf_size {α : Type} {f : List UInt8 → Option (α × List UInt8)} (hf : ∀ l x r, f l = some (x, r) → r.length ≤ l.length) (l : List UInt8) : (rOf (f l)).size ≤ l.length := by
  cases h : f l with
  | none => exact Nat.zero_le _
  | some p => show (⟨p.2.toArray⟩ : ByteArray).size ≤ _; rw [bs_len]; exact hf l p.1 p.2 h
end Wr

set_option maxHeartbeats 1000000 in
set_option maxRecDepth 100000 in
theorem number_any (e : UInt8) (g : Nat) (r : ByteArray) (bad : Bool) (W : World) (h : Rd W g r bad) (hE : Env W) (hs : r.size ≤ 1000000) :
    Calls Tryd.prog 46 #[.pointer (some ⟨g, 0, none⟩), .string ⟨#[e]⟩] W fun x w' =>
      x = .returned (.int .i64 (Wr.vOf 0 (Wr.takeNum e r.data.toList))) ∧ Rd w' g (Wr.rOf (Wr.takeNum e r.data.toList)) (Wr.bOf bad (Wr.takeNum e r.data.toList)) ∧ Gr g W w' := by
  have HI := Lib.hid (integer_any e g r bad W h hE hs)
  clear h hE
  unfold Wr.takeNum
  cases hx : Wr.takeInt e r.data.toList with
  | none =>
    rw [hx] at HI
    clear hx
    go_enter Tryd.func46, Tryd.ntmps46
    go_wp2_with fail
    refine HI.out.mono ?_
    rintro x w1 ⟨rfl, h1, h2⟩
    have H1 := Lib.hid h1
    clear h1
    simp only [Wr.vOf]
    go_wp2
    go_ret
    exact ⟨rfl, H1.out, h2⟩
  | some p =>
    obtain ⟨n, t⟩ := p
    rw [hx] at HI
    simp only [Wr.vOf] at HI
    clear hx
    by_cases hn : n < 0
    · simp only [if_pos hn]
      go_enter Tryd.func46, Tryd.ntmps46
      go_wp2_with fail
      refine HI.out.mono ?_
      rintro x w1 ⟨rfl, h1, h2⟩
      have H1 := Lib.hid h1
      clear h1
      go_wp2_with fail
      refine (fail_any g _ _ _ H1.out).mono ?_
      rintro x w3 ⟨⟨v3, rfl⟩, h3, h4⟩
      go_wp2
      go_ret
      exact ⟨rfl, h3, Gr.trans h2 h4⟩
    · simp only [if_neg hn]
      go_enter Tryd.func46, Tryd.ntmps46
      go_wp2_with fail
      refine HI.out.mono ?_
      rintro x w1 ⟨rfl, h1, h2⟩
      have H1 := Lib.hid h1
      clear h1
      go_wp2
      go_ret
      exact ⟨rfl, H1.out, h2⟩

set_option maxHeartbeats 1000000 in
set_option maxRecDepth 100000 in
theorem num_any (g : Nat) (r : ByteArray) (bad : Bool) (W : World) (h : Rd W g r bad) (hE : Env W) (hs : r.size ≤ 1000000) :
    Calls Tryd.prog 24 #[.pointer (some ⟨g, 0, none⟩)] W fun x w' =>
      x = .returned (.int .i64 (Wr.vOf 0 (Wr.takeNum 59 r.data.toList))) ∧ Rd w' g (Wr.rOf (Wr.takeNum 59 r.data.toList)) (Wr.bOf bad (Wr.takeNum 59 r.data.toList)) ∧ Gr g W w' := by
  have HI := Lib.hid (number_any 59 g r bad W h hE hs)
  clear h hE
  generalize Wr.takeNum 59 r.data.toList = X at HI ⊢
  generalize Wr.vOf 0 X = n at HI ⊢
  go_enter Tryd.func24, Tryd.ntmps24
  go_wp2_with fail
  refine HI.out.mono ?_
  rintro x w1 ⟨rfl, h1, h2⟩
  have H1 := Lib.hid h1
  clear h1
  go_wp2
  go_ret
  exact ⟨rfl, H1.out, h2⟩

set_option maxHeartbeats 1000000 in
set_option maxRecDepth 100000 in
theorem int_any (g : Nat) (r : ByteArray) (bad : Bool) (W : World) (h : Rd W g r bad) (hE : Env W) (hs : r.size ≤ 1000000) :
    Calls Tryd.prog 26 #[.pointer (some ⟨g, 0, none⟩)] W fun x w' =>
      x = .returned (.int .i64 (Wr.vOf 0 (Wr.takeInt 59 r.data.toList))) ∧ Rd w' g (Wr.rOf (Wr.takeInt 59 r.data.toList)) (Wr.bOf bad (Wr.takeInt 59 r.data.toList)) ∧ Gr g W w' := by
  have HI := Lib.hid (integer_any 59 g r bad W h hE hs)
  clear h hE
  generalize Wr.takeInt 59 r.data.toList = X at HI ⊢
  generalize Wr.vOf 0 X = n at HI ⊢
  go_enter Tryd.func26, Tryd.ntmps26
  go_wp2_with fail
  refine HI.out.mono ?_
  rintro x w1 ⟨rfl, h1, h2⟩
  have H1 := Lib.hid h1
  clear h1
  go_wp2
  go_ret
  exact ⟨rfl, H1.out, h2⟩

namespace Wr
theorem prefix_skip (e : UInt8) (l t : List UInt8) (h : skip e l = some t) : Lib.trimPrefix l [e] = t ∧ Lib.hasPrefix l [e] = true := by
  rw [skip_some h]
  have : Lib.hasPrefix (e :: t) [e] = true := by unfold Lib.hasPrefix; simp
  exact ⟨by unfold Lib.trimPrefix; rw [if_pos this]; rfl, this⟩
theorem prefix_no (e : UInt8) (l : List UInt8) (h : skip e l = none) : Lib.hasPrefix l [e] = false := by
  cases l with
  | nil => rfl
  | cons c r =>
    unfold skip at h
    simp only at h
    split at h
    · cases h
    · rename_i hc
      have : (e == c) = false := by simpa using fun h => hc h.symm
      show (e == c && List.isPrefixOf [] r) = false
      rw [this]; rfl
theorem skip_len {e : UInt8} {l t : List UInt8} (h : skip e l = some t) : t.length + 1 = l.length := by rw [skip_some h]; simp
end Wr

set_option maxHeartbeats 1000000 in
set_option maxRecDepth 100000 in
theorem skip_no (e : UInt8) (g : Nat) (r : ByteArray) (bad : Bool) (W : World) (h : Rd W g r bad) (hx : Wr.skip e r.data.toList = none) :
    Calls Tryd.prog 51 #[.pointer (some ⟨g, 0, none⟩), .string ⟨#[e]⟩] W fun x w' => x = .returned (.bool false) ∧ Rd w' g ⟨#[]⟩ true ∧ Gr g W w' := by
  have hc0 := h.c0
  have HR := Lib.hid h
  have HC := Lib.hid (fun W => Any.strings_CutPrefix Tryd.lays103 r ⟨#[e]⟩ W)
  simp only [Wr.prefix_no e _ hx] at HC
  clear h hx
  go_enter Tryd.func51, Tryd.ntmps51
  go_wp2_with fail
  refine (HC.out _).mono ?_
  rintro x w1 ⟨rfl, hw⟩
  rw [hw]
  clear hw
  go_wp2_with fail
  refine (fail_any g _ _ _ HR.out).mono ?_
  rintro x w3 ⟨⟨v3, rfl⟩, h3, h4⟩
  go_wp2
  go_ret
  exact ⟨rfl, h3, h4⟩

set_option maxHeartbeats 1000000 in
set_option maxRecDepth 100000 in
theorem skip_yes (e : UInt8) (g : Nat) (r : ByteArray) (bad : Bool) (W : World) (h : Rd W g r bad) {t : List UInt8} (hx : Wr.skip e r.data.toList = some t) :
    Calls Tryd.prog 51 #[.pointer (some ⟨g, 0, none⟩), .string ⟨#[e]⟩] W fun x w' => x = .returned (.bool true) ∧ Rd w' g ⟨t.toArray⟩ bad ∧ Gr g W w' := by
  have hc0 := h.c0
  have hf0 := h.f0
  have HR := Lib.hid h
  have HC := Lib.hid (fun W => Any.strings_CutPrefix Tryd.lays103 r ⟨#[e]⟩ W)
  simp only [(Wr.prefix_skip e _ _ hx).1, (Wr.prefix_skip e _ _ hx).2] at HC
  clear h hx
  go_enter Tryd.func51, Tryd.ntmps51
  go_wp2_with fail
  refine (HC.out _).mono ?_
  rintro x w1 ⟨rfl, hw⟩
  rw [hw]
  clear hw
  go_wp2_with fail
  go_ret
  exact ⟨rfl, HR.out.set0 _, Gr.set _ _ _⟩

/-- Text, behind what number has read: the string is longer than what is left. -/
theorem text_long (g : Nat) (W : World) (k : Nat) (R : ByteArray) (b : Bool) (hk : R.size < k)
    (HN : Hid (Calls Tryd.prog 46 #[.pointer (some ⟨g, 0, none⟩), .string ⟨#[58]⟩] W fun x w' => x = .returned (.int .i64 (k : Int)) ∧ Rd w' g R b ∧ Gr g W w')) :
    Calls Tryd.prog 28 #[.pointer (some ⟨g, 0, none⟩)] W fun x w' => x = .returned (.string ⟨#[]⟩) ∧ Rd w' g ⟨#[]⟩ true ∧ Gr g W w' := by
  go_enter Tryd.func28, Tryd.ntmps28
  go_wp2_with fail
  refine HN.out.mono ?_
  rintro x w1 ⟨rfl, h1, h2⟩
  have hc0 := h1.c0
  have H1 := Lib.hid h1
  clear h1
  go_wp2_with fail
  refine (fail_any g _ _ _ H1.out).mono ?_
  rintro x w3 ⟨⟨v3, rfl⟩, h3, h4⟩
  go_wp2
  go_ret
  exact ⟨rfl, h3, Gr.trans h2 h4⟩

set_option maxHeartbeats 1000000 in
set_option maxRecDepth 100000 in
theorem text_no (g : Nat) (W : World) (k : Nat) (R : ByteArray) (b : Bool) (hk : k ≤ R.size) (hx : Wr.skip 44 (R.data.toList.drop k) = none)
    (HN : Hid (Calls Tryd.prog 46 #[.pointer (some ⟨g, 0, none⟩), .string ⟨#[58]⟩] W fun x w' => x = .returned (.int .i64 (k : Int)) ∧ Rd w' g R b ∧ Gr g W w')) :
    Calls Tryd.prog 28 #[.pointer (some ⟨g, 0, none⟩)] W fun x w' => x = .returned (.string ⟨#[]⟩) ∧ Rd w' g ⟨#[]⟩ true ∧ Gr g W w' := by
  have HX := Lib.hid hx
  clear hx
  go_enter Tryd.func28, Tryd.ntmps28
  go_wp2_with fail
  refine HN.out.mono ?_
  rintro x w1 ⟨rfl, h1, h2⟩
  have hc0 := h1.c0
  have hf0 := h1.f0
  have H1 := Lib.hid h1
  clear h1
  go_wp2_with fail
  refine (skip_no 44 g _ _ _ (H1.out.set0 _) (by rw [Lib.extract_to_end]; exact HX.out)).mono ?_
  rintro x w3 ⟨rfl, h3, h4⟩
  go_wp2
  go_ret
  exact ⟨rfl, h3, Gr.trans (Gr.trans h2 (Gr.set _ _ _)) h4⟩

set_option maxHeartbeats 1000000 in
set_option maxRecDepth 100000 in
theorem text_yes (g : Nat) (W : World) (k : Nat) (R : ByteArray) (b : Bool) (hk : k ≤ R.size) {t : List UInt8} (hx : Wr.skip 44 (R.data.toList.drop k) = some t)
    (HN : Hid (Calls Tryd.prog 46 #[.pointer (some ⟨g, 0, none⟩), .string ⟨#[58]⟩] W fun x w' => x = .returned (.int .i64 (k : Int)) ∧ Rd w' g R b ∧ Gr g W w')) :
    Calls Tryd.prog 28 #[.pointer (some ⟨g, 0, none⟩)] W fun x w' => x = .returned (.string ⟨(R.data.toList.take k).toArray⟩) ∧ Rd w' g ⟨t.toArray⟩ b ∧ Gr g W w' := by
  have HX := Lib.hid hx
  clear hx
  go_enter Tryd.func28, Tryd.ntmps28
  go_wp2_with fail
  refine HN.out.mono ?_
  rintro x w1 ⟨rfl, h1, h2⟩
  have hc0 := h1.c0
  have hf0 := h1.f0
  have H1 := Lib.hid h1
  clear h1
  go_wp2_with fail
  refine (skip_yes 44 g _ _ _ (H1.out.set0 _) (t := t) (by rw [Lib.extract_to_end]; exact HX.out)).mono ?_
  rintro x w3 ⟨rfl, h3, h4⟩
  go_wp2
  go_ret
  exact ⟨ret_str (by apply ByteArray.ext; apply Array.ext'; rw [ByteArray.data_extract, Array.toList_extract]; simp [List.extract]), h3, Gr.trans (Gr.trans h2 (Gr.set _ _ _)) h4⟩

theorem text_any (g : Nat) (r : ByteArray) (bad : Bool) (W : World) (h : Rd W g r bad) (hE : Env W) (hs : r.size ≤ 1000000) :
    Calls Tryd.prog 28 #[.pointer (some ⟨g, 0, none⟩)] W fun x w' =>
      x = .returned (.string ⟨(Wr.vOf [] (Wr.takeText r.data.toList)).toArray⟩) ∧ Rd w' g (Wr.rOf (Wr.takeText r.data.toList)) (Wr.bOf bad (Wr.takeText r.data.toList)) ∧ Gr g W w' := by
  have HN := number_any 58 g r bad W h hE hs
  unfold Wr.takeText
  cases hx : Wr.takeNum 58 r.data.toList with
  | none =>
    rw [hx] at HN
    exact text_no g W 0 ⟨#[]⟩ true (Nat.zero_le _) rfl HN
  | some p =>
    obtain ⟨n, t⟩ := p
    have h0 := (Wr.takeNum_some hx).2.2
    rw [hx] at HN
    have hlen := Wr.takeNum_len hx
    obtain ⟨k, rfl⟩ : ∃ k : Nat, n = (k : Int) := ⟨n.toNat, by omega⟩
    simp only [Int.toNat_natCast]
    have hR : (⟨t.toArray⟩ : ByteArray).size = t.length := Wr.bs_len t
    by_cases hlt : t.length < k
    · simp only [if_pos hlt]
      exact text_long g W k ⟨t.toArray⟩ bad (by omega) HN
    · simp only [if_neg hlt]
      cases hk : Wr.skip 44 (t.drop k) with
      | none => exact text_no g W k ⟨t.toArray⟩ bad (by omega) hk HN
      | some u => exact text_yes g W k ⟨t.toArray⟩ bad (by omega) hk HN
end Go.Proofs.YthknahghmlfegaaDoor
