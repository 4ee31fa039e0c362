/-
  The reference's reader: number, Num, Int, close, Text.
-/
import Derived.Test.YthknahghmlfegaaDoorWRq
namespace Go.Proofs.YthknahghmlfegaaDoor
open Go Go.RowKit Go.Shelf

theorem ahead_to (e : UInt8) (z : Int) (hz : (e.toNat : Int) = z) (g : Nat) (r : ByteArray) (bad : Bool) (W : World) (h : Rq W g r bad) (hs : r.size ≤ 1000000) :
    Calls Tryd.prog 49 #[.pointer (some ⟨g, 0, none⟩), .int .u8 z] W fun x w' =>
      x = .returned (.int .i64 (Wr.vOf 0 (Wr.takeInt e r.data.toList))) ∧ Rq w' g (Wr.rOf (Wr.takeInt e r.data.toList)) (Wr.bOf bad (Wr.takeInt e r.data.toList)) ∧ Gr g W w' := by
  rw [← hz]; exact ahead_any e g r bad W h hs

set_option maxHeartbeats 1000000 in
set_option maxRecDepth 100000 in
theorem rnumber_any (e : UInt8) (z : Int) (hz : (e.toNat : Int) = z) (g : Nat) (r : ByteArray) (bad : Bool) (W : World) (h : Rq W g r bad) (hs : r.size ≤ 1000000) :
    Calls Tryd.prog 47 #[.pointer (some ⟨g, 0, none⟩), .int .u8 z] W fun x w' =>
      x = .returned (.int .i64 (Wr.vOf 0 (Wr.takeNum e r.data.toList))) ∧ Rq w' g (Wr.rOf (Wr.takeNum e r.data.toList)) (Wr.bOf bad (Wr.takeNum e r.data.toList)) ∧ Gr g W w' := by
  have HI := Lib.hid (ahead_to e z hz g r bad W h hs)
  clear h hz
  unfold Wr.takeNum
  cases hx : Wr.takeInt e r.data.toList with
  | none =>
    rw [hx] at HI
    clear hx
    go_enter Tryd.func47, Tryd.ntmps47
    go_wp2_with fail
    refine HI.out.mono ?_
    rintro x w1 ⟨rfl, h1, h2⟩
    have H1 := Lib.hid h1
    clear h1
    simp only [Wr.vOf]
    go_wp2
    go_ret
    exact ⟨rfl, H1.out, h2⟩
  | some p =>
    obtain ⟨n, t⟩ := p
    rw [hx] at HI
    simp only [Wr.vOf] at HI
    clear hx
    by_cases hn : n < 0
    · simp only [if_pos hn]
      go_enter Tryd.func47, Tryd.ntmps47
      go_wp2_with fail
      refine HI.out.mono ?_
      rintro x w1 ⟨rfl, h1, h2⟩
      have H1 := Lib.hid h1
      clear h1
      go_wp2_with fail
      refine (rfail_any g _ _ _ H1.out).mono ?_
      rintro x w3 ⟨rfl, h3, h4⟩
      go_wp2
      go_ret
      exact ⟨rfl, h3, Gr.trans h2 h4⟩
    · simp only [if_neg hn]
      go_enter Tryd.func47, Tryd.ntmps47
      go_wp2_with fail
      refine HI.out.mono ?_
      rintro x w1 ⟨rfl, h1, h2⟩
      have H1 := Lib.hid h1
      clear h1
      go_wp2
      go_ret
      exact ⟨rfl, H1.out, h2⟩

set_option maxHeartbeats 1000000 in
set_option maxRecDepth 100000 in
theorem rrnum_any (g : Nat) (r : ByteArray) (bad : Bool) (W : World) (h : Rq W g r bad) (hs : r.size ≤ 1000000) :
    Calls Tryd.prog 25 #[.pointer (some ⟨g, 0, none⟩)] W fun x w' =>
      x = .returned (.int .i64 (Wr.vOf 0 (Wr.takeNum 59 r.data.toList))) ∧ Rq w' g (Wr.rOf (Wr.takeNum 59 r.data.toList)) (Wr.bOf bad (Wr.takeNum 59 r.data.toList)) ∧ Gr g W w' := by
  have HI := Lib.hid (rnumber_any 59 59 rfl g r bad W h hs)
  clear h
  generalize Wr.takeNum 59 r.data.toList = X at HI ⊢
  generalize Wr.vOf 0 X = n at HI ⊢
  go_enter Tryd.func25, Tryd.ntmps25
  go_wp2_with fail
  refine HI.out.mono ?_
  rintro x w1 ⟨rfl, h1, h2⟩
  have H1 := Lib.hid h1
  clear h1
  go_wp2
  go_ret
  exact ⟨rfl, H1.out, h2⟩

set_option maxHeartbeats 1000000 in
set_option maxRecDepth 100000 in
theorem rrint_any (g : Nat) (r : ByteArray) (bad : Bool) (W : World) (h : Rq W g r bad) (hs : r.size ≤ 1000000) :
    Calls Tryd.prog 27 #[.pointer (some ⟨g, 0, none⟩)] W fun x w' =>
      x = .returned (.int .i64 (Wr.vOf 0 (Wr.takeInt 59 r.data.toList))) ∧ Rq w' g (Wr.rOf (Wr.takeInt 59 r.data.toList)) (Wr.bOf bad (Wr.takeInt 59 r.data.toList)) ∧ Gr g W w' := by
  have HI := Lib.hid (ahead_to 59 59 rfl g r bad W h hs)
  clear h
  generalize Wr.takeInt 59 r.data.toList = X at HI ⊢
  generalize Wr.vOf 0 X = n at HI ⊢
  go_enter Tryd.func27, Tryd.ntmps27
  go_wp2_with fail
  refine HI.out.mono ?_
  rintro x w1 ⟨rfl, h1, h2⟩
  have H1 := Lib.hid h1
  clear h1
  go_wp2
  go_ret
  exact ⟨rfl, H1.out, h2⟩

set_option maxHeartbeats 1000000 in
set_option maxRecDepth 100000 in
theorem close_empty (z : Int) (g : Nat) (r : ByteArray) (bad : Bool) (W : World) (h : Rq W g r bad) (h0 : r.size = 0) :
    Calls Tryd.prog 53 #[.pointer (some ⟨g, 0, none⟩), .int .u8 z] W fun x w' => x = .returned (.bool false) ∧ Rq w' g ⟨#[]⟩ true ∧ Gr g W w' := by
  have hc0 := h.c0
  have HR := Lib.hid h
  have hb : ((r.size : Int) == 0) = true := by rw [h0]; rfl
  clear h h0
  go_enter Tryd.func53, Tryd.ntmps53
  go_wp2_with fail
  refine (rfail_any g _ _ _ HR.out).mono ?_
  rintro x w3 ⟨rfl, h3, h4⟩
  go_wp2
  go_ret
  exact ⟨rfl, h3, h4⟩

set_option maxHeartbeats 1000000 in
set_option maxRecDepth 100000 in
theorem close_other (z : Int) (g : Nat) (r : ByteArray) (bad : Bool) (W : World) (h : Rq W g r bad) (h0 : 0 < r.size) (hc : (r[0].toNat : Int) ≠ z) :
    Calls Tryd.prog 53 #[.pointer (some ⟨g, 0, none⟩), .int .u8 z] W fun x w' => x = .returned (.bool false) ∧ Rq w' g ⟨#[]⟩ true ∧ Gr g W w' := by
  have hc0 := h.c0
  have HR := Lib.hid h
  have hb : ((r.size : Int) == 0) = false := by rw [beq_eq_false_iff_ne]; omega
  have hb1 : ((r[0].toNat : Int) == z) = false := by rw [beq_eq_false_iff_ne]; exact hc
  have hb2 : ((r[0].toNat : Int) != z) = true := by simp [bne, hb1]
  clear h hc
  go_enter Tryd.func53, Tryd.ntmps53
  go_wp2_with fail
  refine (rfail_any g _ _ _ HR.out).mono ?_
  rintro x w3 ⟨rfl, h3, h4⟩
  go_wp2
  go_ret
  exact ⟨rfl, h3, h4⟩

set_option maxHeartbeats 1000000 in
set_option maxRecDepth 100000 in
theorem close_here (z : Int) (g : Nat) (r : ByteArray) (bad : Bool) (W : World) (h : Rq W g r bad) (h0 : 0 < r.size) (hc : (r[0].toNat : Int) = z) (t : List UInt8) (ht : r.data.toList.drop 1 = t) :
    Calls Tryd.prog 53 #[.pointer (some ⟨g, 0, none⟩), .int .u8 z] W fun x w' => x = .returned (.bool true) ∧ Rq w' g ⟨t.toArray⟩ bad ∧ Gr g W w' := by
  have hc0 := h.c0
  have hf0 := h.f0
  have HR := Lib.hid h
  have hb : ((r.size : Int) == 0) = false := by rw [beq_eq_false_iff_ne]; omega
  have hb1 : ((r[0].toNat : Int) == z) = true := by rw [hc]; simp
  have hb2 : ((r[0].toNat : Int) != z) = false := by rw [hc]; simp
  have he : Hid (r.extract 1 r.size = ⟨t.toArray⟩) := by
    show _ = _
    apply ByteArray.ext; apply Array.ext'; rw [Lib.extract_to_end, ht]
  clear h hc ht
  go_enter Tryd.func53, Tryd.ntmps53
  go_wp2_with fail
  go_ret
  rw [← he.out]
  exact ⟨rfl, HR.out.set0 _, Gr.set _ _ _⟩

theorem first_of {r : ByteArray} {c : UInt8} {l : List UInt8} (h : r.data.toList = c :: l) : ∃ h0 : 0 < r.size, r[0] = c := by
  have hz := Lib.size_eq r
  rw [h, List.length_cons] at hz
  have h0 : 0 < r.size := by omega
  refine ⟨h0, ?_⟩
  have := Wr.get_some r 0 h0
  rw [h] at this
  simpa using this.symm
theorem close_no (e : UInt8) (z : Int) (hz : (e.toNat : Int) = z) (g : Nat) (r : ByteArray) (bad : Bool) (W : World) (h : Rq W g r bad) (hx : Wr.skip e r.data.toList = none) :
    Calls Tryd.prog 53 #[.pointer (some ⟨g, 0, none⟩), .int .u8 z] W fun x w' => x = .returned (.bool false) ∧ Rq w' g ⟨#[]⟩ true ∧ Gr g W w' := by
  cases hr : r.data.toList with
  | nil => exact close_empty z g r bad W h (by rw [Lib.size_eq, hr]; rfl)
  | cons c l =>
    obtain ⟨h0, h1⟩ := first_of hr
    refine close_other z g r bad W h h0 ?_
    rw [h1, ← hz]
    intro e2
    rw [hr] at hx
    have : c = e := UInt8.toNat_inj.1 (by omega)
    rw [this, Wr.skip_cons] at hx
    cases hx
theorem close_yes (e : UInt8) (z : Int) (hz : (e.toNat : Int) = z) (g : Nat) (r : ByteArray) (bad : Bool) (W : World) (h : Rq W g r bad) {t : List UInt8} (hx : Wr.skip e r.data.toList = some t) :
    Calls Tryd.prog 53 #[.pointer (some ⟨g, 0, none⟩), .int .u8 z] W fun x w' => x = .returned (.bool true) ∧ Rq w' g ⟨t.toArray⟩ bad ∧ Gr g W w' := by
  have hr := Wr.skip_some hx
  obtain ⟨h0, h1⟩ := first_of hr
  exact close_here z g r bad W h h0 (by rw [h1, hz]) t (by rw [hr]; rfl)

set_option maxHeartbeats 1000000 in
set_option maxRecDepth 100000 in
theorem rtext_bad (g : Nat) (W : World) (k : Nat) (R : ByteArray) 
    (HN : Hid (Calls Tryd.prog 47 #[.pointer (some ⟨g, 0, none⟩), .int .u8 58] W fun x w' => x = .returned (.int .i64 (k : Int)) ∧ Rq w' g R true ∧ Gr g W w')) :
    Calls Tryd.prog 29 #[.pointer (some ⟨g, 0, none⟩)] W fun x w' => x = .returned (.string ⟨#[]⟩) ∧ Rq w' g ⟨#[]⟩ true ∧ Gr g W w' := by
  go_enter Tryd.func29, Tryd.ntmps29
  go_wp2_with fail
  refine HN.out.mono ?_
  rintro x w1 ⟨rfl, h1, h2⟩
  have hc0 := h1.c0
  have hc1 := h1.c1
  have hf0 := h1.f0
  have H1 := Lib.hid h1
  clear h1
  go_wp2_with fail
  refine (rfail_any g _ _ _ H1.out).mono ?_
  rintro x w3 ⟨rfl, h3, h4⟩
  go_wp2
  go_ret
  exact ⟨rfl, h3, Gr.trans h2 h4⟩

set_option maxHeartbeats 1000000 in
set_option maxRecDepth 100000 in
theorem rtext_long (g : Nat) (W : World) (k : Nat) (R : ByteArray) (hk : R.size ≤ k)
    (HN : Hid (Calls Tryd.prog 47 #[.pointer (some ⟨g, 0, none⟩), .int .u8 58] W fun x w' => x = .returned (.int .i64 (k : Int)) ∧ Rq w' g R false ∧ Gr g W w')) :
    Calls Tryd.prog 29 #[.pointer (some ⟨g, 0, none⟩)] W fun x w' => x = .returned (.string ⟨#[]⟩) ∧ Rq w' g ⟨#[]⟩ true ∧ Gr g W w' := by
  go_enter Tryd.func29, Tryd.ntmps29
  go_wp2_with fail
  refine HN.out.mono ?_
  rintro x w1 ⟨rfl, h1, h2⟩
  have hc0 := h1.c0
  have hc1 := h1.c1
  have hf0 := h1.f0
  have H1 := Lib.hid h1
  clear h1
  go_wp2_with fail
  refine (rfail_any g _ _ _ H1.out).mono ?_
  rintro x w3 ⟨rfl, h3, h4⟩
  go_wp2
  go_ret
  exact ⟨rfl, h3, Gr.trans h2 h4⟩

set_option maxHeartbeats 1000000 in
set_option maxRecDepth 100000 in
theorem rtext_no (g : Nat) (W : World) (k : Nat) (R : ByteArray) (hk : k < R.size) (hx : Wr.skip 44 (R.data.toList.drop k) = none)
    (HN : Hid (Calls Tryd.prog 47 #[.pointer (some ⟨g, 0, none⟩), .int .u8 58] W fun x w' => x = .returned (.int .i64 (k : Int)) ∧ Rq w' g R false ∧ Gr g W w')) :
    Calls Tryd.prog 29 #[.pointer (some ⟨g, 0, none⟩)] W fun x w' => x = .returned (.string ⟨#[]⟩) ∧ Rq w' g ⟨#[]⟩ true ∧ Gr g W w' := by
  have HX := Lib.hid hx
  clear hx
  go_enter Tryd.func29, Tryd.ntmps29
  go_wp2_with fail
  refine HN.out.mono ?_
  rintro x w1 ⟨rfl, h1, h2⟩
  have hc0 := h1.c0
  have hc1 := h1.c1
  have hf0 := h1.f0
  have H1 := Lib.hid h1
  clear h1
  go_wp2_with fail
  refine (close_no 44 44 rfl g _ _ _ (H1.out.set0 _) (by rw [Lib.extract_to_end]; exact HX.out)).mono ?_
  rintro x w3 ⟨rfl, h3, h4⟩
  go_wp2
  go_ret
  exact ⟨rfl, h3, Gr.trans (Gr.trans h2 (Gr.set _ _ _)) h4⟩

set_option maxHeartbeats 1000000 in
set_option maxRecDepth 100000 in
theorem rtext_yes (g : Nat) (W : World) (k : Nat) (R : ByteArray) (hk : k < R.size) {t : List UInt8} (hx : Wr.skip 44 (R.data.toList.drop k) = some t)
    (HN : Hid (Calls Tryd.prog 47 #[.pointer (some ⟨g, 0, none⟩), .int .u8 58] W fun x w' => x = .returned (.int .i64 (k : Int)) ∧ Rq w' g R false ∧ Gr g W w')) :
    Calls Tryd.prog 29 #[.pointer (some ⟨g, 0, none⟩)] W fun x w' => x = .returned (.string ⟨(R.data.toList.take k).toArray⟩) ∧ Rq w' g ⟨t.toArray⟩ false ∧ Gr g W w' := by
  have HX := Lib.hid hx
  clear hx
  go_enter Tryd.func29, Tryd.ntmps29
  go_wp2_with fail
  refine HN.out.mono ?_
  rintro x w1 ⟨rfl, h1, h2⟩
  have hc0 := h1.c0
  have hc1 := h1.c1
  have hf0 := h1.f0
  have H1 := Lib.hid h1
  clear h1
  go_wp2_with fail
  refine (close_yes 44 44 rfl g _ _ _ (H1.out.set0 _) (t := t) (by rw [Lib.extract_to_end]; exact HX.out)).mono ?_
  rintro x w3 ⟨rfl, h3, h4⟩
  go_wp2
  go_ret
  exact ⟨ret_str (by apply ByteArray.ext; apply Array.ext'; rw [ByteArray.data_extract, Array.toList_extract]; simp [List.extract]), h3, Gr.trans (Gr.trans h2 (Gr.set _ _ _)) h4⟩

theorem rtext2_any (g : Nat) (r : ByteArray) (bad : Bool) (W : World) (h : Rq W g r bad) (hb : bad = true → r.data.toList = []) (hs : r.size ≤ 1000000) :
    Calls Tryd.prog 29 #[.pointer (some ⟨g, 0, none⟩)] W fun x w' =>
      x = .returned (.string ⟨(Wr.vOf [] (Wr.takeText r.data.toList)).toArray⟩) ∧ Rq w' g (Wr.rOf (Wr.takeText r.data.toList)) (Wr.bOf bad (Wr.takeText r.data.toList)) ∧ Gr g W w' := by
  have HN := rnumber_any 58 58 rfl g r bad W h hs
  unfold Wr.takeText
  cases hx : Wr.takeNum 58 r.data.toList with
  | none =>
    rw [hx] at HN
    exact rtext_bad g W 0 ⟨#[]⟩ HN
  | some p =>
    obtain ⟨n, t⟩ := p
    have h0 := (Wr.takeNum_some hx).2.2
    have hf : bad = false := by
      cases bad with
      | false => rfl
      | true => rw [hb rfl, takeNum_nil] at hx; cases hx
    subst hf
    rw [hx] at HN
    obtain ⟨k, rfl⟩ : ∃ k : Nat, n = (k : Int) := ⟨n.toNat, by omega⟩
    simp only [Int.toNat_natCast]
    have hR : (⟨t.toArray⟩ : ByteArray).size = t.length := Wr.bs_len t
    by_cases hlt : t.length < k
    · simp only [if_pos hlt]
      exact rtext_long g W k ⟨t.toArray⟩ (by omega) HN
    · simp only [if_neg hlt]
      by_cases heq : t.length = k
      · have : Wr.skip 44 (t.drop k) = none := by rw [List.drop_eq_nil_of_le (by omega)]; rfl
        rw [this]
        exact rtext_long g W k ⟨t.toArray⟩ (by omega) HN
      · cases hk : Wr.skip 44 (t.drop k) with
        | none => exact rtext_no g W k ⟨t.toArray⟩ (by omega) hk HN
        | some u => exact rtext_yes g W k ⟨t.toArray⟩ (by omega) hk HN
end Go.Proofs.YthknahghmlfegaaDoor
