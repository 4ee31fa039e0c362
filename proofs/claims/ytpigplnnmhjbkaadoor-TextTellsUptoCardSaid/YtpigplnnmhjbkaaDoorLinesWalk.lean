/-
  The law on lines: its walk.
-/
import Derived.Test.YtpigplnnmhjbkaaDoorUnlines
namespace Go.Proofs.YtpigplnnmhjbkaaDoor
open Go Go.RowKit Go.Shelf
namespace Tx
theorem linesGo_mem : ∀ (l acc : List UInt8), ∀ x ∈ linesGo acc l, x.length ≤ acc.length + l.length
  | [], acc, x, hx => by
    rw [linesGo] at hx
    by_cases ha : acc = []
    · rw [if_pos ha] at hx; cases hx
    · rw [if_neg ha] at hx
      obtain rfl := List.mem_singleton.1 hx
      simp
  | c :: r, acc, x, hx => by
    rw [linesGo] at hx
    by_cases hc : c = 10
    · rw [if_pos hc] at hx
      rcases List.mem_cons.1 hx with rfl | hx
      · have := chop_le acc
        simp; omega
      · have := linesGo_mem r [] x hx
        simp at this ⊢; omega
    · rw [if_neg hc] at hx
      have := linesGo_mem r (acc ++ [c]) x hx
      simp at this ⊢; omega
theorem lines_mem (l : List UInt8) : ∀ x ∈ lines l, x.length ≤ l.length := fun x hx => by
  have := linesGo_mem l [] x hx
  simpa using this
end Tx
theorem lines_text {s : ByteArray} {L : List (List UInt8)} (hL : Tx.lines s.data.toList = L) (hs : s.size ≤ 1000000) (w : World) (hm : MaxAt w) :
    Calls Tryd.prog 29 #[.string s] w fun e w' => ∃ xa b cap, e = .returned (.slice xa L.length cap) ∧ RowOf w' (.slice xa L.length cap) xa b 0 cap L ∧ Below w.heap.size w w' :=
  (lines_any s w hs hm).mono fun _ _ ⟨v, a, h, hb⟩ => by
    rw [hL] at h
    obtain ⟨xa, b, cap, hr⟩ := rowOf_own h
    obtain rfl := hr.is
    exact ⟨xa, b, cap, a, hr, hb⟩
theorem unlines_text {xa : Option Addr} {b off cap : Nat} {X : List (List UInt8)} {T : ByteArray} {w : World} (hr : RowOf w (.slice xa X.length cap) xa b off cap X) (hl : X.length ≤ 40) (hz : ∀ x ∈ X, x.length ≤ 300) (hT : ⟨(Tx.unlines X).toArray⟩ = T) :
    Calls Tryd.prog 22 #[.slice xa X.length cap] w fun e w' => e = .returned (.string T) ∧ Below w.heap.size w w' :=
  (unlines_any xa b off cap X w hr hl hz).mono fun _ _ ⟨a, h⟩ => ⟨by rw [a, hT], h⟩
theorem Tx.extract_upto_data (T : ByteArray) (m : Nat) : (T.extract 0 m).data.toList = T.data.toList.take m := by simp
/-- What the law knows of the lines so far. -/
def Good (X : List (List UInt8)) : Prop := ∀ x ∈ X, Tx.lineB x ∧ x.length ≤ 300

set_option maxHeartbeats 8000000 in
set_option maxRecDepth 100000 in
theorem lines_short (xa : Option Addr) (b off cap : Nat) (X : List (List UInt8)) (s : ByteArray) (A : List (List UInt8)) (w : World) (hm : MaxAt w) (hr : RowOf w (.slice xa X.length cap) xa b off cap X) (hl : X.length ≤ 40) (hz : ∀ x ∈ X, x.length ≤ 9223372036854775807)
    (hs : s.size ≤ 300) (hA : Tx.lines s.data.toList = A) :
    Calls Tryd.prog 6 #[.slice xa X.length cap, .string s] w fun e w' => e = .returned (.bool true) ∧ Below w.heap.size w w' := by
  have h0 := hm.pos
  have hAl : A.length ≤ 300 := by rw [← hA]; have := Tx.lines_len s.data.toList; rw [← Lib.size_eq] at this; omega
  have HM := Lib.hid hm
  have HR := Lib.hid hr
  have HZ := Lib.hid hz
  have HA := Lib.hid (fun x (hx : x ∈ A) => Tx.lines_lf s.data.toList x (by rw [hA]; exact hx))
  have F1 := Lib.hid (fun W h => lines_text hA (by omega) W h)
  have HAz := Lib.hid (fun x (hx : x ∈ A) => (show x.length ≤ 9223372036854775807 from by have h1 := Tx.lines_mem s.data.toList x (by rw [hA]; exact hx); rw [← Lib.size_eq] at h1; omega))
  clear hm hr hz hA
  go_enter Tryd.func6, Tryd.ntmps6
  go_wp2_with fail
  refine (small_any _ HM.out).mono ?_
  rintro e w1 ⟨rfl, hB1⟩
  have hm1 := HM.out.below hB1 h0
  go_wp2_with fail
  refine (F1.out _ hm1).mono ?_
  rintro e w2 ⟨ya, b2, cap2, rfl, hr2, hB2⟩
  have hbw := Lib.hid (hB1.trans (hB2.mono hB1.size))
  have HR2 := Lib.hid hr2
  clear hr2 hB1 hB2 hm1
  go_wp2
  go_loopw [7] (fun i wr => ∃ j : Nat, i = .int .i64 j ∧ j ≤ A.length ∧ Hid (Below w2.heap.size w2 wr)) (fun i _ => A.length - (intOf i).toNat)
  case atStart => exact ⟨0, rfl, Nat.zero_le _, Below.refl _ _⟩
  case round =>
    obtain ⟨j, rfl, hj, hbr⟩ := hrel
    by_cases hlt : j < A.length
    · obtain rfl := HR2.out.at_ (by omega)
      obtain ⟨y, hy⟩ : ∃ y : ByteArray, encStr A[j] = .string y := ⟨_, rfl⟩
      have hyl : y.data.toList = A[j] := by
        have : (⟨A[j].toArray⟩ : ByteArray) = y := by injection hy
        rw [← this]
      have hc : w2.cell? ⟨b2, j, none⟩ = some (.string y) := by
        have := HR2.out.cell j _ (List.getElem?_eq_getElem hlt)
        rw [Nat.zero_add] at this
        rw [this, hy]
      have hys : y.size ≤ 9223372036854775807 := by rw [Lib.size_eq, hyl]; exact HAz.out _ (List.getElem_mem hlt)
      have hnl : 10 ∉ y.data.toList := by rw [hyl]; exact HA.out _ (List.getElem_mem hlt)
      have HC := Lib.hid hc
      have HN := Lib.hid hnl
      have HLt := Lib.hid (HR2.out.lt (by omega))
      have c0 : wr.cell? ⟨b2, j, none⟩ = some (.string y) := (hbr.out.cell (p := ⟨b2, j, none⟩) HLt.out).trans hc
      clear hy hyl hc hnl
      go_wp2
      obtain ⟨wo, rfl⟩ : ∃ wo : World, wo = wr := ⟨_, rfl⟩
      go_loopw [8] (fun kk wr => ∃ k : Nat, kk = .int .i64 k ∧ k ≤ y.size ∧ Hid (Below w2.heap.size w2 wr)) (fun kk _ => y.size - (intOf kk).toNat)
      case atStart => exact ⟨0, rfl, Nat.zero_le _, hbr.out⟩
      case round =>
        obtain ⟨k, rfl, hk, hbi⟩ := hrel
        have c1 : wr.cell? ⟨b2, j, none⟩ = some (.string y) := (hbi.out.cell (p := ⟨b2, j, none⟩) HLt.out).trans HC.out
        by_cases hk2 : k < y.size
        · have gY := Tx.get_of y k hk2
          obtain ⟨c, hck⟩ : ∃ c, y[k] = c := ⟨_, rfl⟩
          rw [hck] at gY
          have hne : c ≠ 10 := fun e => HN.out (by rw [← e]; exact List.mem_of_getElem? gY)
          have e1 : ((c.toNat : Int) == 10) = false := by
            rw [beq_eq_false_iff_ne]; intro e; exact hne (by rw [← UInt8.toNat_inj]; simp; omega)
          clear gY hne
          go_wp2
          go_roundw
          case rel => exact ⟨k + 1, by go_num, by omega, hbi.out⟩
          case measure => simp [intOf]; omega
        · go_wp2
          go_roundw
          case rel => exact ⟨j + 1, by go_num, by omega, hbi.out⟩
          case measure => simp [intOf]; omega
    · have hb2 := Lib.hid (hbw.out.trans (hbr.out.mono hbw.out.size))
      clear hbr
      go_wp2
      obtain ⟨wo, rfl⟩ : ∃ wo : World, wo = wr := ⟨_, rfl⟩
      go_loopw [9, 10] (fun cc ii wr => ∃ (n : Nat) (Z : ByteArray), cc = .string Z ∧ ii = .int .i64 n ∧ n ≤ X.length ∧ Z.size ≤ 12080 ∧ Hid (Z.data.toList = Tx.crs (X.take n)) ∧ Hid (Good (X.take n)) ∧ Hid (Below w.heap.size w wr)) (fun _ ii _ => X.length - (intOf ii).toNat)
      case atStart => exact ⟨0, ⟨#[]⟩, rfl, rfl, Nat.zero_le _, by show (⟨#[]⟩ : ByteArray).size ≤ _; have e : (⟨#[]⟩ : ByteArray).size = 0 := rfl; omega, rfl, by intro x hx; simp at hx, hb2.out⟩
      case round =>
        obtain ⟨n, Z, rfl, rfl, hn, hZs, hZl, hgd, hbr⟩ := hrel
        by_cases hlt2 : n < X.length
        · obtain rfl := HR.out.at_ (by omega)
          obtain ⟨y, hy⟩ : ∃ y : ByteArray, encStr X[n] = .string y := ⟨_, rfl⟩
          have hyl : y.data.toList = X[n] := by
            have : (⟨X[n].toArray⟩ : ByteArray) = y := by injection hy
            rw [← this]
          have hc : w.cell? ⟨b, off + n, none⟩ = some (.string y) := by
            rw [← hy]; exact HR.out.cell n _ (List.getElem?_eq_getElem hlt2)
          have hys : y.size ≤ 9223372036854775807 := by rw [Lib.size_eq, hyl]; exact HZ.out _ (List.getElem_mem hlt2)
          have HC := Lib.hid hc
          have HLt := Lib.hid (HR.out.lt (by omega))
          have HYl := Lib.hid hyl
          have c0 : wr.cell? ⟨b, off + n, none⟩ = some (.string y) := (hbr.out.cell (p := ⟨b, off + n, none⟩) HLt.out).trans hc
          clear hy hyl hc
          go_wp2
          obtain ⟨wp, rfl⟩ : ∃ wp : World, wp = wr := ⟨_, rfl⟩
          go_loopw [11] (fun kk wr => ∃ k : Nat, kk = .int .i64 k ∧ k ≤ y.size ∧ Hid (10 ∉ y.data.toList.take k) ∧ Hid (Below w.heap.size w wr)) (fun kk _ => y.size - (intOf kk).toNat)
          case atStart => exact ⟨0, rfl, Nat.zero_le _, by show 10 ∉ _; simp, hbr.out⟩
          case round =>
            obtain ⟨k, rfl, hk, hno, hbi⟩ := hrel
            have c1 : wr.cell? ⟨b, off + n, none⟩ = some (.string y) := (hbi.out.cell (p := ⟨b, off + n, none⟩) HLt.out).trans HC.out
            by_cases hk2 : k < y.size
            · have gY := Tx.take_snoc y k hk2
              obtain ⟨c, hck⟩ : ∃ c, y[k] = c := ⟨_, rfl⟩
              rw [hck] at gY
              by_cases hce : c = 10
              · have e1 : ((c.toNat : Int) == 10) = true := by rw [hce]; rfl
                clear gY hce
                go_wp2
                go_ret
                exact ⟨rfl, hbi.out⟩
              · have e1 : ((c.toNat : Int) == 10) = false := by
                  rw [beq_eq_false_iff_ne]; intro e; exact hce (by rw [← UInt8.toNat_inj]; simp; omega)
                have HN : Hid (10 ∉ y.data.toList.take (k + 1)) := by
                  show 10 ∉ _
                  rw [gY]
                  intro hm
                  rcases List.mem_append.1 hm with hm | hm
                  · exact hno.out hm
                  · exact hce (List.mem_singleton.1 hm).symm
                clear gY hce
                go_wp2
                go_roundw
                case rel => exact ⟨k + 1, by go_num, by omega, HN.out, hbi.out⟩
                case measure => simp [intOf]; omega
            · have hno2 : 10 ∉ y.data.toList := by
                have h2 := hno.out
                rwa [List.take_of_length_le (by rw [← Lib.size_eq]; omega)] at h2
              have HN := Lib.hid hno2
              clear hno hno2
              have hk3 : k = y.size := by omega
              subst hk3
              by_cases hy0 : y.size = 0
              · have hyn : y.data.toList = [] := List.eq_nil_of_length_eq_zero (by rw [← Lib.size_eq]; exact hy0)
                have hemp : y.toList.isEmpty = true := by rw [Lib.toList_data, hyn]; rfl
                have HYn := Lib.hid hyn
                clear hyn
                have hgn : Hid (Good (X.take (n + 1))) := by
                  show Good _
                  rw [List.take_succ_eq_append_getElem hlt2]
                  intro x hx
                  rcases List.mem_append.1 hx with hx | hx
                  · exact hgd.out x hx
                  · obtain rfl := List.mem_singleton.1 hx
                    rw [← HYl.out]
                    exact ⟨⟨HN.out, by rw [HYn.out]; simp⟩, by rw [← Lib.size_eq]; omega⟩
                have hcr : Hid ((Z ++ y ++ ⟨#[13, 10]⟩).data.toList = Tx.crs (X.take (n + 1))) := by
                  show _ = _
                  rw [List.take_succ_eq_append_getElem hlt2, Tx.crs_snoc, ← hZl.out, ← HYl.out]
                  simp
                have hgl : (X.take (n + 1)).length = n + 1 := by rw [List.length_take]; omega
                have hzs : (Z ++ y ++ ⟨#[13, 10]⟩).size ≤ 12080 := by
                  rw [Lib.size_eq, hcr.out]
                  refine Nat.le_trans (Tx.crs_len _ 300 (fun x hx => (hgn.out x hx).2)) ?_
                  rw [hgl]
                  show (n + 1) * 302 ≤ 12080; omega
                clear hgl
                go_wp2
                go_quiet (fail)
                go_wp2
                go_roundw
                case rel => exact ⟨n + 1, _, rfl, by go_num, by omega, hzs, hcr.out, hgn.out, below_drews hbi.out _⟩
                case measure => simp [intOf]; omega
              · have hemp : y.toList.isEmpty = false := by
                  rw [Lib.toList_data]
                  cases e : y.data.toList with
                  | nil => have := Lib.size_eq y; rw [e, List.length_nil] at this; omega
                  | cons _ _ => rfl
                obtain ⟨m, hm⟩ : ∃ m, y.size = m + 1 := ⟨y.size - 1, by omega⟩
                have gY := Tx.get_of y m (by omega)
                obtain ⟨c, hck⟩ : ∃ c, y[m]'(by omega) = c := ⟨_, rfl⟩
                rw [hck] at gY
                have hlast : y.data.toList.getLast? = some c := by rw [List.getLast?_eq_getElem?, ← Lib.size_eq, hm]; exact gY
                have HLa := Lib.hid hlast
                clear gY hlast
                by_cases hce : c = 13
                · have e1 : ((c.toNat : Int) == 13) = true := by rw [hce]; rfl
                  clear hce
                  go_wp2
                  go_quiet (fail)
                  go_wp2
                  go_ret
                  exact ⟨rfl, below_drews hbi.out _⟩
                · have e1 : ((c.toNat : Int) == 13) = false := by
                    rw [beq_eq_false_iff_ne]; intro e; exact hce (by rw [← UInt8.toNat_inj]; simp; omega)
                  have HCe := Lib.hid hce
                  clear hce
                  by_cases hbig : 300 < y.size
                  · go_wp2
                    go_quiet (fail)
                    go_wp2
                    go_ret
                    exact ⟨rfl, below_drews hbi.out _⟩
                  · have hgn : Hid (Good (X.take (n + 1))) := by
                      show Good _
                      rw [List.take_succ_eq_append_getElem hlt2]
                      intro x hx
                      rcases List.mem_append.1 hx with hx | hx
                      · exact hgd.out x hx
                      · obtain rfl := List.mem_singleton.1 hx
                        rw [← HYl.out]
                        exact ⟨⟨HN.out, by rw [HLa.out]; intro e; exact HCe.out (Option.some.inj e)⟩, by rw [← Lib.size_eq]; omega⟩
                    have hcr : Hid ((Z ++ y ++ ⟨#[13, 10]⟩).data.toList = Tx.crs (X.take (n + 1))) := by
                      show _ = _
                      rw [List.take_succ_eq_append_getElem hlt2, Tx.crs_snoc, ← hZl.out, ← HYl.out]
                      simp
                    have hgl : (X.take (n + 1)).length = n + 1 := by rw [List.length_take]; omega
                    have hzs : (Z ++ y ++ ⟨#[13, 10]⟩).size ≤ 12080 := by
                      rw [Lib.size_eq, hcr.out]
                      refine Nat.le_trans (Tx.crs_len _ 300 (fun x hx => (hgn.out x hx).2)) ?_
                      rw [hgl]
                      show (n + 1) * 302 ≤ 12080; omega
                    clear hgl
                    go_wp2
                    go_quiet (fail)
                    go_wp2
                    go_roundw
                    case rel => exact ⟨n + 1, _, rfl, by go_num, by omega, hzs, hcr.out, hgn.out, below_drews hbi.out _⟩
                    case measure => simp [intOf]; omega
        · have hne : n = X.length := by omega
          subst hne
          have hgX : Good X := by have := hgd.out; rwa [List.take_length] at this
          have hZX : Z.data.toList = Tx.crs X := by have := hZl.out; rwa [List.take_length] at this
          obtain ⟨T, hT⟩ : ∃ T : ByteArray, ⟨(Tx.unlines X).toArray⟩ = T := ⟨_, rfl⟩
          have hTl : T.data.toList = Tx.unlines X := by rw [← hT]
          have hTs : T.size ≤ 12040 := by
            rw [Lib.size_eq, hTl]
            refine Nat.le_trans (Tx.unlines_len _ 300 (fun x hx => (hgX x hx).2)) ?_
            show X.length * 301 ≤ 12040; omega
          have hb := hbr.out
          have G1 := Lib.hid (unlines_text (HR.out.below hb) hl (fun x hx => (hgX x hx).2) hT)
          have G2 := Lib.hid (fun W h => lines_text (s := T) (L := X) (by rw [hTl, Tx.lines_unlines X (fun x hx => (hgX x hx).1)]) (by omega) W h)
          have G3 := Lib.hid (fun W h => lines_text (s := Z) (L := X) (by rw [hZX, Tx.lines_crs X (fun x hx => (hgX x hx).1)]) (by omega) W h)
          have HG := Lib.hid hgX
          have HTl := Lib.hid hTl
          clear hgX hZX hT hTl hgd hZl hbr
          go_wp2_with fail
          refine G1.out.mono ?_
          rintro e x1 ⟨rfl, hC1⟩
          have hb1 := hb.trans (hC1.mono hb.size)
          clear hC1 hb
          have hm1 := HM.out.below hb1 h0
          go_wp2_with fail
          refine (G2.out _ hm1).mono ?_
          rintro e x2 ⟨va, b3, cap3, rfl, hr3, hC2⟩
          have hb3 := hb1.trans (hC2.mono hb1.size)
          have hs3 := Lib.hid (strings_rows hr3 (HR.out.below hb3) (by omega))
          clear hC2 hb1 hr3 hm1
          go_wp2_with fail
          refine hs3.out.mono ?_
          rintro e x3 ⟨rfl, n3, rfl⟩
          clear hs3
          have hb4 := below_drews hb3 n3
          have hm4 := HM.out.below hb4 h0
          go_wp2_with fail
          refine (G3.out _ hm4).mono ?_
          rintro e x5 ⟨ua, b5, cap5, rfl, hr5, hC5⟩
          have hb5 := hb4.trans (hC5.mono hb4.size)
          have hs5 := Lib.hid (strings_rows hr5 (HR.out.below hb5) (by omega))
          clear hC5 hb3 hb4 hr5 hm4
          go_wp2_with fail
          refine hs5.out.mono ?_
          rintro e x6 ⟨rfl, n6, rfl⟩
          clear hs5
          have hb6 := below_drews hb5 n6
          clear hb5
          by_cases hX0 : X.length = 0
          · go_wp2
            go_ret
            exact ⟨rfl, hb6⟩
          · obtain ⟨q, hq⟩ : ∃ q, X.length = q + 1 := ⟨X.length - 1, by omega⟩
            obtain rfl := HR.out.at_ (by omega)
            have hqX : q < X.length := by omega
            obtain ⟨y, hy⟩ : ∃ y : ByteArray, encStr X[q] = .string y := ⟨_, rfl⟩
            have hyl : y.data.toList = X[q] := by
              have : (⟨X[q].toArray⟩ : ByteArray) = y := by injection hy
              rw [← this]
            have hys : y.size ≤ 300 := by rw [Lib.size_eq, hyl]; exact (HG.out _ (List.getElem_mem hqX)).2
            have c0 : (x5.drewN n6).cell? ⟨b, off + q, none⟩ = some (.string y) := by
              rw [← hy]; exact (HR.out.below hb6).cell q _ (List.getElem?_eq_getElem hqX)
            by_cases hy0 : y.size = 0
            · have hemp : y.toList.isEmpty = true := by
                rw [Lib.toList_data, show y.data.toList = [] from List.eq_nil_of_length_eq_zero (by rw [← Lib.size_eq]; exact hy0)]; rfl
              clear hy hyl
              go_wp2
              go_ret
              exact ⟨rfl, by first | exact hb6 | exact below_drews hb6 _⟩
            · have hemp : y.toList.isEmpty = false := by
                rw [Lib.toList_data]
                cases e : y.data.toList with
                | nil => have := Lib.size_eq y; rw [e, List.length_nil] at this; omega
                | cons _ _ => rfl
              have hXq : X = X.take q ++ [X[q]] := by
                rw [← List.take_succ_eq_append_getElem hqX, List.take_of_length_le (by omega)]
              have hTq : T.data.toList = Tx.unlines (X.take q) ++ X[q] ++ [10] := by
                rw [HTl.out]
                conv => lhs; rw [hXq]
                rw [Tx.unlines_snoc, List.append_assoc]
              obtain ⟨m, hm⟩ : ∃ m, T.size = m + 1 := ⟨T.size - 1, by
                have := Lib.size_eq T
                rw [hTq] at this
                simp at this
                omega⟩
              have hTm : m = (Tx.unlines (X.take q) ++ X[q]).length := by
                have := Lib.size_eq T
                rw [hTq, List.length_append] at this
                simp only [List.length_cons, List.length_nil] at this
                omega
              have hTe : T.toList.isEmpty = false := by
                rw [Lib.toList_data]
                cases e : T.data.toList with
                | nil => have := Lib.size_eq T; rw [e, List.length_nil] at this; omega
                | cons _ _ => rfl
              have hVl : (T.extract 0 m).data.toList = Tx.unlines (X.take q) ++ X[q] := by
                rw [Tx.extract_upto_data, hTq, hTm, List.take_left]
              have hVL : Tx.lines (T.extract 0 m).data.toList = X := by
                rw [hVl, Tx.lines_last (X.take q) X[q] (fun z hz => (HG.out z (List.mem_of_mem_take hz)).1) (HG.out _ (List.getElem_mem hqX)).1 (by
                  intro e
                  rw [← hyl] at e
                  have := Lib.size_eq y
                  rw [e] at this
                  exact hy0 this)]
                exact hXq.symm
              have G4 := Lib.hid (fun W h => lines_text (s := T.extract 0 m) (L := X) hVL (by simp; omega) W h)
              have hm6 := HM.out.below hb6 h0
              have HX := Lib.hid hXq
              clear hy hyl hXq hTq hTm hVl hVL
              go_wp2_with fail
              refine (G4.out _ hm6).mono ?_
              rintro e x7 ⟨ta, b7, cap7, rfl, hr7, hC7⟩
              have hb7 := hb6.trans (hC7.mono hb6.size)
              have hs7' := strings_rows hr7 (HR.out.below hb7) (by omega)
              rw [hq] at hs7'
              have hs7 := Lib.hid hs7'
              clear hs7'
              clear hC7 hb6 hr7 hm6
              go_wp2_with fail
              refine hs7.out.mono ?_
              rintro e x8 ⟨rfl, n8, rfl⟩
              go_wp2
              go_ret
              exact ⟨rfl, by first | exact below_drews hb7 _ | exact below_drews (below_drews hb7 _) _⟩
end Go.Proofs.YtpigplnnmhjbkaaDoor
