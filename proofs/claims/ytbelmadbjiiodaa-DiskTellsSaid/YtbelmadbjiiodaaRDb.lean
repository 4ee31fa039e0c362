/-
  The reference's Put.
-/
import Derived.Test.YtbelmadbjiiodaaRDp
namespace Go.Proofs.Ytbelmadbjiiodaa
open Go Go.RowKit
/-- The bytes after k stores. -/
def mid (P : List UInt8) (a : Nat) (t : List UInt8) (k : Nat) : List UInt8 := P.take a ++ t.take k ++ P.drop (a + k)
theorem mid_zero (P : List UInt8) (a : Nat) (t : List UInt8) : mid P a t 0 = P := by simp [mid]
theorem mid_length {P : List UInt8} {a : Nat} {t : List UInt8} {k : Nat} (hk : k ≤ t.length) (hP : a + t.length ≤ P.length) : (mid P a t k).length = P.length := by
  simp only [mid, List.length_append, List.length_take, List.length_drop]
  omega
theorem mid_set {P : List UInt8} {a : Nat} {t : List UInt8} {k : Nat} (hk : k < t.length) (hP : a + t.length ≤ P.length) : (mid P a t k).set (a + k) (t.getD k 0) = mid P a t (k + 1) := by
  unfold mid
  have h1 : (P.take a ++ t.take k).length = a + k := by simp only [List.length_append, List.length_take]; omega
  rw [List.set_append_right _ _ (by omega), h1, Nat.sub_self, List.drop_eq_getElem_cons (show a + k < P.length by omega), List.set_cons_zero, List.take_succ_eq_append_getElem hk, List.append_assoc, List.append_assoc, List.append_assoc]
  simp [List.getD_eq_getElem?_getD, List.getElem?_eq_getElem hk, Nat.add_assoc]
theorem mid_put (s t : List UInt8) (a : Nat) : mid (s ++ List.replicate (a + t.length - s.length) 0) a t t.length = Dk.put s a t := by
  unfold mid Dk.put
  rw [List.take_length]
theorem str_at {t : ByteArray} {l : List UInt8} (h : t.data.toList = l) {k : Nat} (hk : k < t.size) : l.getD k 0 = t[k]'hk := by
  subst h
  have h2 : k < t.data.size := hk
  rw [List.getD_eq_getElem?_getD, Array.getElem?_toList, Array.getElem?_eq_getElem h2]
  rfl
set_option maxHeartbeats 8000000 in
set_option maxRecDepth 100000 in
theorem rput_any (s t : ByteArray) (a : Nat) (hs : s.size ≤ 100000000) (ht : a + t.size ≤ 100000000) (w : World) : Calls Try.prog 56 #[.string s, .int .i64 a, .string t] w fun e w' => e = .returned (.string (enc (Dk.put s.data.toList a t.data.toList))) ∧ Below w.heap.size w w' := by
  obtain ⟨C, W1, hcv, hbr, hbw⟩ := bytes_row s hs w
  have HMP := Lib.hid (mid_put s.data.toList t.data.toList a)
  have hzs := Lib.size_eq s
  have hzt := Lib.size_eq t
  obtain ⟨l, hl⟩ : ∃ l, s.data.toList = l := ⟨_, rfl⟩
  obtain ⟨m, hm⟩ : ∃ m, t.data.toList = m := ⟨_, rfl⟩
  rw [hl, hm] at HMP
  rw [hl] at hbr hzs
  rw [hm] at hzt
  have HT := Lib.hid hm
  have HR1 : Hid (BRV W1 w.heap.size (.slice (some ⟨w.heap.size, 0, none⟩) s.size C) l) := ⟨_, _, by rw [hzs], hbr⟩
  have HB1 := Lib.hid hbw
  have HL := Lib.hid hzs
  have HM := Lib.hid hzt
  obtain ⟨Z, hZ⟩ : ∃ Z, a + t.size - s.size = Z := ⟨_, rfl⟩
  rw [← HL.out, ← HM.out, hZ] at HMP
  have HZ := Lib.hid hZ
  rw [hl]
  clear hbr hbw hl hm hzs hzt
  go_enter Try.func56, Try.ntmps56
  go_wp2_with fail
  clear hcv
  go_loopw [7] (fun v wr => ∃ (z g n cap : Nat), v = .slice (some ⟨g, 0, none⟩) n cap ∧ n = s.size + z ∧ z ≤ Z ∧ Hid (BRV wr w.heap.size (.slice (some ⟨g, 0, none⟩) n cap) (l ++ List.replicate z 0)) ∧ Hid (Below w.heap.size w wr)) (fun v _ => Z + s.size - (match v with | .slice _ n _ => n | _ => 0))
  case atStart => exact ⟨0, _, _, _, rfl, rfl, Nat.zero_le _, by rw [List.replicate_zero, List.append_nil]; exact HR1.out, HB1.out⟩
  case round =>
    clear HR1 HB1
    obtain ⟨z, g, n, cap, rfl, hn, hz, hr, hb⟩ := hrel
    by_cases hlt : z < Z
    · have hc : (n : Int) < (a : Int) + (t.size : Int) := by omega
      have hlen : (l ++ List.replicate z 0).length = n := by rw [List.length_append, ← HL.out]; simp; omega
      have hrep : l ++ List.replicate (z + 1) 0 = (l ++ List.replicate z 0) ++ [0] := by rw [List.replicate_succ']; simp
      obtain ⟨M, hM⟩ : ∃ M, l ++ List.replicate z 0 = M := ⟨_, rfl⟩
      rw [hM] at hr hrep hlen
      have HN := Lib.hid (show ∀ P : List UInt8 → Prop, P (M ++ [0]) → P (l ++ List.replicate (z + 1) 0) from fun P h => by rw [hrep]; exact h)
      have hlt1 : Hid (M.length = n) := hlen
      have Hn := Lib.hid hn
      have hnb : n ≤ 100000000 := by omega
      clear hM hrep hlen hZ hn
      go_wp2_with (at_builtin; go_must (refine wpList_append_BR (by rfl) _ _ (by rfl) w.heap.size _ M (by rfl) (hr.out.alloc _) ⟨wr.heap.size, 0, none⟩ 1 1 [0] (by rfl) rfl (rb_new wr (bv [0]) _) (by decide) (by rw [hlt1.out]; omega) (Nat.le_trans hb.out.size (by first | exact Nat.le_succ _ | simp)) ?_); intro v2 w3 hown hbel; have HR3 := Lib.hid (HN.out (fun t => BRV w3 w.heap.size v2 t) hown); have HB3 := Lib.hid ((hb.out.trans ((below_alloc (Below.refl wr.heap.size wr) (Nat.le_refl _) (.cells (bv [0]).toArray 5)).mono hb.out.size)).trans hbel); have HV := Lib.hid hown; clear hown hbel)
      obtain ⟨g3, cap3, hv3, _⟩ := HV.out
      rw [List.length_append, hlt1.out] at hv3
      subst hv3
      exact ⟨⟨z + 1, g3, n + 1, cap3, rfl, by rw [Hn.out]; omega, hlt, HR3.out, HB3.out⟩, by show _ - (n + 1) < _ - n; have := Hn.out; omega⟩
    · have hzZ : z = Z := by omega
      subst hzZ
      have hc : ¬ ((n : Int) < (a : Int) + (t.size : Int)) := by omega
      obtain ⟨P, hP⟩ : ∃ P, l ++ List.replicate z 0 = P := ⟨_, rfl⟩
      have hPl : P.length = n := by rw [← hP, List.length_append, ← HL.out]; simp; omega
      rw [hP] at hr HMP
      have HPl := Lib.hid hPl
      have hna : a + t.size ≤ n := by omega
      have hnb : n ≤ 100000000 := by omega
      obtain ⟨g1, cap1, hv1, hbr⟩ := hr.out
      injection hv1 with e1 _ e2
      injection e1 with e1
      injection e1 with e1
      subst e1
      subst e2
      have HR := Lib.hid hbr
      clear hZ hn hP hPl hr hbr
      obtain ⟨wz, rfl⟩ : ∃ x, x = wr := ⟨wr, rfl⟩
      go_wp2_with fail
      go_loopw [8] (fun i wr => ∃ k : Nat, i = .int .i64 k ∧ k ≤ t.size ∧ Hid (BR wr w.heap.size g cap (mid P a m k)) ∧ Hid (Below w.heap.size w wr)) (fun i _ => t.size - (intOf i).toNat)
      case atStart => exact ⟨0, rfl, Nat.zero_le _, by rw [mid_zero]; exact HR.out, hb.out⟩
      case round =>
        clear HR hb
        obtain ⟨k, rfl, hk, hR, hB⟩ := hrel
        by_cases hlk : k < t.size
        · have hml : (mid P a m k).length = n := by rw [mid_length (by rw [← HM.out]; exact hk) (by rw [← HM.out, HPl.out]; exact hna), HPl.out]
          have hst := mid_set (P := P) (a := a) (t := m) (k := k) (by rw [← HM.out]; exact hlk) (by rw [← HM.out, HPl.out]; exact hna)
          have hget := str_at HT.out hlk
          rw [hget] at hst
          have hcell := hR.out.cell (a + k) (by rw [hml]; omega)
          have hfree := hR.out.free (a + k) (by have := hR.out.le; rw [hml] at this; omega)
          have HS := Lib.hid (hst ▸ hR.out.set (k := a + k) (by rw [hml]; omega) (t[k]'hlk))
          have hlo := Lib.hid hR.out.lo
          clear hst hml hget
          go_wp2
          go_roundw
          case rel => exact ⟨k + 1, by go_num, hlk, HS.out, hB.out.setCell hlo.out _⟩
          case measure => simp [intOf]; omega
        · have hkk : k = t.size := by omega
          subst hkk
          have hcv2 := hR.out.conv (n := P.length) (by rw [mid_length (by rw [← HM.out]; exact hk) (by rw [← HM.out, HPl.out]; exact hna)])
          have HB := Lib.hid hB
          rw [HMP.out] at hcv2
          clear hB hR
          go_wp2_with fail
          go_ret
          exact ⟨ret_str (by rw [HT.out]), HB.out.out⟩
end Go.Proofs.Ytbelmadbjiiodaa
