/-
  Base32, walked.
-/
import Derived.Test.YtdleaipcogomfaaDoorDB32
namespace Go.Proofs.YtdleaipcogomfaaDoor
open Go Go.RowKit Go.Shelf
theorem and31_shr (V : Dg.W32) (m : Nat) : bits .and .u32 ((V.toNat : Int) / 2 ^ m) 31 = ((V.toNat / 2 ^ m % 32 : Nat) : Int) := by
  have h : V.toNat / 2 ^ m < 4294967296 := Nat.lt_of_le_of_lt (Nat.div_le_self _ _) V.isLt
  rw [← Dg.and31 _ h]
  simp
theorem and31_shl (G : Dg.W32) (m : Nat) (_hm : m ≤ 5) : bits .and .u32 ((G.toNat : Int) * 2 ^ m % (4294967296 : Int)) 31 = ((G.toNat * 2 ^ m % 32 : Nat) : Int) := by
  have h : G.toNat * 2 ^ m % 4294967296 < 4294967296 := Nat.mod_lt _ (by omega)
  have e : (G.toNat : Int) * 2 ^ m % (4294967296 : Int) = ((G.toNat * 2 ^ m % 4294967296 : Nat) : Int) := by simp
  rw [e, Dg.and31 _ h, show (4294967296 : Nat) = 32 * 134217728 from rfl, Nat.mod_mul_right_mod]
theorem digit_at (d : Nat) (h : d < 32) (w : World) : (Instr.index 9 (.string ⟨#[97, 98, 99, 100, 101, 102, 103, 104, 105, 106, 107, 108, 109, 110, 111, 112, 113, 114, 115, 116, 117, 118, 119, 120, 121, 122, 50, 51, 52, 53, 54, 55]⟩) (.int .u32 (d : Int))).run Tryd.prog w = .ok (.int .u8 ((Dg.b32Digits.getD d 0).toNat : Int)) w :=
  index_at ⟨#[97, 98, 99, 100, 101, 102, 103, 104, 105, 106, 107, 108, 109, 110, 111, 112, 113, 114, 115, 116, 117, 118, 119, 120, 121, 122, 50, 51, 52, 53, 54, 55]⟩ .u32 (d : Int) d rfl h w
set_option maxHeartbeats 4000000 in
set_option maxRecDepth 100000 in
theorem b32_any (s : ByteArray) (hs : s.size ≤ 10000000) (w : World) :
    Calls Tryd.prog 46 #[.string s] w fun e w' => e = .returned (.string ⟨(Dg.b32 s.data.toList).toArray⟩) ∧ Below w.heap.size w w' := by
  obtain ⟨i0, hi, hz0, hz1, hz2⟩ := info_parts infoU
  have hz := Lib.hid (Lib.size_eq s)
  obtain ⟨n2, hn2⟩ : ∃ n, n = (8 * s.size + 4) / 5 := ⟨_, rfl⟩
  have hn3 : n2 ≤ 20000000 := by omega
  have hm : ((8 : Int) * (s.size : Int) + 4) / 5 = (n2 : Int) := by omega
  clear hn2
  obtain ⟨l, hl⟩ : ∃ l, s.data.toList = l := ⟨_, rfl⟩
  rw [hl] at hz ⊢
  have HL := Lib.hid (show ∀ P : List UInt8 → Prop, P s.data.toList → P l from fun P h => by rw [← hl]; exact h)
  clear hl
  go_enter Tryd.func46, Tryd.ntmps46
  go_wp2_with (at_make; refine wpList_make_own _ rfl _ _ 51 rfl w.heap.size 5 i0 (.int .u8 0) 1 Tryd.underlying51 hi hz0 hz1 .i64 .i64 _ n2 rfl rfl (by omega) (by rw [hz2]; omega) (by unfold maxLen; omega) (Nat.le_refl _) ?_; intro w1 hown hgrow; have HO := Lib.hid hown; have HB := Lib.hid (below_none (Below.refl w.heap.size w) hgrow (Nat.le_refl _)); clear hown hgrow)
  go_loopw [3, 4, 5, 15] (fun v gv sv i wr => ∃ (k size : Nat) (G : Dg.W32) (vv : Value) (L : List UInt8), vv = v ∧ gv = .int .u32 (G.toNat : Int) ∧ sv = .int .i64 size ∧ i = .int .i64 k ∧ k ≤ s.size ∧ size < 5 ∧ L.length ≤ 2 * k ∧
      Hid (Dg.b32 l = L ++ Dg.enc G.toNat size (l.drop k)) ∧ Hid (BytesOf wr w.heap.size vv L) ∧ Hid (Below w.heap.size w wr)) (fun _ _ _ i _ => s.size - (intOf i).toNat)
  case atStart => exact ⟨0, 0, 0, _, [], rfl, rfl, rfl, rfl, by omega, by omega, by simp, rfl, HO.out, HB.out⟩
  case round =>
    clear HO HB
    obtain ⟨k, size, G, v, L, rfl, rfl, rfl, rfl, hk, hsz, hL, hinv, hown, hB⟩ := hrel
    by_cases hlt : k < s.size
    · obtain ⟨c, hc⟩ : ∃ c, s[k] = c := ⟨_, rfl⟩
      have hd : l.drop k = c :: l.drop (k + 1) := by
        rw [List.drop_eq_getElem_cons (by rw [← hz.out]; exact hlt), ← hc]
        congr 1
        exact HL.out (fun l => ∀ h : k < l.length, l[k] = s[k]) (fun h => rfl) _
      obtain ⟨V, hV, hVm⟩ := Dg.shl_or G c
      have hE := hinv.out
      rw [hd, Dg.enc_emit G.toNat V.toNat size c _ hsz hVm] at hE
      have HE := Lib.hid hE
      have hVl := V.isLt
      have hGl := G.isLt
      have hcl := UInt8.toNat_lt c
      clear hinv hd hVm hE
      go_wp2_with fail
      go_loopw [3, 5] (fun v sv wr => ∃ (m : Nat) (vv : Value) (L : List UInt8), vv = v ∧ sv = .int .i64 m ∧ m ≤ 12 ∧ L.length + m / 5 ≤ 2 * k + 2 ∧
          Hid (Dg.b32 l = L ++ Dg.emit V.toNat (l.drop (k + 1)) m) ∧ Hid (BytesOf wr w.heap.size vv L) ∧ Hid (Below w.heap.size w wr)) (fun _ sv _ => (intOf sv).toNat)
      case atStart => exact ⟨size + 8, _, L, rfl, by go_num, by omega, by omega, HE.out, hown.out, hB.out⟩
      case round =>
        clear hown hB HE hL
        obtain ⟨m, v, L, rfl, rfl, hm12, hL, hinv, hown, hB⟩ := hrel
        by_cases h5 : 5 ≤ m
        · obtain ⟨m', hm'⟩ : ∃ m', m = m' + 5 := ⟨m - 5, by omega⟩
          have hE := hinv.out
          rw [hm', Dg.emit_step _ _ _ (by omega)] at hE
          have HE := Lib.hid hE
          have e1 : IntKind.i64.wrap ((m : Int) - 5) = (m' : Int) := by rw [IntWalk.i64_in _ (by omega)]; omega
          have hm1 : m ≤ m' + 5 := by omega
          have hm2 : m' + 5 ≤ m := by omega
          clear hE hm' hinv
          have hand := and31_shr V m'
          have hdl : V.toNat / 2 ^ m' % 32 < 32 := Nat.mod_lt _ (by omega)
          obtain ⟨d, hd⟩ : ∃ d, V.toNat / 2 ^ m' % 32 = d := ⟨_, rfl⟩
          rw [hd] at hand HE hdl
          have hix := fun w' : World => digit_at d hdl w'
          obtain ⟨z, hzd⟩ : ∃ z, Dg.b32Digits.getD d 0 = z := ⟨_, rfl⟩
          rw [hzd] at hix HE
          clear hd hzd
          go_wp2_with (at_builtin; go_must (refine wpList_append_bytes (by rfl) _ _ (by rfl) w.heap.size _ L (by rfl) (hown.out.alloc _) ⟨wr.heap.size, 0, none⟩ 1 1 [z] (by rfl) rfl (cells_new wr (bv [z]) _) (by omega) (Nat.le_trans hB.out.size (by first | exact Nat.le_succ _ | simp)) ?_); intro v1 w3 hown3 hgrow; have HO3 := Lib.hid hown3; have HB3 := Lib.hid (below_grown (below_alloc hB.out (Nat.le_refl _) _) (hown.out.alloc _) hgrow (Nat.le_refl _) (Nat.le_refl _)); clear hown3 hgrow)
          go_roundw
          case rel => exact ⟨m', v1, L ++ [z], rfl, by first | rfl | go_num, by omega, by rw [List.length_append, List.length_singleton]; omega, (by show _ = _; rw [HE.out]; simp), HO3.out, HB3.out⟩
          case measure => simp [intOf]; omega
        · have hE := hinv.out
          rw [Dg.emit_end _ _ _ (by omega)] at hE
          have HE := Lib.hid hE
          clear hE hinv
          go_wp2
          go_roundw
          case rel => exact ⟨k + 1, m, V, v, L, rfl, rfl, rfl, by go_num, by omega, by omega, by omega, HE.out, hown.out, hB.out⟩
          case measure => simp [intOf]; omega
    · obtain rfl : k = s.size := by omega
      have hE := hinv.out
      rw [List.drop_of_length_le (by rw [← hz.out]; exact Nat.le_refl _)] at hE
      unfold Dg.enc at hE
      have hGl := G.isLt
      by_cases h0 : 0 < size
      · rw [if_pos h0] at hE
        have HE := Lib.hid hE
        obtain ⟨n5, hn5⟩ : ∃ n5, 5 - size = n5 := ⟨_, rfl⟩
        rw [hn5] at HE
        have e1 : IntKind.i64.wrap (5 - (size : Int)) = (n5 : Int) := by rw [IntWalk.i64_in _ (by omega)]; omega
        have hn6 : n5 ≤ 5 := by omega
        have hand := and31_shl G n5 hn6
        have hdl : G.toNat * 2 ^ n5 % 32 < 32 := Nat.mod_lt _ (by omega)
        obtain ⟨d, hd⟩ : ∃ d, G.toNat * 2 ^ n5 % 32 = d := ⟨_, rfl⟩
        rw [hd] at hand HE hdl
        have hix := fun w' : World => digit_at d hdl w'
        obtain ⟨z, hzd⟩ : ∃ z, Dg.b32Digits.getD d 0 = z := ⟨_, rfl⟩
        rw [hzd] at hix HE
        clear hd hzd hE hinv hn5
        go_wp2_with (at_builtin; go_must (refine wpList_append_bytes (by rfl) _ _ (by rfl) w.heap.size _ L (by rfl) (hown.out.alloc _) ⟨wr.heap.size, 0, none⟩ 1 1 [z] (by rfl) rfl (cells_new wr (bv [z]) _) (by omega) (Nat.le_trans hB.out.size (by first | exact Nat.le_succ _ | simp)) ?_); intro v1 w3 hown3 hgrow; have HO3 := Lib.hid hown3; have HB3 := Lib.hid (below_grown (below_alloc hB.out (Nat.le_refl _) _) (hown.out.alloc _) hgrow (Nat.le_refl _) (Nat.le_refl _)); clear hgrow; have hcv := hown3.back; clear hown3)
        go_ret
        exact ⟨by rw [HE.out]; rfl, HB3.out⟩
      · rw [if_neg h0, List.append_nil] at hE
        have HE := Lib.hid hE
        have hcv := hown.out.back
        clear hE hinv
        go_wp2
        go_ret
        exact ⟨by rw [HE.out]; rfl, hB.out⟩
end Go.Proofs.YtdleaipcogomfaaDoor
