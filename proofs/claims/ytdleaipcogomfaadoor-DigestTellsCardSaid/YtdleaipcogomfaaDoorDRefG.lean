/-
  The reference's Unbase32.
-/
import Derived.Test.YtdleaipcogomfaaDoorDRefF
namespace Go.Proofs.YtdleaipcogomfaaDoor
open Go Go.RowKit Go.Shelf
namespace Dg
/-- As 'dec', but what is left at the end is not looked at. -/
def dec2 : Nat → Nat → List UInt8 → Option (List UInt8)
  | _, _, [] => some []
  | g, size, c :: l =>
    match b32V c with
    | none => none
    | some d => if 3 ≤ size then (dec2 ((g * 32 + d) % 2 ^ (size - 3)) (size - 3) l).map (UInt8.ofNat ((g * 32 + d) / 2 ^ (size - 3)) :: ·) else dec2 (g * 32 + d) (size + 5) l
theorem dec_dec2 : ∀ (l : List UInt8) (g s : Nat) (t : List UInt8), dec g s l = some t → dec2 g s l = some t
  | [], g, s, t, h => by
    unfold dec at h
    by_cases hc : 5 ≤ s ∨ g % 2 ^ s ≠ 0
    · rw [if_pos hc] at h; cases h
    · rw [if_neg hc] at h; exact h
  | c :: l, g, s, t, h => by
    unfold dec at h
    unfold dec2
    cases hv : b32V c with
    | none => rw [hv] at h; cases h
    | some d =>
      rw [hv] at h
      simp only at h ⊢
      by_cases h3 : 3 ≤ s
      · rw [if_pos h3] at h ⊢
        obtain ⟨u, hu, rfl⟩ := Option.map_eq_some_iff.1 h
        rw [dec_dec2 l _ _ u hu]
        rfl
      · rw [if_neg h3] at h ⊢
        exact dec_dec2 l _ _ t h
theorem dec2_none {c : UInt8} (h : b32V c = none) (g s : Nat) (l : List UInt8) : dec2 g s (c :: l) = none := by
  unfold dec2; rw [h]
theorem dec2_take {c : UInt8} {d : Nat} (h : b32V c = some d) (g s : Nat) (l : List UInt8) (h3 : 3 ≤ s) : dec2 g s (c :: l) = (dec2 ((g * 32 + d) % 2 ^ (s - 3)) (s - 3) l).map (UInt8.ofNat ((g * 32 + d) / 2 ^ (s - 3)) :: ·) := by
  conv => lhs; unfold dec2
  rw [h]
  simp only
  rw [if_pos h3]
theorem dec2_wait {c : UInt8} {d : Nat} (h : b32V c = some d) (g s : Nat) (l : List UInt8) (h3 : ¬ 3 ≤ s) : dec2 g s (c :: l) = dec2 (g * 32 + d) (s + 5) l := by
  conv => lhs; unfold dec2
  rw [h]
  simp only
  rw [if_neg h3]
theorem unb32_by_dec2_none {l : List UInt8} (h : dec2 0 0 l = none) : unb32 l = none := by
  cases hu : unb32 l with
  | none => rfl
  | some t => have := dec_dec2 l 0 0 t hu; rw [h] at this; cases this
theorem unb32_by_dec2 {l L : List UInt8} (h : dec2 0 0 l = some L) (hb : b32 L ≠ l) : unb32 l = none := by
  cases hu : unb32 l with
  | none => rfl
  | some t =>
    have h1 := dec_dec2 l 0 0 t hu
    rw [h] at h1
    injection h1 with h1
    subst h1
    exact absurd (b32_unb32 l L hu) hb
theorem and_mask (N m : Nat) (hN : N < 9223372036854775808) (hm : m ≤ 30) : bits .and .i64 (N : Int) (wrap64 (wrap64 ((2 : Int) ^ m) - 1)) = ((N % 2 ^ m : Nat) : Int) := by
  have hp : 2 ^ m ≤ 2 ^ 30 := Nat.pow_le_pow_right (by omega) hm
  have h1 : 1 ≤ 2 ^ m := Nat.one_le_two_pow
  have e0 : (2 : Int) ^ m - 1 = ((2 ^ m - 1 : Nat) : Int) := by
    rw [Int.ofNat_sub h1]; simp
  have e1 : wrap64 ((2 : Int) ^ m) = (2 : Int) ^ m := by unfold wrap64; omega
  have e : wrap64 (wrap64 ((2 : Int) ^ m) - 1) = ((2 ^ m - 1 : Nat) : Int) := by rw [e1, e0]; unfold wrap64; omega
  have b1 : (BitVec.ofInt 64 (N : Int)).toNat = N := by rw [BitVec.ofInt_natCast, BitVec.toNat_ofNat]; exact Nat.mod_eq_of_lt (by omega)
  have b2 : (BitVec.ofInt 64 ((2 ^ m - 1 : Nat) : Int)).toNat = 2 ^ m - 1 := by rw [BitVec.ofInt_natCast, BitVec.toNat_ofNat]; exact Nat.mod_eq_of_lt (by omega)
  rw [e]
  show IntKind.i64.wrap ((BitVec.ofInt 64 (N : Int) &&& BitVec.ofInt 64 ((2 ^ m - 1 : Nat) : Int)).toNat : Int) = _
  rw [BitVec.toNat_and, b1, b2, Nat.and_two_pow_sub_one_eq_mod]
  have : N % 2 ^ m < 2 ^ m := Nat.mod_lt _ (by omega)
  exact IntWalk.i64_in _ (by omega)
end Dg
theorem rb32_to (s : ByteArray) (hs : s.size ≤ 10000000) (X : ByteArray) (hX : Dg.b32 s.data.toList = X.data.toList) (w : World) :
    Calls Tryd.prog 47 #[.string s] w fun e w' => e = .returned (.string X) ∧ Below w.heap.size w w' :=
  (rb32_any s hs w).mono fun e w' ⟨h1, h2⟩ => ⟨by rw [h1, hX, str_back], h2⟩
set_option maxHeartbeats 8000000 in
set_option maxRecDepth 100000 in
theorem runb32_any (s : ByteArray) (hs : s.size ≤ 1000000) (w : World) :
    Calls Tryd.prog 38 #[.string s] w fun e w' => e = .returned (.tuple #[.string ⟨((Dg.unb32 s.data.toList).getD []).toArray⟩, .bool (Dg.unb32 s.data.toList).isSome]) ∧ Below w.heap.size w w' := by
  have hz := Lib.hid (Lib.size_eq s)
  obtain ⟨U, hU⟩ : ∃ U, Dg.unb32 s.data.toList = U := ⟨_, rfl⟩
  rw [hU]
  have HU := Lib.hid (show ∀ P : Option (List UInt8) → Prop, (P (Dg.unb32 s.data.toList) ↔ P U) from fun P => by rw [hU])
  clear hU
  go_enter Tryd.func38, Tryd.ntmps38
  go_wp2_with fail
  go_loopw [4, 5, 6, 7] (fun v gv sv i wr => ∃ (k size G : Nat) (vv : Value) (L : List UInt8), vv = v ∧ gv = .int .i64 G ∧ sv = .int .i64 size ∧ i = .int .i64 k ∧ k ≤ s.size ∧ size < 8 ∧ G < 2 ^ size ∧ L.length ≤ k ∧
      Hid (Dg.dec2 0 0 s.data.toList = (Dg.dec2 G size (s.data.toList.drop k)).map (L ++ ·)) ∧ Hid (BytesOf wr w.heap.size vv L) ∧ Hid (Below w.heap.size w wr)) (fun _ _ _ i _ => s.size - (intOf i).toNat)
  case atStart => exact ⟨0, 0, 0, _, [], rfl, rfl, rfl, rfl, by omega, by omega, by omega, by simp, (by first | exact trivial | (show _ = _; simp)), World.ownsRow_nil _ _ _ _, Below.refl _ _⟩
  case round =>
    obtain ⟨k, size, G, v, L, rfl, rfl, rfl, rfl, hk, hsz, hG, hL, hinv, hown, hB⟩ := hrel
    have hG8 : G < 128 := Nat.lt_of_lt_of_le hG (Nat.pow_le_pow_right (by omega) (show size ≤ 7 by omega))
    by_cases hlt : k < s.size
    · have b0 : (k : Int) < (s.size : Int) := by omega
      obtain ⟨c, hc⟩ : ∃ c, s[k] = c := ⟨_, rfl⟩
      have hd : s.data.toList.drop k = c :: s.data.toList.drop (k + 1) := by
        rw [List.drop_eq_getElem_cons (by rw [← hz.out]; exact hlt), ← hc]
        rfl
      have hE := hinv.out
      rw [hd] at hE
      have HE := Lib.hid hE
      have hcl := UInt8.toNat_lt c
      clear hinv hd hE
      by_cases a1 : 97 ≤ c.toNat
      · by_cases a2 : c.toNat ≤ 122
        · have a3 : ¬ c.toNat ≤ 55 := by omega
          have a4 : 50 ≤ c.toNat := by omega
          obtain ⟨d, hdd⟩ : ∃ d, c.toNat - 97 = d := ⟨_, rfl⟩
          have hv : Dg.b32V c = some d := by unfold Dg.b32V; rw [if_pos ⟨a1, a2⟩]; rw [hdd]
          have hdi : ((c.toNat : Int) - 97) = (d : Int) := by omega
          have hd32 := (Dg.b32V_some hv).1
          obtain ⟨N, hN⟩ : ∃ N, G * 32 + d = N := ⟨_, rfl⟩
          have hNi : (32 * (G : Int) + (d : Int)) = (N : Int) := by omega
          have hNl : N < 4096 := by omega
          by_cases h3 : 3 ≤ size
          · have hE := HE.out
            rw [Dg.dec2_take hv G size _ h3, hN] at hE
            obtain ⟨m, hm'⟩ : ∃ m, size - 3 = m := ⟨_, rfl⟩
            rw [hm'] at hE
            have hq : N / 2 ^ m < 256 := by
              rw [Nat.div_lt_iff_lt_mul (Nat.two_pow_pos _)]
              have : 2 ^ size = 2 ^ m * 8 := by rw [show (8 : Nat) = 2 ^ 3 from rfl, ← Nat.pow_add]; congr 1; omega
              omega
            have hzm : ((N : Int) / 2 ^ m) = ((UInt8.ofNat (N / 2 ^ m)).toNat : Int) := by
              rw [UInt8.toNat_ofNat', Nat.mod_eq_of_lt hq]
              simp
            have hmask := Dg.and_mask N m (by omega) (by omega)
            have hml : N % 2 ^ m < 2 ^ m := Nat.mod_lt _ (Nat.two_pow_pos _)
            obtain ⟨z, hzz⟩ : ∃ z, UInt8.ofNat (N / 2 ^ m) = z := ⟨_, rfl⟩
            rw [hzz] at hE hzm
            obtain ⟨G', hG'⟩ : ∃ G', N % 2 ^ m = G' := ⟨_, rfl⟩
            rw [hG'] at hE hmask hml
            have HE2 := Lib.hid hE
            have e1 : IntKind.i64.wrap ((size : Int) + 5 - 8) = (m : Int) := by rw [IntWalk.i64_in _ (by omega)]; omega
            have hm1 : m + 3 ≤ size := by omega
            have hzl := UInt8.toNat_lt z
            clear hE hm' hzz hG' HE hv hq
            go_wp2_with (at_builtin; refine wpList_append_bytes (by rfl) (.tmp 59) (.tmp 64) (by rfl) w.heap.size _ L (by rfl) (hown.out.alloc _) ⟨wr.heap.size, 0, none⟩ 1 1 [z] (by rfl) rfl (cells_new wr (bv [z]) _) (by omega) (Nat.le_trans hB.out.size (by first | exact Nat.le_succ _ | simp)) ?_; intro v1 w3 hown3 hgrow; have HO3 := Lib.hid hown3; have HB3 := Lib.hid (below_grown (below_alloc hB.out (Nat.le_refl _) _) (hown.out.alloc _) hgrow (Nat.le_refl _) (Nat.le_refl _)); clear hown3 hgrow)
            go_roundw
            case rel => exact ⟨k + 1, m, G', v1, L ++ [z], rfl, rfl, by first | rfl | go_num, by go_num, by omega, by omega, hml, by rw [List.length_append, List.length_singleton]; omega, (by show _ = _; rw [HE2.out, Option.map_map]; congr 1; funext t; simp), HO3.out, HB3.out⟩
            case measure => simp [intOf]; omega
          · have hE := HE.out
            rw [Dg.dec2_wait hv G size _ h3, hN] at hE
            have HE2 := Lib.hid hE
            have hNs : N < 2 ^ (size + 5) := by
              have : 2 ^ (size + 5) = 2 ^ size * 32 := by rw [Nat.pow_add]
              omega
            clear hE HE hv
            go_wp2
            go_roundw
            case rel => exact ⟨k + 1, size + 5, N, v, L, rfl, by first | rfl | go_num, by first | rfl | go_num, by go_num, by omega, by omega, hNs, by omega, HE2.out, hown.out, hB.out⟩
            case measure => simp [intOf]; omega
        · have a3 : ¬ c.toNat ≤ 55 := by omega
          have a4 : 50 ≤ c.toNat := by omega
          have hv : Dg.b32V c = none := by unfold Dg.b32V; rw [if_neg (fun h => a2 h.2), if_neg (fun h => a3 h.2)]
          have hUn : U = none := (HU.out (fun u => u = none)).1 (Dg.unb32_by_dec2_none (by rw [HE.out, Dg.dec2_none hv]; rfl))
          clear HE hv
          go_wp2
          go_ret2
          exact ⟨by first | rfl | (rw [hUn]; rfl), hB.out⟩
      · by_cases a4 : 50 ≤ c.toNat
        · by_cases a3 : c.toNat ≤ 55
          · obtain ⟨d, hdd⟩ : ∃ d, c.toNat - 24 = d := ⟨_, rfl⟩
            have hv : Dg.b32V c = some d := by unfold Dg.b32V; rw [if_neg (fun h => a1 h.1), if_pos ⟨a4, a3⟩]; rw [hdd]
            have hdi : ((c.toNat : Int) - 50 + 26) = (d : Int) := by omega
            have hd32 := (Dg.b32V_some hv).1
            obtain ⟨N, hN⟩ : ∃ N, G * 32 + d = N := ⟨_, rfl⟩
            have hNi : (32 * (G : Int) + (d : Int)) = (N : Int) := by omega
            have hNl : N < 4096 := by omega
            by_cases h3 : 3 ≤ size
            · have hE := HE.out
              rw [Dg.dec2_take hv G size _ h3, hN] at hE
              obtain ⟨m, hm'⟩ : ∃ m, size - 3 = m := ⟨_, rfl⟩
              rw [hm'] at hE
              have hq : N / 2 ^ m < 256 := by
                rw [Nat.div_lt_iff_lt_mul (Nat.two_pow_pos _)]
                have : 2 ^ size = 2 ^ m * 8 := by rw [show (8 : Nat) = 2 ^ 3 from rfl, ← Nat.pow_add]; congr 1; omega
                omega
              have hzm : ((N : Int) / 2 ^ m) = ((UInt8.ofNat (N / 2 ^ m)).toNat : Int) := by
                rw [UInt8.toNat_ofNat', Nat.mod_eq_of_lt hq]
                simp
              have hmask := Dg.and_mask N m (by omega) (by omega)
              have hml : N % 2 ^ m < 2 ^ m := Nat.mod_lt _ (Nat.two_pow_pos _)
              obtain ⟨z, hzz⟩ : ∃ z, UInt8.ofNat (N / 2 ^ m) = z := ⟨_, rfl⟩
              rw [hzz] at hE hzm
              obtain ⟨G', hG'⟩ : ∃ G', N % 2 ^ m = G' := ⟨_, rfl⟩
              rw [hG'] at hE hmask hml
              have HE2 := Lib.hid hE
              have e1 : IntKind.i64.wrap ((size : Int) + 5 - 8) = (m : Int) := by rw [IntWalk.i64_in _ (by omega)]; omega
              have hm1 : m + 3 ≤ size := by omega
              have hzl := UInt8.toNat_lt z
              clear hE hm' hzz hG' HE hv hq
              go_wp2_with (at_builtin; refine wpList_append_bytes (by rfl) (.tmp 59) (.tmp 64) (by rfl) w.heap.size _ L (by rfl) (hown.out.alloc _) ⟨wr.heap.size, 0, none⟩ 1 1 [z] (by rfl) rfl (cells_new wr (bv [z]) _) (by omega) (Nat.le_trans hB.out.size (by first | exact Nat.le_succ _ | simp)) ?_; intro v1 w3 hown3 hgrow; have HO3 := Lib.hid hown3; have HB3 := Lib.hid (below_grown (below_alloc hB.out (Nat.le_refl _) _) (hown.out.alloc _) hgrow (Nat.le_refl _) (Nat.le_refl _)); clear hown3 hgrow)
              go_roundw
              case rel => exact ⟨k + 1, m, G', v1, L ++ [z], rfl, rfl, by first | rfl | go_num, by go_num, by omega, by omega, hml, by rw [List.length_append, List.length_singleton]; omega, (by show _ = _; rw [HE2.out, Option.map_map]; congr 1; funext t; simp), HO3.out, HB3.out⟩
              case measure => simp [intOf]; omega
            · have hE := HE.out
              rw [Dg.dec2_wait hv G size _ h3, hN] at hE
              have HE2 := Lib.hid hE
              have hNs : N < 2 ^ (size + 5) := by
                have : 2 ^ (size + 5) = 2 ^ size * 32 := by rw [Nat.pow_add]
                omega
              clear hE HE hv
              go_wp2
              go_roundw
              case rel => exact ⟨k + 1, size + 5, N, v, L, rfl, by first | rfl | go_num, by first | rfl | go_num, by go_num, by omega, by omega, hNs, by omega, HE2.out, hown.out, hB.out⟩
              case measure => simp [intOf]; omega
          · have hv : Dg.b32V c = none := by unfold Dg.b32V; rw [if_neg (fun h => a1 h.1), if_neg (fun h => a3 h.2)]
            have hUn : U = none := (HU.out (fun u => u = none)).1 (Dg.unb32_by_dec2_none (by rw [HE.out, Dg.dec2_none hv]; rfl))
            clear HE hv
            go_wp2
            go_ret2
            exact ⟨by first | rfl | (rw [hUn]; rfl), hB.out⟩
        · have hv : Dg.b32V c = none := by unfold Dg.b32V; rw [if_neg (fun h => a1 h.1), if_neg (fun h => a4 h.1)]
          have hUn : U = none := (HU.out (fun u => u = none)).1 (Dg.unb32_by_dec2_none (by rw [HE.out, Dg.dec2_none hv]; rfl))
          clear HE hv
          go_wp2
          go_ret2
          exact ⟨by first | rfl | (rw [hUn]; rfl), hB.out⟩
    · obtain rfl : k = s.size := by omega
      have hE := hinv.out
      rw [List.drop_of_length_le (by rw [← hz.out]; exact Nat.le_refl _)] at hE
      have hE2 : Dg.dec2 0 0 s.data.toList = some L := by rw [hE]; simp [Dg.dec2]
      have hcv := hown.out.back
      obtain ⟨LB, hLB⟩ : ∃ X : ByteArray, L = X.data.toList := ⟨⟨L.toArray⟩, rfl⟩
      obtain ⟨Bk, hBk⟩ : ∃ X : ByteArray, Dg.b32 L = X.data.toList := ⟨⟨(Dg.b32 L).toArray⟩, rfl⟩
      have hst : (⟨L.toArray⟩ : ByteArray) = LB := by rw [hLB, str_back]
      have hLs : LB.size ≤ 1000000 := by rw [Lib.size_eq, ← hLB]; omega
      have CB := Lib.hid (rb32_to LB (by omega) Bk (by rw [← hLB]; exact hBk))
      by_cases hb : Bk = s
      · have hUs : U = some L := (HU.out (fun u => u = some L)).1 (by
          have := Dg.unb32_b32 L
          rw [hBk, hb] at this
          exact this)
        have hUg : (⟨(U.getD []).toArray⟩ : ByteArray) = LB ∧ U.isSome = true := by rw [hUs]; exact ⟨hst, rfl⟩
        have HUg := Lib.hid hUg
        subst hb
        rw [hst] at hcv
        have HcL := Lib.hid (fun (w' : World) (h : Below wr.heap.size wr w') => (by have := (hown.out.below h).back; rw [hst] at this; exact this : (convert 51 9 v).run Tryd.prog w' = .ok (.string LB) w'))
        clear hE hE2 hinv hLB hBk hst hLs hUs hUg
        go_wp2_with fail
        refine (CB.out wr).mono ?_
        rintro e w5 ⟨rfl, hb5⟩
        have hcv5 := HcL.out w5 hb5
        have HB5 := Lib.hid (hB.out.trans (hb5.mono hB.out.size))
        clear hb5
        go_wp2
        go_ret2
        exact ⟨by rw [HUg.out.1, HUg.out.2]; rfl, HB5.out⟩
      · have hne : Dg.b32 L ≠ s.data.toList := fun e => hb (by rw [← str_back Bk, ← hBk, e, str_back])
        have hUn : U = none := (HU.out (fun u => u = none)).1 (Dg.unb32_by_dec2 hE2 hne)
        have hse : ¬ (Bk.toList = s.toList) := fun e => by
          rw [ByteArray.toList_eq, ByteArray.toList_eq] at e
          exact hb (by rw [← str_back Bk, e, str_back])
        have hse2 : (Bk.toList == s.toList) = false := beq_eq_false_iff_ne.2 hse
        have hse3 : (Bk.toList != s.toList) = true := by simpa using hse
        rw [hst] at hcv
        clear hE hE2 hinv hLB hBk hst hLs hne
        go_wp2_with fail
        refine (CB.out wr).mono ?_
        rintro e w5 ⟨rfl, hb5⟩
        have HB5 := Lib.hid (hB.out.trans (hb5.mono hB.out.size))
        clear hb5
        go_wp2
        go_ret2
        exact ⟨by first | rfl | (rw [hUn]; rfl), HB5.out⟩
end Go.Proofs.YtdleaipcogomfaaDoor
