/-
  Unbase32, walked.
-/
import Derived.Test.YtdleaipcogomfaaDoorDB32W
namespace Go.Proofs.YtdleaipcogomfaaDoor
open Go Go.RowKit Go.Shelf
namespace Dg
theorem byte_mod (G g k : Nat) (h : G % 2 ^ (k + 8) = g % 2 ^ (k + 8)) : UInt8.ofNat (G / 2 ^ k) = UInt8.ofNat (g / 2 ^ k) := by
  have e : ∀ x : Nat, x / 2 ^ k % 256 = x % 2 ^ (k + 8) / 2 ^ k := fun x => by
    rw [Nat.pow_add, Nat.mod_mul_right_div_self]
  apply UInt8.toNat_inj.1
  rw [UInt8.toNat_ofNat', UInt8.toNat_ofNat']
  show G / 2 ^ k % 256 = g / 2 ^ k % 256
  rw [e, e, h]
theorem mod_mul32 {G g s d : Nat} (h : G % 2 ^ s = g % 2 ^ s) : (G * 32 + d) % 2 ^ (s + 5) = (g * 32 + d) % 2 ^ (s + 5) := by
  have e : ∀ x : Nat, (x * 32) % 2 ^ (s + 5) = x % 2 ^ s * 32 := fun x => by
    rw [Nat.pow_add]
    show x * 2 ^ 5 % (2 ^ s * 2 ^ 5) = _
    rw [Nat.mul_mod_mul_right]
  rw [Nat.add_mod, e, h, ← e, ← Nat.add_mod]
theorem dec_mod : ∀ (l : List UInt8) (G g s : Nat), G % 2 ^ s = g % 2 ^ s → dec G s l = dec g s l
  | [], G, g, s, h => by unfold dec; rw [h]
  | c :: l, G, g, s, h => by
    unfold dec
    cases b32V c with
    | none => rfl
    | some d =>
      have h5 := mod_mul32 (d := d) h
      simp only
      by_cases h3 : 3 ≤ s
      · rw [if_pos h3, if_pos h3, byte_mod (G * 32 + d) (g * 32 + d) (s - 3) (by rw [show s - 3 + 8 = s + 5 from by omega]; exact h5), mod_less h5 (show s - 3 ≤ s + 5 by omega)]
      · rw [if_neg h3, if_neg h3]
        exact dec_mod l _ _ (s + 5) h5
theorem dec_none {c : UInt8} (h : b32V c = none) (G s : Nat) (l : List UInt8) : dec G s (c :: l) = none := by
  unfold dec; rw [h]
theorem dec_take {c : UInt8} {d : Nat} (h : b32V c = some d) (G V s : Nat) (l : List UInt8) (hs : s < 8) (hV : V % 4294967296 = (G * 32 + d) % 4294967296) (h3 : 3 ≤ s) : dec G s (c :: l) = (dec V (s - 3) l).map (UInt8.ofNat (V / 2 ^ (s - 3)) :: ·) := by
  have h32 : V % 2 ^ 32 = (G * 32 + d) % 2 ^ 32 := hV
  conv => lhs; unfold dec
  rw [h]
  simp only
  rw [if_pos h3, ← byte_mod V (G * 32 + d) (s - 3) (mod_less h32 (by omega)), ← dec_mod l V ((G * 32 + d) % 2 ^ (s - 3)) (s - 3) (by rw [Nat.mod_mod]; exact mod_less h32 (by omega))]
theorem dec_wait {c : UInt8} {d : Nat} (h : b32V c = some d) (G V s : Nat) (l : List UInt8) (hV : V % 4294967296 = (G * 32 + d) % 4294967296) (h3 : ¬ 3 ≤ s) : dec G s (c :: l) = dec V (s + 5) l := by
  have h32 : V % 2 ^ 32 = (G * 32 + d) % 2 ^ 32 := hV
  conv => lhs; unfold dec
  rw [h]
  simp only
  rw [if_neg h3]
  exact (dec_mod l V _ (s + 5) (mod_less h32 (by omega))).symm
theorem shl_or5 (G : W32) (d : Nat) (hd : d < 32) : ∃ V : W32, bits .or .u32 ((G.toNat : Int) * 32 % (4294967296 : Int)) (d : Int) = (V.toNat : Int) ∧ V.toNat % 4294967296 = (G.toNat * 32 + d) % 4294967296 := by
  refine ⟨BitVec.ofNat 32 (G.toNat * 32 + d), ?_, by rw [BitVec.toNat_ofNat]; omega⟩
  obtain ⟨q, hq⟩ : ∃ q, G.toNat % 134217728 = q := ⟨_, rfl⟩
  have e1 : (G.toNat : Int) * 32 % (4294967296 : Int) = ((32 * q : Nat) : Int) := by omega
  rw [e1, u32_or_nat _ _ (by omega) (by omega), show 32 * q ||| d = 32 * q + d from or_add q d 5 (by omega), BitVec.toNat_ofNat]
  omega
def b32I (c : UInt8) : Int := match b32V c with | some n => (n : Int) | none => -1
theorem b32I_index (c : UInt8) : Lib.indexByte [97, 98, 99, 100, 101, 102, 103, 104, 105, 106, 107, 108, 109, 110, 111, 112, 113, 114, 115, 116, 117, 118, 119, 120, 121, 122, 50, 51, 52, 53, 54, 55] c = b32I c := by
  have H : ∀ k : Fin 256, Lib.indexByte [97, 98, 99, 100, 101, 102, 103, 104, 105, 106, 107, 108, 109, 110, 111, 112, 113, 114, 115, 116, 117, 118, 119, 120, 121, 122, 50, 51, 52, 53, 54, 55] (UInt8.ofNat k.val) = b32I (UInt8.ofNat k.val) := by decide +kernel
  have := H ⟨c.toNat, UInt8.toNat_lt c⟩
  simpa using this
end Dg
theorem b32Idx_call (c : UInt8) (w : World) :
    Calls Tryd.prog 63 #[.string ⟨#[97, 98, 99, 100, 101, 102, 103, 104, 105, 106, 107, 108, 109, 110, 111, 112, 113, 114, 115, 116, 117, 118, 119, 120, 121, 122, 50, 51, 52, 53, 54, 55]⟩, .int .u8 (c.toNat : Int)] w fun e w' => e = .returned (.int .i64 (Dg.b32I c)) ∧ w = w' :=
  (indexByte_any ⟨#[97, 98, 99, 100, 101, 102, 103, 104, 105, 106, 107, 108, 109, 110, 111, 112, 113, 114, 115, 116, 117, 118, 119, 120, 121, 122, 50, 51, 52, 53, 54, 55]⟩ (c.toNat : Int) w).mono fun e w' ⟨h1, h2⟩ => ⟨by rw [h1, ← Dg.b32I_index]; simp, h2⟩
theorem mask_and (G : Dg.W32) (m : Nat) (hm : m ≤ 8) : bits .and .u32 (G.toNat : Int) (((2 : Int) ^ m - 1) % (4294967296 : Int)) = ((G.toNat % 2 ^ m : Nat) : Int) := by
  have hp : 2 ^ m ≤ 2 ^ 8 := Nat.pow_le_pow_right (by omega) hm
  have h1 : 1 ≤ 2 ^ m := Nat.one_le_two_pow
  have e0 : (2 : Int) ^ m - 1 = ((2 ^ m - 1 : Nat) : Int) := by
    rw [Int.ofNat_sub h1]; simp
  have e : ((2 : Int) ^ m - 1) % (4294967296 : Int) = ((2 ^ m - 1 : Nat) : Int) := by rw [e0]; omega
  rw [e, u32_and_nat _ _ G.isLt (by omega), Nat.and_two_pow_sub_one_eq_mod]
set_option maxHeartbeats 4000000 in
set_option maxRecDepth 100000 in
theorem unb32_any (s : ByteArray) (hs : s.size ≤ 10000000) (w : World) :
    Calls Tryd.prog 37 #[.string s] w fun e w' => e = .returned (.tuple #[.string ⟨((Dg.unb32 s.data.toList).getD []).toArray⟩, .bool (Dg.unb32 s.data.toList).isSome]) ∧ Below w.heap.size w w' := by
  obtain ⟨i0, hi, hz0, hz1, hz2⟩ := info_parts infoU
  have hz := Lib.hid (Lib.size_eq s)
  obtain ⟨n2, hn2⟩ : ∃ n, n = 5 * s.size / 8 := ⟨_, rfl⟩
  have hn3 : n2 ≤ 20000000 := by omega
  have hm : ((5 : Int) * (s.size : Int)) / 8 = (n2 : Int) := by omega
  clear hn2
  obtain ⟨l, hl⟩ : ∃ l, s.data.toList = l := ⟨_, rfl⟩
  rw [hl] at hz ⊢
  have HL := Lib.hid (show ∀ P : List UInt8 → Prop, P s.data.toList → P l from fun P h => by rw [← hl]; exact h)
  clear hl
  obtain ⟨U, hU⟩ : ∃ U, Dg.unb32 l = U := ⟨_, rfl⟩
  rw [hU]
  have HU := Lib.hid (show ∀ P : Option (List UInt8) → Prop, (P (Dg.unb32 l) ↔ P U) from fun P => by rw [hU])
  clear hU
  go_enter Tryd.func37, Tryd.ntmps37
  go_wp2_with (at_make; refine wpList_make_own _ rfl _ _ 51 rfl w.heap.size 5 i0 (.int .u8 0) 1 Tryd.underlying51 hi hz0 hz1 .i64 .i64 _ n2 rfl rfl (by omega) (by rw [hz2]; omega) (by unfold maxLen; omega) (Nat.le_refl _) ?_; intro w1 hown hgrow; have HO := Lib.hid hown; have HB := Lib.hid (below_none (Below.refl w.heap.size w) hgrow (Nat.le_refl _)); clear hown hgrow)
  go_loopw [4, 5, 6, 16] (fun v gv sv i wr => ∃ (k size : Nat) (G : Dg.W32) (vv : Value) (L : List UInt8), vv = v ∧ gv = .int .u32 (G.toNat : Int) ∧ sv = .int .i64 size ∧ i = .int .i64 k ∧ k ≤ s.size ∧ size < 8 ∧ L.length ≤ k ∧
      Hid (Dg.unb32 l = (Dg.dec G.toNat size (l.drop k)).map (L ++ ·)) ∧ Hid (BytesOf wr w.heap.size vv L) ∧ Hid (Below w.heap.size w wr)) (fun _ _ _ i _ => s.size - (intOf i).toNat)
  case atStart => exact ⟨0, 0, 0, _, [], rfl, rfl, rfl, rfl, by omega, by omega, by simp, (by first | exact trivial | (show _ = _; simp [Dg.unb32])), HO.out, HB.out⟩
  case round =>
    clear HO HB
    obtain ⟨k, size, G, v, L, rfl, rfl, rfl, rfl, hk, hsz, hL, hinv, hown, hB⟩ := hrel
    by_cases hlt : k < s.size
    · obtain ⟨c, hc⟩ : ∃ c, s[k] = c := ⟨_, rfl⟩
      have hd : l.drop k = c :: l.drop (k + 1) := by
        rw [List.drop_eq_getElem_cons (by rw [← hz.out]; exact hlt), ← hc]
        congr 1
        exact HL.out (fun l => ∀ h : k < l.length, l[k] = s[k]) (fun h => rfl) _
      have hE := hinv.out
      rw [hd] at hE
      have HE := Lib.hid hE
      have hGl := G.isLt
      have hcl := UInt8.toNat_lt c
      clear hinv hd hE
      go_wp2_with fail
      refine (b32Idx_call c _).mono ?_
      rintro e w1 ⟨rfl, rfl⟩
      cases hv : Dg.b32V c with
      | none =>
        have e0 : Dg.b32I c = -1 := by unfold Dg.b32I; rw [hv]
        rw [e0]
        have hUn : U = none := (HU.out (fun u => u = none)).1 (by rw [HE.out, Dg.dec_none hv]; rfl)
        clear e0 HE hv
        go_wp2
        go_ret2
        exact ⟨by first | rfl | (rw [hUn]; rfl), hB.out⟩
      | some d =>
        have e0 : Dg.b32I c = (d : Int) := by unfold Dg.b32I; rw [hv]
        rw [e0]
        have hd32 := (Dg.b32V_some hv).1
        obtain ⟨V, hV, hVm⟩ := Dg.shl_or5 G d hd32
        have hVl := V.isLt
        by_cases h3 : 3 ≤ size
        · have hE := HE.out
          rw [Dg.dec_take hv G.toNat V.toNat size _ hsz hVm h3] at hE
          obtain ⟨m, hm'⟩ : ∃ m, size - 3 = m := ⟨_, rfl⟩
          rw [hm'] at hE
          have hzm : ((V.toNat : Int) / 2 ^ m) % (256 : Int) = ((UInt8.ofNat (V.toNat / 2 ^ m)).toNat : Int) := by
            rw [UInt8.toNat_ofNat']
            simp
          obtain ⟨z, hzz⟩ : ∃ z, UInt8.ofNat (V.toNat / 2 ^ m) = z := ⟨_, rfl⟩
          rw [hzz] at hE hzm
          have HE2 := Lib.hid hE
          have e1 : IntKind.i64.wrap ((size : Int) + 5 - 8) = (m : Int) := by rw [IntWalk.i64_in _ (by omega)]; omega
          have hm1 : m + 3 ≤ size := by omega
          clear hE hm' hzz HE hv e0 hVm
          go_wp2_with (at_builtin; go_must (refine wpList_append_bytes (by rfl) _ _ (by rfl) w.heap.size _ L (by rfl) (hown.out.alloc _) ⟨wr.heap.size, 0, none⟩ 1 1 [z] (by rfl) rfl (cells_new wr (bv [z]) _) (by omega) (Nat.le_trans hB.out.size (by first | exact Nat.le_succ _ | simp)) ?_); intro v1 w3 hown3 hgrow; have HO3 := Lib.hid hown3; have HB3 := Lib.hid (below_grown (below_alloc hB.out (Nat.le_refl _) _) (hown.out.alloc _) hgrow (Nat.le_refl _) (Nat.le_refl _)); clear hown3 hgrow)
          go_roundw
          case rel => exact ⟨k + 1, m, V, v1, L ++ [z], rfl, rfl, by first | rfl | go_num, by go_num, by omega, by omega, by rw [List.length_append, List.length_singleton]; omega, (by show _ = _; rw [HE2.out, Option.map_map]; congr 1; funext t; simp), HO3.out, HB3.out⟩
          case measure => simp [intOf]; omega
        · have hE := HE.out
          rw [Dg.dec_wait hv G.toNat V.toNat size _ hVm h3] at hE
          have HE2 := Lib.hid hE
          clear hE HE hv e0 hVm
          go_wp2
          go_roundw
          case rel => exact ⟨k + 1, size + 5, V, v, L, rfl, rfl, by first | rfl | go_num, by go_num, by omega, by omega, by omega, HE2.out, hown.out, hB.out⟩
          case measure => simp [intOf]; omega
    · obtain rfl : k = s.size := by omega
      have hE := hinv.out
      rw [List.drop_of_length_le (by rw [← hz.out]; exact Nat.le_refl _)] at hE
      unfold Dg.dec at hE
      have hGl := G.isLt
      by_cases h5 : 5 ≤ size
      · rw [if_pos (.inl h5)] at hE
        have hUn : U = none := (HU.out (fun u => u = none)).1 (by rw [hE]; rfl)
        clear hE hinv
        go_wp2
        go_ret2
        exact ⟨by first | rfl | (rw [hUn]; rfl), hB.out⟩
      · have hmask := mask_and G size (by omega)
        by_cases h0 : G.toNat % 2 ^ size = 0
        · rw [if_neg (by omega)] at hE
          have hUs : U = some L := (HU.out (fun u => u = some L)).1 (by rw [hE]; simp)
          have hcv := hown.out.back
          rw [h0] at hmask
          have b5 : ¬ (5 ≤ (size : Int)) := by omega
          clear hE hinv h0
          go_wp2
          go_ret2
          exact ⟨by first | rfl | (rw [hUs]; rfl), hB.out⟩
        · rw [if_pos (.inr h0)] at hE
          have hUn : U = none := (HU.out (fun u => u = none)).1 (by rw [hE]; rfl)
          have hne : (bits .and .u32 (G.toNat : Int) (((2 : Int) ^ size - 1) % (4294967296 : Int)) != 0) = true := by
            rw [hmask, bne_iff_ne]
            omega
          have b5 : ¬ (5 ≤ (size : Int)) := by omega
          clear hE hinv hmask
          go_wp2
          go_ret2
          exact ⟨by first | rfl | (rw [hUn]; rfl), hB.out⟩
end Go.Proofs.YtdleaipcogomfaaDoor
