/-
  The reference's bit; base 32 by single bits.
-/
import Derived.Test.YtdleaipcogomfaaDoorDRefE
namespace Go.Proofs.YtdleaipcogomfaaDoor
open Go Go.RowKit Go.Shelf
namespace Dg
def bn (l : List UInt8) (j : Nat) : Nat := if j < 8 * l.length then (l.getD (j / 8) 0).toNat / 2 ^ (7 - j % 8) % 2 else 0
theorem bn_le (l : List UInt8) (j : Nat) : bn l j ≤ 1 := by unfold bn; split <;> omega
theorem B_at : ∀ (n v i : Nat), i < n → (B n v)[i]? = some (decide (v / 2 ^ (n - 1 - i) % 2 = 1))
  | 0, _, _, h => by omega
  | n + 1, v, i, h => by
    show (B n (v / 2) ++ [decide (v % 2 = 1)])[i]? = _
    by_cases hi : i < n
    · rw [List.getElem?_append_left (by rw [B_length]; exact hi), B_at n (v / 2) i hi]
      have e : n + 1 - 1 - i = (n - 1 - i) + 1 := by omega
      rw [e, Nat.div_div_eq_div_mul, Nat.pow_succ, Nat.mul_comm 2]
    · obtain rfl : i = n := by omega
      rw [List.getElem?_append_right (by rw [B_length]; exact Nat.le_refl _), B_length, Nat.sub_self]
      simp
theorem D8_at : ∀ (l : List UInt8) (j : Nat), j < 8 * l.length → (D8 l)[j]? = some (decide (bn l j = 1))
  | [], j, h => by simp at h
  | c :: l, j, h => by
    rw [D8_cons]
    by_cases hj : j < 8
    · rw [List.getElem?_append_left (by rw [B_length]; exact hj), B_at 8 _ _ hj]
      unfold bn
      rw [if_pos h, show j / 8 = 0 from by omega, Nat.mod_eq_of_lt hj]
      rfl
    · rw [List.getElem?_append_right (by rw [B_length]; omega), B_length, D8_at l (j - 8) (by simp at h; omega)]
      unfold bn
      rw [if_pos h, if_pos (by simp at h; omega), show j / 8 = (j - 8) / 8 + 1 from by omega, show j % 8 = (j - 8) % 8 from by omega]
      rfl
/-- The bits from a place on, zeros behind the end. -/
def pbits (l : List UInt8) (n : Nat) : List Bool := (List.range n).map fun j => decide (bn l j = 1)
theorem pbits_end (l : List UInt8) (n : Nat) (h : 8 * l.length ≤ n) : pbits l n = D8 l ++ List.replicate (n - 8 * l.length) false := by
  apply List.ext_getElem?
  intro j
  unfold pbits
  rw [List.getElem?_map]
  by_cases h1 : j < 8 * l.length
  · rw [List.getElem?_range (by omega), List.getElem?_append_left (by rw [D8_len]; exact h1), D8_at l j h1]
    rfl
  · rw [List.getElem?_append_right (by rw [D8_len]; omega), D8_len]
    by_cases h2 : j < n
    · rw [List.getElem?_range h2, List.getElem?_replicate, if_pos (by omega)]
      have : bn l j = 0 := by unfold bn; rw [if_neg h1]
      simp [this]
    · rw [List.getElem?_eq_none (by simp; omega), List.getElem?_eq_none (by simp; omega)]
      rfl
theorem pbits_next (l : List UInt8) (n : Nat) : pbits l (n + 1) = pbits l n ++ [decide (bn l n = 1)] := by
  unfold pbits
  rw [List.range_succ, List.map_append]
  rfl
/-- The digits that are written are the right ones. -/
theorem b32_by_bits (l out : List UInt8) (n : Nat) (hv : Valid out) (h : D5 out = pbits l n) (h1 : 8 * l.length ≤ n) (h2 : n < 8 * l.length + 5) : out = b32 l := by
  obtain ⟨v', k', hk', a'⟩ := enc_bits l 0 0 (by omega)
  have a' : D5 (b32 l) = D8 l ++ List.replicate k' false := by simpa [B, b32] using a'
  have e1 := congrArg List.length h
  have e2 := congrArg List.length a'
  rw [pbits_end l n h1] at h e1
  simp only [List.length_append, D5_len, D8_len, List.length_replicate] at e1 e2
  have : n - 8 * l.length = k' := by omega
  rw [this] at h
  exact D5_inj _ _ hv v' (h.trans a'.symm)
theorem digit_val (x : Nat) (h : x < 26) : (b32Digits.getD x 0).toNat = 97 + x := by
  have H : ∀ k : Fin 26, (b32Digits.getD k.val 0).toNat = 97 + k.val := by decide +kernel
  exact H ⟨x, h⟩
theorem digit_val2 (x : Nat) (h : 26 ≤ x) (h2 : x < 32) : (b32Digits.getD x 0).toNat = 24 + x := by
  have H : ∀ k : Fin 32, 26 ≤ k.val → (b32Digits.getD k.val 0).toNat = 24 + k.val := by decide +kernel
  exact H ⟨x, h2⟩ h
theorem valid_snoc {h : List UInt8} {x : Nat} (hh : Valid h) (hx : x < 32) : Valid (h ++ [b32Digits.getD x 0]) := fun c hc => by
  rcases List.mem_append.1 hc with hc | hc
  · exact hh c hc
  · rw [List.mem_singleton.1 hc]
    exact ⟨x, b32V_digit x hx⟩
theorem D5_snoc (h : List UInt8) (x : Nat) (hx : x < 32) : D5 (h ++ [b32Digits.getD x 0]) = D5 h ++ B 5 x := by
  unfold D5
  rw [List.flatMap_append, List.flatMap_cons, List.flatMap_nil, List.append_nil, val_digit x hx]
end Dg
set_option maxHeartbeats 1000000 in
set_option maxRecDepth 100000 in
theorem rbit_any (s : ByteArray) (hs : s.size ≤ 10000000) (j : Nat) (hj : j ≤ 100000000) (w : World) :
    Calls Tryd.prog 69 #[.string s, .int .i64 j] w fun e w' => e = .returned (.int .i64 (Dg.bn s.data.toList j : Nat)) ∧ w = w' := by
  have hz := Lib.size_eq s
  by_cases h : j < 8 * s.size
  · have hb : Dg.bn s.data.toList j = (s.data.toList.getD (j / 8) 0).toNat / 2 ^ (7 - j % 8) % 2 := by
      unfold Dg.bn
      rw [if_pos (by omega)]
    obtain ⟨q, hq⟩ : ∃ q, j / 8 = q := ⟨_, rfl⟩
    obtain ⟨r, hr⟩ : ∃ r, 7 - j % 8 = r := ⟨_, rfl⟩
    have hqs : q < s.size := by omega
    obtain ⟨c, hc⟩ : ∃ c, s[q] = c := ⟨_, rfl⟩
    have hc2 : s.data.toList.getD q 0 = c := by
      rw [← hc, List.getD_eq_getElem?_getD, List.getElem?_eq_getElem (by omega)]
      rfl
    rw [hq, hr, hc2] at hb
    have e1 : ((j : Int) / 8) = (q : Int) := by omega
    have e2 : (7 - (j : Int) % 8) = (r : Int) := by omega
    have hcl := UInt8.toNat_lt c
    have hand : bits .and .i64 ((c.toNat : Int) / 2 ^ r) 1 = ((c.toNat / 2 ^ r % 2 : Nat) : Int) := by
      have hlt : c.toNat / 2 ^ r < 256 := Nat.lt_of_le_of_lt (Nat.div_le_self _ _) hcl
      have e : (c.toNat : Int) / 2 ^ r = ((c.toNat / 2 ^ r : Nat) : Int) := by simp
      rw [e]
      obtain ⟨m, hm⟩ : ∃ m, c.toNat / 2 ^ r = m := ⟨_, rfl⟩
      rw [hm] at hlt ⊢
      have H : ∀ k : Fin 256, bits .and .i64 ((k.val : Nat) : Int) 1 = ((k.val % 2 : Nat) : Int) := by decide +kernel
      exact H ⟨m, hlt⟩
    obtain ⟨V, hV⟩ : ∃ V, Dg.bn s.data.toList j = V := ⟨_, rfl⟩
    rw [hV] at hb ⊢
    rw [← hb] at hand
    have r7 : r ≤ 7 := by omega
    clear hV hb hc2 hq hr hz
    go_enter Tryd.func69, Tryd.ntmps69
    go_wp2
    go_ret
    exact ⟨rfl, rfl⟩
  · have hb : Dg.bn s.data.toList j = 0 := by
      unfold Dg.bn
      rw [if_neg (by omega)]
    rw [hb]
    clear hb hz
    go_enter Tryd.func69, Tryd.ntmps69
    go_wp2
    go_ret
    exact ⟨rfl, rfl⟩
set_option maxHeartbeats 4000000 in
set_option maxRecDepth 100000 in
theorem rb32_any (s : ByteArray) (hs : s.size ≤ 10000000) (w : World) :
    Calls Tryd.prog 47 #[.string s] w fun e w' => e = .returned (.string ⟨(Dg.b32 s.data.toList).toArray⟩) ∧ Below w.heap.size w w' := by
  have hz := Lib.hid (Lib.size_eq s)
  go_enter Tryd.func47, Tryd.ntmps47
  go_wp2_with fail
  go_loopw [3, 4] (fun v i wr => ∃ (m at_ : Nat) (vv : Value) (L : List UInt8), vv = v ∧ i = .int .i64 at_ ∧ at_ ≤ 5 * m ∧ 5 * m ≤ at_ ∧ at_ < 8 * s.size + 5 ∧ L.length ≤ m ∧ Hid (Dg.Valid L) ∧ Hid (Dg.D5 L = Dg.pbits s.data.toList at_) ∧ Hid (BytesOf wr w.heap.size vv L) ∧ Hid (Below w.heap.size w wr)) (fun _ i _ => 8 * s.size - (intOf i).toNat)
  case atStart => exact ⟨0, 0, _, [], rfl, rfl, by omega, by omega, by omega, by simp, (fun _ h => by cases h), rfl, World.ownsRow_nil _ _ _ _, Below.refl _ _⟩
  case round =>
    obtain ⟨m, at_, v, L, rfl, rfl, hm1, hm2, ha, hL, hV, hD, hown, hB⟩ := hrel
    by_cases hlt : at_ < 8 * s.size
    · have b0 : (at_ : Int) < 8 * (s.size : Int) := by omega
      go_wp2_with fail
      go_loopw [5, 6] (fun xv iv w2 => ∃ (i x : Nat), xv = .int .i64 x ∧ iv = .int .i64 i ∧ i ≤ 5 ∧ x < 2 ^ i ∧ Hid (Dg.pbits s.data.toList (at_ + i) = Dg.pbits s.data.toList at_ ++ Dg.B i x) ∧ w2 = wr) (fun _ iv _ => 5 - (intOf iv).toNat)
      case atStart => exact ⟨0, 0, rfl, rfl, by omega, by omega, (by first | exact trivial | (show _ = _; simp [Dg.B])), rfl⟩
      case round =>
        obtain ⟨i, x, rfl, rfl, hi, hx, hp, rfl⟩ := hrel
        have hx5 : x < 32 := Nat.lt_of_lt_of_le hx (Nat.pow_le_pow_right (by omega) hi)
        by_cases hi5 : i < 5
        · have hN : Dg.pbits s.data.toList (at_ + (i + 1)) = Dg.pbits s.data.toList at_ ++ Dg.B (i + 1) (2 * x + Dg.bn s.data.toList (at_ + i)) := by
            have hle := Dg.bn_le s.data.toList (at_ + i)
            rw [← Nat.add_assoc, Dg.pbits_next, hp.out, List.append_assoc]
            congr 1
            show _ = Dg.B i ((2 * x + _) / 2) ++ [decide ((2 * x + _) % 2 = 1)]
            rw [show (2 * x + Dg.bn s.data.toList (at_ + i)) / 2 = x from by omega]
            congr 2
            apply decide_eq_decide.2
            omega
          have hle := Dg.bn_le s.data.toList (at_ + i)
          obtain ⟨j, hj⟩ : ∃ j, at_ + i = j := ⟨_, rfl⟩
          have HBit := Lib.hid (fun w0 : World => rbit_any s hs j (by omega) w0)
          rw [hj] at hN hle
          obtain ⟨b, hb⟩ : ∃ b, Dg.bn s.data.toList j = b := ⟨_, rfl⟩
          rw [hb] at HBit hN hle
          have HN := Lib.hid hN
          have e1 : ((at_ : Int) + (i : Int)) = (j : Int) := by omega
          have hx2 : 2 * x + b < 2 ^ (i + 1) := by rw [Nat.pow_succ]; omega
          clear hN hb hj hp
          go_wp2_with fail
          refine (HBit.out _).mono ?_
          rintro e w5 ⟨rfl, rfl⟩
          go_wp2
          go_roundw
          case rel => exact ⟨i + 1, 2 * x + b, by go_num, by go_num, by omega, hx2, HN.out, by first | rfl | trivial⟩
          case measure => simp [intOf]; omega
        · obtain rfl : i = 5 := by omega
          have HV2 := Lib.hid (Dg.valid_snoc hV.out hx5)
          have HD2 := Lib.hid (show Dg.D5 (L ++ [Dg.b32Digits.getD x 0]) = Dg.pbits s.data.toList (at_ + 5) by rw [Dg.D5_snoc L x hx5, hD.out, hp.out])
          have d1 := Dg.digit_val x
          have d2 := Dg.digit_val2 x
          obtain ⟨z, hzd⟩ : ∃ z, Dg.b32Digits.getD x 0 = z := ⟨_, rfl⟩
          rw [hzd] at HV2 HD2 d1 d2
          have hzl := UInt8.toNat_lt z
          clear hzd hp hV hD
          by_cases h26 : x < 26
          · have dz : (97 + (x : Int)) = (z.toNat : Int) := by have := d1 h26; omega
            clear d1 d2
            go_wp2_with (at_builtin; refine wpList_append_bytes (by rfl) (.tmp 28) (.tmp 32) (by rfl) w.heap.size _ L (by rfl) (hown.out.alloc _) ⟨wr.heap.size, 0, none⟩ 1 1 [z] (by rfl) rfl (cells_new wr (bv [z]) _) (by omega) (Nat.le_trans hB.out.size (by first | exact Nat.le_succ _ | simp)) ?_; intro v1 w3 hown3 hgrow; have HO3 := Lib.hid hown3; have HB3 := Lib.hid (below_grown (below_alloc hB.out (Nat.le_refl _) _) (hown.out.alloc _) hgrow (Nat.le_refl _) (Nat.le_refl _)); clear hown3 hgrow)
            go_roundw
            case rel => exact ⟨m + 1, at_ + 5, v1, L ++ [z], rfl, by go_num, by omega, by omega, by omega, by rw [List.length_append, List.length_singleton]; omega, HV2.out, HD2.out, HO3.out, HB3.out⟩
            case measure => simp [intOf]; omega
          · have dz : (50 + (x : Int) - 26) = (z.toNat : Int) := by have := d2 (by omega) hx5; omega
            clear d1 d2
            go_wp2_with (at_builtin; refine wpList_append_bytes (by rfl) (.tmp 34) (.tmp 39) (by rfl) w.heap.size _ L (by rfl) (hown.out.alloc _) ⟨wr.heap.size, 0, none⟩ 1 1 [z] (by rfl) rfl (cells_new wr (bv [z]) _) (by omega) (Nat.le_trans hB.out.size (by first | exact Nat.le_succ _ | simp)) ?_; intro v1 w3 hown3 hgrow; have HO3 := Lib.hid hown3; have HB3 := Lib.hid (below_grown (below_alloc hB.out (Nat.le_refl _) _) (hown.out.alloc _) hgrow (Nat.le_refl _) (Nat.le_refl _)); clear hown3 hgrow)
            go_roundw
            case rel => exact ⟨m + 1, at_ + 5, v1, L ++ [z], rfl, by go_num, by omega, by omega, by omega, by rw [List.length_append, List.length_singleton]; omega, HV2.out, HD2.out, HO3.out, HB3.out⟩
            case measure => simp [intOf]; omega
    · have hE := Dg.b32_by_bits s.data.toList L at_ hV.out hD.out (by rw [← hz.out]; omega) (by rw [← hz.out]; omega)
      have HE := Lib.hid (show ∀ P : List UInt8 → Prop, P (Dg.b32 s.data.toList) → P L from fun P h => by rw [hE]; exact h)
      have hcv := hown.out.back
      clear hE hV hD
      go_wp2
      go_ret
      exact ⟨HE.out (fun t => Ending.returned (.string ⟨t.toArray⟩) = .returned (.string ⟨(Dg.b32 s.data.toList).toArray⟩)) rfl, hB.out⟩
end Go.Proofs.YtdleaipcogomfaaDoor
